/- LeaseTakes: the walk. -/
import Derived.Test.YtmmcfgmnfmkdbaaMe
namespace Go.Proofs.Ytmmcfgmnfmkdbaa
open Go.RowKit
open Ls
set_option maxHeartbeats 6400000 in
set_option maxRecDepth 10000 in
theorem leaseTakes_walk (n m now span later : Int) (w : World) (ha1 : -9223372036854775808 ≤ n) (ha2 : n ≤ 9223372036854775807) (hm1 : -9223372036854775808 ≤ m) (hm2 : m ≤ 9223372036854775807) (hn1 : -9223372036854775808 ≤ now) (hn2 : now ≤ 9223372036854775807) (hs1 : -9223372036854775808 ≤ span) (hs2 : span ≤ 9223372036854775807) (hl1 : -9223372036854775808 ≤ later) (hl2 : later ≤ 9223372036854775807) :
    Calls Try.prog 3 #[.int .i64 n, .int .i64 m, .int .i64 now, .int .i64 span, .int .i64 later] w fun e w' => e = .returned (.bool true) ∧ Below w.heap.size w w' := by
  have N1 := Lib.hid (fun w => number_any now 1073741824 w (by decide) hn1 hn2 (by decide))
  have N2 := Lib.hid (fun w => number_any span 1000 w (by decide) hs1 hs2 (by decide))
  have N3 := Lib.hid (fun w => number_any later 2000 w (by decide) hl1 hl2 (by decide))
  have M0 := Lib.hid (fun (k : Nat) (w : World) (h : (k : Int) < 1073741824) => made_any n m k w ha1 ha2 hm1 hm2 (by omega) h)
  clear hn1 hn2 hs1 hs2 hl1 hl2 ha1 ha2 hm1 hm2
  go_enter Try.func3, Try.ntmps3
  go_wp2_with fail
  refine (first_any w).mono ?_
  rintro e w1 ⟨rfl, hb⟩
  have HB0 := Lib.hid hb
  clear hb
  go_wp2_with fail
  refine (N1.out _).mono ?_
  rintro e wy ⟨⟨k1, rfl, hk1⟩, rfl⟩
  go_wp2_with fail
  refine (N2.out _).mono ?_
  rintro e wy ⟨⟨k2, rfl, hk2⟩, rfl⟩
  go_wp2_with fail
  refine (N3.out _).mono ?_
  rintro e wy ⟨⟨k3, rfl, hk3⟩, rfl⟩
  obtain ⟨now', hnow⟩ : ∃ y : Int, y = (k1 : Int) := ⟨_, rfl⟩
  obtain ⟨span', hspan⟩ : ∃ y : Int, y = (k2 : Int) + 1 := ⟨_, rfl⟩
  obtain ⟨later', hlater⟩ : ∃ y : Int, y = (k3 : Int) := ⟨_, rfl⟩
  go_upto_region 7 with (fail)
  have M1 := Lib.hid (fun w => M0.out k1 w hk1)
  rw [← hnow] at M1
  try rw [← hspan]
  try rw [← hlater]
  try rw [← hnow]
  have hnow1 : 0 ≤ now' ∧ now' < 1073741824 := by omega
  have hspan1 : 1 ≤ span' ∧ span' ≤ 1000 := by omega
  have hlater1 : 0 ≤ later' ∧ later' < 2000 := by omega
  clear hnow hspan hlater hk1 hk2 hk3 M0 N1 N2 N3
  go_wp2_with fail
  refine (M1.out _).mono ?_
  rintro e v1 ⟨⟨x, rfl, hg, _⟩, hb⟩
  have HB1 := Lib.hid (HB0.out.trans (hb.mono HB0.out.size))
  clear hb HB0
  have HG := Lib.hid hg
  clear hg
  obtain ⟨id, ins, tok, nod, top, prio, wkr, epo, exp, aft, ret, bro⟩ := x
  unfold T.val
  dsimp only
  obtain ⟨hc, hb⟩ := one_lit v1 #[.int .i64 id, .int .i64 ins, .int .i64 tok, .int .i64 nod, .string top, .int .i64 prio, .string wkr, .int .i64 epo, .int .i64 exp, .int .i64 aft, .int .i64 ret, .bool bro] 25
  have HB2 := Lib.hid (HB1.out.trans (hb.mono HB1.out.size))
  have Lc2 := Lib.hid hc
  clear hc hb HB1
  go_upto_region 8 with (fail)
  generalize World.alloc v1 _ = v2 at *
  obtain ⟨⟨c0, c1, c2, c3, c4, c5, c6, c7, c8, c9, c10, c11⟩, _⟩ := dz_facts Lc2.out
  have he : 0 ≤ epo ∧ epo ≤ 60 := HG.out.epo
  have hsum : IntKind.i64.wrap (now' + span') = now' + span' := wrapI (by omega) (by omega)
  have hsum2 : IntKind.i64.wrap (now' + later') = now' + later' := wrapI (by omega) (by omega)
  have FR := Lib.hid (fun w => free_any ⟨id, ins, tok, nod, top, prio, wkr, epo, exp, aft, ret, bro⟩ now' w)
  have TK := Lib.hid (fun w => take_any ⟨id, ins, tok, nod, top, prio, wkr, epo, exp, aft, ret, bro⟩ ⟨#[119]⟩ now' span' w (by decide) he (by omega))
  have hcan : T.canTake ⟨id, ins, tok, nod, top, prio, wkr, epo, exp, aft, ret, bro⟩ ⟨#[119]⟩ now' span' = T.free ⟨id, ins, tok, nod, top, prio, wkr, epo, exp, aft, ret, bro⟩ now' := by
    unfold T.canTake
    rw [show Vr.name (⟨#[119]⟩ : ByteArray).data.toList = true by decide +kernel, decide_eq_true hspan1.1, decide_eq_true hspan1.2]
    simp
  rw [hcan] at TK
  clear hcan
  unfold T.taken T.val at TK
  unfold T.val at FR
  dsimp only at TK FR
  have HN := Lib.hid hnow1
  have HS := Lib.hid hspan1
  have HL := Lib.hid hlater1
  have HE := Lib.hid he
  have HQ2 := Lib.hid hsum2
  clear hnow1 hspan1 hlater1 he hsum hsum2
  cases hF : T.free ⟨id, ins, tok, nod, top, prio, wkr, epo, exp, aft, ret, bro⟩ now' with
  | false =>
    rw [hF] at TK FR
    have TK1 : Hid (∀ w, Calls Try.prog 10 #[.agg #[.int .i64 id, .int .i64 ins, .int .i64 tok, .int .i64 nod, .string top, .int .i64 prio, .string wkr, .int .i64 epo, .int .i64 exp, .int .i64 aft, .int .i64 ret, .bool bro], .string ⟨#[119]⟩, .int .i64 now', .int .i64 span'] w fun e w' => e = .returned (.tuple #[.agg #[.int .i64 id, .int .i64 ins, .int .i64 tok, .int .i64 nod, .string top, .int .i64 prio, .string wkr, .int .i64 epo, .int .i64 exp, .int .i64 aft, .int .i64 ret, .bool bro], .bool false]) ∧ Below w.heap.size w w') := Lib.hid (fun w => TK.out w)
    clear TK hF
    go_wp2_with fail
    refine (TK1.out _).mono ?_
    rintro e v3 ⟨rfl, hb⟩
    have Lc3 := Lib.hid (Lc2.out.below hb (Nat.le_refl _))
    have HB3 := Lib.hid (HB2.out.trans (hb.mono HB2.out.size))
    clear hb Lc2 HB2
    clear c0 c1 c2 c3 c4 c5 c6 c7 c8 c9 c10 c11
    obtain ⟨hc, hb⟩ := one_lit v3 #[.int .i64 id, .int .i64 ins, .int .i64 tok, .int .i64 nod, .string top, .int .i64 prio, .string wkr, .int .i64 epo, .int .i64 exp, .int .i64 aft, .int .i64 ret, .bool bro] 25
    have Lc4 := Lib.hid (Lc3.out.below hb (Nat.le_refl _))
    have HB4 := Lib.hid (HB3.out.trans (hb.mono HB3.out.size))
    have Ld4 := Lib.hid hc
    clear hc hb Lc3 HB3
    go_upto_region 9 with (fail)
    generalize World.alloc v3 _ = v4 at *
    obtain ⟨⟨c0, c1, c2, c3, c4, c5, c6, c7, c8, c9, c10, c11⟩, _⟩ := dz_facts Lc4.out
    obtain ⟨⟨d0, d1, d2, d3, d4, d5, d6, d7, d8, d9, d10, d11⟩, _⟩ := dz_facts Ld4.out
    go_wp2_with fail
    refine (FR.out _).mono ?_
    rintro e v5 ⟨rfl, hb⟩
    have Lc5 := Lib.hid (Lc4.out.below hb (Nat.le_refl _))
    have Ld5 := Lib.hid (Ld4.out.below hb (Nat.le_refl _))
    have HB5 := Lib.hid (HB4.out.trans (hb.mono HB4.out.size))
    clear hb Lc4 Ld4 HB4
    clear c0 c1 c2 c3 c4 c5 c6 c7 c8 c9 c10 c11 d0 d1 d2 d3 d4 d5 d6 d7 d8 d9 d10 d11
    obtain ⟨⟨c0, c1, c2, c3, c4, c5, c6, c7, c8, c9, c10, c11⟩, _⟩ := dz_facts Lc5.out
    obtain ⟨⟨d0, d1, d2, d3, d4, d5, d6, d7, d8, d9, d10, d11⟩, _⟩ := dz_facts Ld5.out
    have SM := Lib.hid (fun w => sametask_any ⟨id, ins, tok, nod, top, prio, wkr, epo, exp, aft, ret, bro⟩ w)
    unfold T.val at SM
    dsimp only at SM
    go_wp2_with fail
    refine (SM.out _).mono ?_
    rintro e v6 ⟨rfl, hb⟩
    have Lc6 := Lib.hid (Lc5.out.below hb (Nat.le_refl _))
    have Ld6 := Lib.hid (Ld5.out.below hb (Nat.le_refl _))
    have HB6 := Lib.hid (HB5.out.trans (hb.mono HB5.out.size))
    clear hb Lc5 Ld5 HB5
    clear c0 c1 c2 c3 c4 c5 c6 c7 c8 c9 c10 c11 d0 d1 d2 d3 d4 d5 d6 d7 d8 d9 d10 d11
    go_wp2
    go_ret
    exact ⟨rfl, HB6.out⟩
  | true =>
    have hfr := (free_iff _ _).1 hF
    dsimp only at hfr
    obtain ⟨hbro, hf1, hf2, hf3⟩ := hfr
    rw [hF] at TK FR
    have TK1 : Hid (∀ w, Calls Try.prog 10 #[.agg #[.int .i64 id, .int .i64 ins, .int .i64 tok, .int .i64 nod, .string top, .int .i64 prio, .string wkr, .int .i64 epo, .int .i64 exp, .int .i64 aft, .int .i64 ret, .bool bro], .string ⟨#[119]⟩, .int .i64 now', .int .i64 span'] w fun e w' => e = .returned (.tuple #[.agg #[.int .i64 id, .int .i64 ins, .int .i64 tok, .int .i64 nod, .string top, .int .i64 prio, .string ⟨#[119]⟩, .int .i64 (epo + 1), .int .i64 (now' + span'), .int .i64 aft, .int .i64 ret, .bool bro], .bool true]) ∧ Below w.heap.size w w') := Lib.hid (fun w => TK.out w)
    have HV : Hid (T.Good ⟨id, ins, tok, nod, top, prio, ⟨#[119]⟩, epo + 1, now' + span', aft, ret, bro⟩) := Lib.hid (HG.out.hold (s := ⟨#[119]⟩) (e := now' + span') (p := epo + 1) (by decide +kernel) (by decide) (by decide) (by have := HN.out; have := HS.out; omega) (by have := HN.out; have := HS.out; omega) (by have := HE.out; omega) (by omega))
    have CK := Lib.hid (fun w => check_good_any ⟨id, ins, tok, nod, top, prio, ⟨#[119]⟩, epo + 1, now' + span', aft, ret, bro⟩ HV.out w)
    have hA : T.avail ⟨id, ins, tok, nod, top, prio, ⟨#[119]⟩, epo + 1, now' + span', aft, ret, bro⟩ = decide (epo + 1 < 60) := by
      unfold T.avail
      rw [hbro]
      rfl
    have hD : T.due ⟨id, ins, tok, nod, top, prio, ⟨#[119]⟩, epo + 1, now' + span', aft, ret, bro⟩ = now' + span' := by
      unfold T.due
      have := HS.out
      by_cases h : aft < now' + span'
      · exact if_pos h
      · exact absurd h (by omega)
    have FV := Lib.hid (fun w => free_any ⟨id, ins, tok, nod, top, prio, ⟨#[119]⟩, epo + 1, now' + span', aft, ret, bro⟩ (now' + later') w)
    have WV := Lib.hid (fun w => when_any ⟨id, ins, tok, nod, top, prio, ⟨#[119]⟩, epo + 1, now' + span', aft, ret, bro⟩ w)
    have H1 := Lib.hid (fun w => holds_any ⟨id, ins, tok, nod, top, prio, ⟨#[119]⟩, epo + 1, now' + span', aft, ret, bro⟩ ⟨#[119]⟩ (epo + 1) (now' + later') w)
    have H2 := Lib.hid (fun w => holds_any ⟨id, ins, tok, nod, top, prio, ⟨#[119]⟩, epo + 1, now' + span', aft, ret, bro⟩ ⟨#[118]⟩ (epo + 1) (now' + later') w)
    have H3 := Lib.hid (fun w => holds_any ⟨id, ins, tok, nod, top, prio, ⟨#[119]⟩, epo + 1, now' + span', aft, ret, bro⟩ ⟨#[119]⟩ epo (now' + later') w)
    rw [show T.free ⟨id, ins, tok, nod, top, prio, ⟨#[119]⟩, epo + 1, now' + span', aft, ret, bro⟩ (now' + later') = (decide (epo + 1 < 60) && decide (now' + span' ≤ now' + later')) by unfold T.free; rw [hA, hD]] at FV
    rw [hA, hD] at WV
    have h1 : T.holds ⟨id, ins, tok, nod, top, prio, ⟨#[119]⟩, epo + 1, now' + span', aft, ret, bro⟩ ⟨#[119]⟩ (epo + 1) (now' + later') = if now' + span' ≤ now' + later' then 5 else 0 := by
      unfold T.holds
      dsimp only
      rw [if_neg (by decide +kernel), if_neg (by decide +kernel), if_neg (by simp)]
    have h2 : T.holds ⟨id, ins, tok, nod, top, prio, ⟨#[119]⟩, epo + 1, now' + span', aft, ret, bro⟩ ⟨#[118]⟩ (epo + 1) (now' + later') = 4 := by
      unfold T.holds
      dsimp only
      rw [if_neg (by decide +kernel), if_pos (by decide +kernel)]
    have h3 : T.holds ⟨id, ins, tok, nod, top, prio, ⟨#[119]⟩, epo + 1, now' + span', aft, ret, bro⟩ ⟨#[119]⟩ epo (now' + later') = 4 := by
      unfold T.holds
      dsimp only
      rw [if_neg (by decide +kernel), if_neg (by decide +kernel), if_pos (by rw [beq_eq_false_iff_ne]; omega)]
    rw [h1] at H1
    rw [h2] at H2
    rw [h3] at H3
    unfold T.val at CK FV WV H1 H2 H3
    dsimp only at CK FV WV H1 H2 H3
    have hp : IntKind.i64.wrap (epo + 1) = epo + 1 := wrapI (by have := HE.out; omega) (by have := HE.out; omega)
    have HP := Lib.hid hp
    clear TK hF hf1 hf2 hf3 hA hD h1 h2 h3 hbro hp
    go_wp2_with fail
    refine (TK1.out _).mono ?_
    rintro e v3 ⟨rfl, hb⟩
    have Lc3 := Lib.hid (Lc2.out.below hb (Nat.le_refl _))
    have HB3 := Lib.hid (HB2.out.trans (hb.mono HB2.out.size))
    clear hb Lc2 HB2
    clear c0 c1 c2 c3 c4 c5 c6 c7 c8 c9 c10 c11
    obtain ⟨hc, hb⟩ := one_lit v3 #[.int .i64 id, .int .i64 ins, .int .i64 tok, .int .i64 nod, .string top, .int .i64 prio, .string ⟨#[119]⟩, .int .i64 (epo + 1), .int .i64 (now' + span'), .int .i64 aft, .int .i64 ret, .bool bro] 25
    have Lc4 := Lib.hid (Lc3.out.below hb (Nat.le_refl _))
    have HB4 := Lib.hid (HB3.out.trans (hb.mono HB3.out.size))
    have Ld4 := Lib.hid hc
    clear hc hb Lc3 HB3
    go_upto_region 9 with (fail)
    generalize World.alloc v3 _ = v4 at *
    obtain ⟨⟨c0, c1, c2, c3, c4, c5, c6, c7, c8, c9, c10, c11⟩, _⟩ := dz_facts Lc4.out
    obtain ⟨⟨d0, d1, d2, d3, d4, d5, d6, d7, d8, d9, d10, d11⟩, _⟩ := dz_facts Ld4.out
    go_wp2_with fail
    refine (FR.out _).mono ?_
    rintro e v5 ⟨rfl, hb⟩
    have Lc5 := Lib.hid (Lc4.out.below hb (Nat.le_refl _))
    have Ld5 := Lib.hid (Ld4.out.below hb (Nat.le_refl _))
    have HB5 := Lib.hid (HB4.out.trans (hb.mono HB4.out.size))
    clear hb Lc4 Ld4 HB4
    clear c0 c1 c2 c3 c4 c5 c6 c7 c8 c9 c10 c11 d0 d1 d2 d3 d4 d5 d6 d7 d8 d9 d10 d11
    obtain ⟨⟨c0, c1, c2, c3, c4, c5, c6, c7, c8, c9, c10, c11⟩, _⟩ := dz_facts Lc5.out
    obtain ⟨⟨d0, d1, d2, d3, d4, d5, d6, d7, d8, d9, d10, d11⟩, _⟩ := dz_facts Ld5.out
    have hp := HP.out
    have hq2 := HQ2.out
    go_wp2_with fail
    refine (H1.out _).mono ?_
    rintro e v6 ⟨rfl, hb⟩
    have Lc6 := Lib.hid (Lc5.out.below hb (Nat.le_refl _))
    have Ld6 := Lib.hid (Ld5.out.below hb (Nat.le_refl _))
    have HB6 := Lib.hid (HB5.out.trans (hb.mono HB5.out.size))
    clear hb Lc5 Ld5 HB5
    clear c0 c1 c2 c3 c4 c5 c6 c7 c8 c9 c10 c11 d0 d1 d2 d3 d4 d5 d6 d7 d8 d9 d10 d11
    obtain ⟨⟨c0, c1, c2, c3, c4, c5, c6, c7, c8, c9, c10, c11⟩, _⟩ := dz_facts Lc6.out
    obtain ⟨⟨d0, d1, d2, d3, d4, d5, d6, d7, d8, d9, d10, d11⟩, _⟩ := dz_facts Ld6.out
    have hsum : IntKind.i64.wrap (now' + span') = now' + span' := wrapI (by have := HN.out; have := HS.out; omega) (by have := HN.out; have := HS.out; omega)
    have HQ := Lib.hid hsum
    clear hsum
    by_cases hL : span' ≤ later'
    · have hL2 : now' + span' ≤ now' + later' := by omega
      have eL : decide (now' + span' ≤ now' + later') = true := decide_eq_true hL2
      rw [if_pos hL2]
      rw [eL, Bool.and_true] at FV
      clear hL2 eL
      go_wp2_with fail
      refine (FV.out _).mono ?_
      rintro e v7 ⟨rfl, hb⟩
      have Lc7 := Lib.hid (Lc6.out.below hb (Nat.le_refl _))
      have Ld7 := Lib.hid (Ld6.out.below hb (Nat.le_refl _))
      have HB7 := Lib.hid (HB6.out.trans (hb.mono HB6.out.size))
      clear hb Lc6 Ld6 HB6
      clear c0 c1 c2 c3 c4 c5 c6 c7 c8 c9 c10 c11 d0 d1 d2 d3 d4 d5 d6 d7 d8 d9 d10 d11
      obtain ⟨⟨c0, c1, c2, c3, c4, c5, c6, c7, c8, c9, c10, c11⟩, _⟩ := dz_facts Lc7.out
      obtain ⟨⟨d0, d1, d2, d3, d4, d5, d6, d7, d8, d9, d10, d11⟩, _⟩ := dz_facts Ld7.out
      go_wp2_with fail
      refine (WV.out _).mono ?_
      rintro e v8 ⟨rfl, hb⟩
      have Lc8 := Lib.hid (Lc7.out.below hb (Nat.le_refl _))
      have Ld8 := Lib.hid (Ld7.out.below hb (Nat.le_refl _))
      have HB8 := Lib.hid (HB7.out.trans (hb.mono HB7.out.size))
      clear hb Lc7 Ld7 HB7
      clear c0 c1 c2 c3 c4 c5 c6 c7 c8 c9 c10 c11 d0 d1 d2 d3 d4 d5 d6 d7 d8 d9 d10 d11
      obtain ⟨⟨c0, c1, c2, c3, c4, c5, c6, c7, c8, c9, c10, c11⟩, _⟩ := dz_facts Lc8.out
      obtain ⟨⟨d0, d1, d2, d3, d4, d5, d6, d7, d8, d9, d10, d11⟩, _⟩ := dz_facts Ld8.out
      by_cases hE : epo + 1 < 60
      · have eE : decide (epo + 1 < 60) = true := decide_eq_true hE
        rw [eE]
        have hq := HQ.out
        have EE := Lib.hid eE
        clear eE
        go_wp2_with fail
        refine (CK.out _).mono ?_
        rintro e v9 ⟨rfl, hb⟩
        have Lc9 := Lib.hid (Lc8.out.below hb (Nat.le_refl _))
        have Ld9 := Lib.hid (Ld8.out.below hb (Nat.le_refl _))
        have HB9 := Lib.hid (HB8.out.trans (hb.mono HB8.out.size))
        clear hb Lc8 Ld8 HB8
        clear c0 c1 c2 c3 c4 c5 c6 c7 c8 c9 c10 c11 d0 d1 d2 d3 d4 d5 d6 d7 d8 d9 d10 d11
        obtain ⟨⟨c0, c1, c2, c3, c4, c5, c6, c7, c8, c9, c10, c11⟩, _⟩ := dz_facts Lc9.out
        obtain ⟨⟨d0, d1, d2, d3, d4, d5, d6, d7, d8, d9, d10, d11⟩, _⟩ := dz_facts Ld9.out
        go_wp2_with fail
        refine (H2.out _).mono ?_
        rintro e v10 ⟨rfl, hb⟩
        have Lc10 := Lib.hid (Lc9.out.below hb (Nat.le_refl _))
        have Ld10 := Lib.hid (Ld9.out.below hb (Nat.le_refl _))
        have HB10 := Lib.hid (HB9.out.trans (hb.mono HB9.out.size))
        clear hb Lc9 Ld9 HB9
        clear c0 c1 c2 c3 c4 c5 c6 c7 c8 c9 c10 c11 d0 d1 d2 d3 d4 d5 d6 d7 d8 d9 d10 d11
        obtain ⟨⟨c0, c1, c2, c3, c4, c5, c6, c7, c8, c9, c10, c11⟩, _⟩ := dz_facts Lc10.out
        obtain ⟨⟨d0, d1, d2, d3, d4, d5, d6, d7, d8, d9, d10, d11⟩, _⟩ := dz_facts Ld10.out
        go_wp2_with fail
        refine (H3.out _).mono ?_
        rintro e v11 ⟨rfl, hb⟩
        have Lc11 := Lib.hid (Lc10.out.below hb (Nat.le_refl _))
        have Ld11 := Lib.hid (Ld10.out.below hb (Nat.le_refl _))
        have HB11 := Lib.hid (HB10.out.trans (hb.mono HB10.out.size))
        clear hb Lc10 Ld10 HB10
        clear c0 c1 c2 c3 c4 c5 c6 c7 c8 c9 c10 c11 d0 d1 d2 d3 d4 d5 d6 d7 d8 d9 d10 d11
        obtain ⟨⟨c0, c1, c2, c3, c4, c5, c6, c7, c8, c9, c10, c11⟩, _⟩ := dz_facts Lc11.out
        obtain ⟨⟨d0, d1, d2, d3, d4, d5, d6, d7, d8, d9, d10, d11⟩, _⟩ := dz_facts Ld11.out
        go_wp2
        go_ret
        exact ⟨rfl, HB11.out⟩
      · have eE : decide (epo + 1 < 60) = false := decide_eq_false hE
        rw [eE]
        have hq := HQ.out
        have EE := Lib.hid eE
        clear eE
        go_wp2_with fail
        refine (CK.out _).mono ?_
        rintro e v9 ⟨rfl, hb⟩
        have Lc9 := Lib.hid (Lc8.out.below hb (Nat.le_refl _))
        have Ld9 := Lib.hid (Ld8.out.below hb (Nat.le_refl _))
        have HB9 := Lib.hid (HB8.out.trans (hb.mono HB8.out.size))
        clear hb Lc8 Ld8 HB8
        clear c0 c1 c2 c3 c4 c5 c6 c7 c8 c9 c10 c11 d0 d1 d2 d3 d4 d5 d6 d7 d8 d9 d10 d11
        obtain ⟨⟨c0, c1, c2, c3, c4, c5, c6, c7, c8, c9, c10, c11⟩, _⟩ := dz_facts Lc9.out
        obtain ⟨⟨d0, d1, d2, d3, d4, d5, d6, d7, d8, d9, d10, d11⟩, _⟩ := dz_facts Ld9.out
        go_wp2_with fail
        refine (H2.out _).mono ?_
        rintro e v10 ⟨rfl, hb⟩
        have Lc10 := Lib.hid (Lc9.out.below hb (Nat.le_refl _))
        have Ld10 := Lib.hid (Ld9.out.below hb (Nat.le_refl _))
        have HB10 := Lib.hid (HB9.out.trans (hb.mono HB9.out.size))
        clear hb Lc9 Ld9 HB9
        clear c0 c1 c2 c3 c4 c5 c6 c7 c8 c9 c10 c11 d0 d1 d2 d3 d4 d5 d6 d7 d8 d9 d10 d11
        obtain ⟨⟨c0, c1, c2, c3, c4, c5, c6, c7, c8, c9, c10, c11⟩, _⟩ := dz_facts Lc10.out
        obtain ⟨⟨d0, d1, d2, d3, d4, d5, d6, d7, d8, d9, d10, d11⟩, _⟩ := dz_facts Ld10.out
        go_wp2_with fail
        refine (H3.out _).mono ?_
        rintro e v11 ⟨rfl, hb⟩
        have Lc11 := Lib.hid (Lc10.out.below hb (Nat.le_refl _))
        have Ld11 := Lib.hid (Ld10.out.below hb (Nat.le_refl _))
        have HB11 := Lib.hid (HB10.out.trans (hb.mono HB10.out.size))
        clear hb Lc10 Ld10 HB10
        clear c0 c1 c2 c3 c4 c5 c6 c7 c8 c9 c10 c11 d0 d1 d2 d3 d4 d5 d6 d7 d8 d9 d10 d11
        obtain ⟨⟨c0, c1, c2, c3, c4, c5, c6, c7, c8, c9, c10, c11⟩, _⟩ := dz_facts Lc11.out
        obtain ⟨⟨d0, d1, d2, d3, d4, d5, d6, d7, d8, d9, d10, d11⟩, _⟩ := dz_facts Ld11.out
        go_wp2
        go_ret
        exact ⟨ret_bool (show (!decide (epo + 1 < 60)) = true by rw [EE.out]; rfl), HB11.out⟩
    · have hL2 : ¬ (now' + span' ≤ now' + later') := by omega
      have eL : decide (now' + span' ≤ now' + later') = false := decide_eq_false hL2
      rw [if_neg hL2]
      rw [eL, Bool.and_false] at FV
      clear hL2 eL
      go_wp2_with fail
      refine (FV.out _).mono ?_
      rintro e v7 ⟨rfl, hb⟩
      have Lc7 := Lib.hid (Lc6.out.below hb (Nat.le_refl _))
      have Ld7 := Lib.hid (Ld6.out.below hb (Nat.le_refl _))
      have HB7 := Lib.hid (HB6.out.trans (hb.mono HB6.out.size))
      clear hb Lc6 Ld6 HB6
      clear c0 c1 c2 c3 c4 c5 c6 c7 c8 c9 c10 c11 d0 d1 d2 d3 d4 d5 d6 d7 d8 d9 d10 d11
      obtain ⟨⟨c0, c1, c2, c3, c4, c5, c6, c7, c8, c9, c10, c11⟩, _⟩ := dz_facts Lc7.out
      obtain ⟨⟨d0, d1, d2, d3, d4, d5, d6, d7, d8, d9, d10, d11⟩, _⟩ := dz_facts Ld7.out
      go_wp2_with fail
      refine (WV.out _).mono ?_
      rintro e v8 ⟨rfl, hb⟩
      have Lc8 := Lib.hid (Lc7.out.below hb (Nat.le_refl _))
      have Ld8 := Lib.hid (Ld7.out.below hb (Nat.le_refl _))
      have HB8 := Lib.hid (HB7.out.trans (hb.mono HB7.out.size))
      clear hb Lc7 Ld7 HB7
      clear c0 c1 c2 c3 c4 c5 c6 c7 c8 c9 c10 c11 d0 d1 d2 d3 d4 d5 d6 d7 d8 d9 d10 d11
      obtain ⟨⟨c0, c1, c2, c3, c4, c5, c6, c7, c8, c9, c10, c11⟩, _⟩ := dz_facts Lc8.out
      obtain ⟨⟨d0, d1, d2, d3, d4, d5, d6, d7, d8, d9, d10, d11⟩, _⟩ := dz_facts Ld8.out
      by_cases hE : epo + 1 < 60
      · have eE : decide (epo + 1 < 60) = true := decide_eq_true hE
        rw [eE]
        have hq := HQ.out
        have EE := Lib.hid eE
        clear eE
        go_wp2_with fail
        refine (CK.out _).mono ?_
        rintro e v9 ⟨rfl, hb⟩
        have Lc9 := Lib.hid (Lc8.out.below hb (Nat.le_refl _))
        have Ld9 := Lib.hid (Ld8.out.below hb (Nat.le_refl _))
        have HB9 := Lib.hid (HB8.out.trans (hb.mono HB8.out.size))
        clear hb Lc8 Ld8 HB8
        clear c0 c1 c2 c3 c4 c5 c6 c7 c8 c9 c10 c11 d0 d1 d2 d3 d4 d5 d6 d7 d8 d9 d10 d11
        obtain ⟨⟨c0, c1, c2, c3, c4, c5, c6, c7, c8, c9, c10, c11⟩, _⟩ := dz_facts Lc9.out
        obtain ⟨⟨d0, d1, d2, d3, d4, d5, d6, d7, d8, d9, d10, d11⟩, _⟩ := dz_facts Ld9.out
        go_wp2_with fail
        refine (H2.out _).mono ?_
        rintro e v10 ⟨rfl, hb⟩
        have Lc10 := Lib.hid (Lc9.out.below hb (Nat.le_refl _))
        have Ld10 := Lib.hid (Ld9.out.below hb (Nat.le_refl _))
        have HB10 := Lib.hid (HB9.out.trans (hb.mono HB9.out.size))
        clear hb Lc9 Ld9 HB9
        clear c0 c1 c2 c3 c4 c5 c6 c7 c8 c9 c10 c11 d0 d1 d2 d3 d4 d5 d6 d7 d8 d9 d10 d11
        obtain ⟨⟨c0, c1, c2, c3, c4, c5, c6, c7, c8, c9, c10, c11⟩, _⟩ := dz_facts Lc10.out
        obtain ⟨⟨d0, d1, d2, d3, d4, d5, d6, d7, d8, d9, d10, d11⟩, _⟩ := dz_facts Ld10.out
        go_wp2_with fail
        refine (H3.out _).mono ?_
        rintro e v11 ⟨rfl, hb⟩
        have Lc11 := Lib.hid (Lc10.out.below hb (Nat.le_refl _))
        have Ld11 := Lib.hid (Ld10.out.below hb (Nat.le_refl _))
        have HB11 := Lib.hid (HB10.out.trans (hb.mono HB10.out.size))
        clear hb Lc10 Ld10 HB10
        clear c0 c1 c2 c3 c4 c5 c6 c7 c8 c9 c10 c11 d0 d1 d2 d3 d4 d5 d6 d7 d8 d9 d10 d11
        obtain ⟨⟨c0, c1, c2, c3, c4, c5, c6, c7, c8, c9, c10, c11⟩, _⟩ := dz_facts Lc11.out
        obtain ⟨⟨d0, d1, d2, d3, d4, d5, d6, d7, d8, d9, d10, d11⟩, _⟩ := dz_facts Ld11.out
        go_wp2
        go_ret
        exact ⟨rfl, HB11.out⟩
      · have eE : decide (epo + 1 < 60) = false := decide_eq_false hE
        rw [eE]
        have hq := HQ.out
        have EE := Lib.hid eE
        clear eE
        go_wp2_with fail
        refine (CK.out _).mono ?_
        rintro e v9 ⟨rfl, hb⟩
        have Lc9 := Lib.hid (Lc8.out.below hb (Nat.le_refl _))
        have Ld9 := Lib.hid (Ld8.out.below hb (Nat.le_refl _))
        have HB9 := Lib.hid (HB8.out.trans (hb.mono HB8.out.size))
        clear hb Lc8 Ld8 HB8
        clear c0 c1 c2 c3 c4 c5 c6 c7 c8 c9 c10 c11 d0 d1 d2 d3 d4 d5 d6 d7 d8 d9 d10 d11
        obtain ⟨⟨c0, c1, c2, c3, c4, c5, c6, c7, c8, c9, c10, c11⟩, _⟩ := dz_facts Lc9.out
        obtain ⟨⟨d0, d1, d2, d3, d4, d5, d6, d7, d8, d9, d10, d11⟩, _⟩ := dz_facts Ld9.out
        go_wp2_with fail
        refine (H2.out _).mono ?_
        rintro e v10 ⟨rfl, hb⟩
        have Lc10 := Lib.hid (Lc9.out.below hb (Nat.le_refl _))
        have Ld10 := Lib.hid (Ld9.out.below hb (Nat.le_refl _))
        have HB10 := Lib.hid (HB9.out.trans (hb.mono HB9.out.size))
        clear hb Lc9 Ld9 HB9
        clear c0 c1 c2 c3 c4 c5 c6 c7 c8 c9 c10 c11 d0 d1 d2 d3 d4 d5 d6 d7 d8 d9 d10 d11
        obtain ⟨⟨c0, c1, c2, c3, c4, c5, c6, c7, c8, c9, c10, c11⟩, _⟩ := dz_facts Lc10.out
        obtain ⟨⟨d0, d1, d2, d3, d4, d5, d6, d7, d8, d9, d10, d11⟩, _⟩ := dz_facts Ld10.out
        go_wp2_with fail
        refine (H3.out _).mono ?_
        rintro e v11 ⟨rfl, hb⟩
        have Lc11 := Lib.hid (Lc10.out.below hb (Nat.le_refl _))
        have Ld11 := Lib.hid (Ld10.out.below hb (Nat.le_refl _))
        have HB11 := Lib.hid (HB10.out.trans (hb.mono HB10.out.size))
        clear hb Lc10 Ld10 HB10
        clear c0 c1 c2 c3 c4 c5 c6 c7 c8 c9 c10 c11 d0 d1 d2 d3 d4 d5 d6 d7 d8 d9 d10 d11
        obtain ⟨⟨c0, c1, c2, c3, c4, c5, c6, c7, c8, c9, c10, c11⟩, _⟩ := dz_facts Lc11.out
        obtain ⟨⟨d0, d1, d2, d3, d4, d5, d6, d7, d8, d9, d10, d11⟩, _⟩ := dz_facts Ld11.out
        go_wp2
        go_ret
        exact ⟨ret_bool (show (!decide (epo + 1 < 60)) = true by rw [EE.out]; rfl), HB11.out⟩
end Go.Proofs.Ytmmcfgmnfmkdbaa
