/- LeaseFails: the walk. -/
import Derived.Test.YtmmcfgmnfmkdbaaMe
namespace Go.Proofs.Ytmmcfgmnfmkdbaa
open Go.RowKit
open Ls
set_option maxHeartbeats 12800000 in
set_option maxRecDepth 10000 in
theorem leaseFails_walk (n m now wait later rr : Int) (w : World) (ha1 : -9223372036854775808 ≤ n) (ha2 : n ≤ 9223372036854775807) (hm1 : -9223372036854775808 ≤ m) (hm2 : m ≤ 9223372036854775807) (hn1 : -9223372036854775808 ≤ now) (hn2 : now ≤ 9223372036854775807) (hs1 : -9223372036854775808 ≤ wait) (hs2 : wait ≤ 9223372036854775807) (hl1 : -9223372036854775808 ≤ later) (hl2 : later ≤ 9223372036854775807) (hr1 : -9223372036854775808 ≤ rr) (hr2 : rr ≤ 9223372036854775807) :
    Calls Try.prog 4 #[.int .i64 n, .int .i64 m, .int .i64 now, .int .i64 wait, .int .i64 later, .int .i64 rr] w fun e w' => e = .returned (.bool true) ∧ Below w.heap.size w w' := by
  have N1 := Lib.hid (fun w => number_any now 1073741824 w (by decide) hn1 hn2 (by decide))
  have N2 := Lib.hid (fun w => number_any wait 1001 w (by decide) hs1 hs2 (by decide))
  have N3 := Lib.hid (fun w => number_any later 2000 w (by decide) hl1 hl2 (by decide))
  have N4 := Lib.hid (fun w => number_any rr 4 w (by decide) hr1 hr2 (by decide))
  have M0 := Lib.hid (fun (k : Nat) (w : World) (h : (k : Int) < 1073741824) => made_any n m k w ha1 ha2 hm1 hm2 (by omega) h)
  clear hn1 hn2 hs1 hs2 hl1 hl2 ha1 ha2 hm1 hm2 hr1 hr2
  go_enter Try.func4, Try.ntmps4
  go_wp2_with fail
  refine (first_any w).mono ?_
  rintro e w1 ⟨rfl, hb⟩
  have HB0 := Lib.hid hb
  clear hb
  go_wp2_with fail
  refine (N1.out _).mono ?_
  rintro e wy ⟨⟨k1, rfl, hk1⟩, rfl⟩
  go_wp2_with fail
  refine (N2.out _).mono ?_
  rintro e wy ⟨⟨k2, rfl, hk2⟩, rfl⟩
  go_wp2_with fail
  refine (N3.out _).mono ?_
  rintro e wy ⟨⟨k3, rfl, hk3⟩, rfl⟩
  go_wp2_with fail
  refine (N4.out _).mono ?_
  rintro e wy ⟨⟨k4, rfl, hk4⟩, rfl⟩
  obtain ⟨now', hnow⟩ : ∃ y : Int, y = (k1 : Int) := ⟨_, rfl⟩
  obtain ⟨wait', hwait⟩ : ∃ y : Int, y = (k2 : Int) := ⟨_, rfl⟩
  obtain ⟨later', hlater⟩ : ∃ y : Int, y = (k3 : Int) := ⟨_, rfl⟩
  obtain ⟨r, hr⟩ : ∃ y : Int, y = (k4 : Int) := ⟨_, rfl⟩
  go_upto_region 8 with (fail)
  have M1 := Lib.hid (fun w => M0.out k1 w hk1)
  rw [← hnow] at M1
  try rw [← hnow]
  try rw [← hwait]
  try rw [← hlater]
  try rw [← hr]
  have HN : Hid (0 ≤ now' ∧ now' < 1073741824 ∧ 0 ≤ wait' ∧ wait' ≤ 1000 ∧ 0 ≤ later' ∧ later' < 2000 ∧ 0 ≤ r ∧ r < 4) := Lib.hid (by omega)
  clear hnow hwait hlater hr hk1 hk2 hk3 hk4 M0 N1 N2 N3 N4
  go_wp2_with fail
  refine (M1.out _).mono ?_
  rintro e v1 ⟨⟨x, rfl, hg, _⟩, hb⟩
  have HB1 := Lib.hid (HB0.out.trans (hb.mono HB0.out.size))
  clear hb HB0
  have HG := Lib.hid hg
  clear hg
  obtain ⟨id, ins, tok, nod, top, prio, wkr, epo, exp, aft, ret, bro⟩ := x
  unfold T.val
  dsimp only
  have he : 0 ≤ epo ∧ epo ≤ 60 := HG.out.epo
  have HE := Lib.hid he
  have TK := Lib.hid (fun w => take_any ⟨id, ins, tok, nod, top, prio, wkr, epo, exp, aft, ret, bro⟩ ⟨#[119]⟩ now' 50 w (by decide) he (by have := HN.out; omega))
  have hcan : T.canTake ⟨id, ins, tok, nod, top, prio, wkr, epo, exp, aft, ret, bro⟩ ⟨#[119]⟩ now' 50 = T.free ⟨id, ins, tok, nod, top, prio, wkr, epo, exp, aft, ret, bro⟩ now' := by
    unfold T.canTake
    rw [show Vr.name (⟨#[119]⟩ : ByteArray).data.toList = true by decide +kernel]
    simp
  rw [hcan] at TK
  clear hcan he
  unfold T.taken T.val at TK
  dsimp only at TK
  cases hF : T.free ⟨id, ins, tok, nod, top, prio, wkr, epo, exp, aft, ret, bro⟩ now' with
  | false =>
    rw [hF] at TK
    have TK1 : Hid (∀ w, Calls Try.prog 10 #[.agg #[.int .i64 id, .int .i64 ins, .int .i64 tok, .int .i64 nod, .string top, .int .i64 prio, .string wkr, .int .i64 epo, .int .i64 exp, .int .i64 aft, .int .i64 ret, .bool bro], .string ⟨#[119]⟩, .int .i64 now', .int .i64 50] w fun e w' => e = .returned (.tuple #[.agg #[.int .i64 id, .int .i64 ins, .int .i64 tok, .int .i64 nod, .string top, .int .i64 prio, .string wkr, .int .i64 epo, .int .i64 exp, .int .i64 aft, .int .i64 ret, .bool bro], .bool false]) ∧ Below w.heap.size w w') := Lib.hid (fun w => TK.out w)
    clear TK hF
    go_wp2_with fail
    refine (TK1.out _).mono ?_
    rintro e v2 ⟨rfl, hb⟩
    have HB2 := Lib.hid (HB1.out.trans (hb.mono HB1.out.size))
    clear hb HB1
    obtain ⟨hc, hb⟩ := one_lit v2 #[.int .i64 id, .int .i64 ins, .int .i64 tok, .int .i64 nod, .string top, .int .i64 prio, .string wkr, .int .i64 epo, .int .i64 exp, .int .i64 aft, .int .i64 ret, .bool bro] 25
    have HB3 := Lib.hid (HB2.out.trans (hb.mono HB2.out.size))
    have Ld3 := Lib.hid hc
    clear hc hb HB2
    go_upto_region 9 with (fail)
    generalize World.alloc v2 _ = v3 at *
    go_wp2
    go_ret
    exact ⟨rfl, HB3.out⟩
  | true =>
    have hfr := (free_iff _ _).1 hF
    dsimp only at hfr
    obtain ⟨hbro, hf1, hf2, hf3⟩ := hfr
    rw [hF] at TK
    subst hbro
    have TK1 : Hid (∀ w, Calls Try.prog 10 #[.agg #[.int .i64 id, .int .i64 ins, .int .i64 tok, .int .i64 nod, .string top, .int .i64 prio, .string wkr, .int .i64 epo, .int .i64 exp, .int .i64 aft, .int .i64 ret, .bool false], .string ⟨#[119]⟩, .int .i64 now', .int .i64 50] w fun e w' => e = .returned (.tuple #[.agg #[.int .i64 id, .int .i64 ins, .int .i64 tok, .int .i64 nod, .string top, .int .i64 prio, .string ⟨#[119]⟩, .int .i64 (epo + 1), .int .i64 (now' + 50), .int .i64 aft, .int .i64 ret, .bool false], .bool true]) ∧ Below w.heap.size w w') := Lib.hid (fun w => TK.out w)
    have HV : Hid (T.Good ⟨id, ins, tok, nod, top, prio, ⟨#[119]⟩, epo + 1, now' + 50, aft, ret, false⟩) := Lib.hid (HG.out.hold (s := ⟨#[119]⟩) (e := now' + 50) (p := epo + 1) (by decide +kernel) (by decide) (by decide) (by have := HN.out; omega) (by have := HN.out; omega) (by have := HE.out; omega) (by omega))
    have hAV : 0 ≤ aft := HG.out.aft.1
    have FA := Lib.hid (fun w => fail_any ⟨id, ins, tok, nod, top, prio, ⟨#[119]⟩, epo + 1, now' + 50, aft, ret, false⟩ r now' wait' w (by have := HN.out; omega))
    have hcf : canFail r wait' = true := by
      have := HN.out
      unfold canFail
      rw [decide_eq_true (show 0 ≤ r by omega), decide_eq_true (show r ≤ 9 by omega), decide_eq_true (show 0 ≤ wait' by omega), decide_eq_true (show wait' ≤ 1000 by omega)]
      rfl
    rw [hcf, if_pos rfl] at FA
    have CK := Lib.hid (fun w => check_good_any _ (HV.out.failed (r := r) (now := now') (wait := wait') (by have := HN.out; omega) (by have := HN.out; omega) (by have := HN.out; omega) (by have := HN.out; omega)) w)
    have LV := Lib.hid (fun w => leave_any ⟨id, ins, tok, nod, top, prio, ⟨#[119]⟩, epo + 1, now' + 50, aft, ret, false⟩ w)
    have FL := Lib.hid (fun w => free_any ⟨id, ins, tok, nod, top, prio, ⟨#[]⟩, epo + 1, 0, aft, ret, false⟩ now' w)
    rw [show T.free ⟨id, ins, tok, nod, top, prio, ⟨#[]⟩, epo + 1, 0, aft, ret, false⟩ now' = decide (epo + 1 < 60) from free_eq (by
      rw [decide_eq_true_iff]
      exact ⟨fun h => h.2.1, fun h => ⟨rfl, h, hf2, by show (0 : Int) ≤ now'; have := HN.out; omega⟩⟩)] at FL
    have hdue : ∀ rt : Int, T.free ⟨id, ins, tok, nod, top, prio, ⟨#[]⟩, epo + 1, 0, now' + wait', rt, false⟩ (now' + later') = (decide (epo + 1 < 60) && decide (wait' ≤ later')) := fun rt => free_eq (by
      rw [Bool.and_eq_true, decide_eq_true_iff, decide_eq_true_iff]
      have := HN.out
      constructor
      · rintro ⟨_, h1, h2, _⟩
        have h1 : epo + 1 < 60 := h1
        have h2 : now' + wait' ≤ now' + later' := h2
        exact ⟨h1, by omega⟩
      · rintro ⟨h1, h2⟩
        exact ⟨rfl, h1, by show now' + wait' ≤ now' + later'; omega, by show (0 : Int) ≤ now' + later'; omega⟩)
    have HDUE := Lib.hid hdue
    unfold T.failed T.val at FA CK
    unfold T.leave T.val at LV
    unfold T.val at FL
    dsimp only at FA CK LV FL
    have hq2 : IntKind.i64.wrap (now' + later') = now' + later' := wrapI (by have := HN.out; omega) (by have := HN.out; omega)
    have HQ2 := Lib.hid hq2
    have HEI := Lib.hid hf1
    clear TK hF hf1 hf2 hf3 hcf hAV hdue hq2
    go_wp2_with fail
    refine (TK1.out _).mono ?_
    rintro e v2 ⟨rfl, hb⟩
    have HB2 := Lib.hid (HB1.out.trans (hb.mono HB1.out.size))
    clear hb HB1
    obtain ⟨hc, hb⟩ := one_lit v2 #[.int .i64 id, .int .i64 ins, .int .i64 tok, .int .i64 nod, .string top, .int .i64 prio, .string ⟨#[119]⟩, .int .i64 (epo + 1), .int .i64 (now' + 50), .int .i64 aft, .int .i64 ret, .bool false] 25
    have HB3 := Lib.hid (HB2.out.trans (hb.mono HB2.out.size))
    have Lc3 := Lib.hid hc
    clear hc hb HB2
    go_upto_region 11 with (fail)
    generalize World.alloc v2 _ = v3 at *
    by_cases hr0 : r = 0
    · subst hr0
      have FA1 : Hid (∀ w, Calls Try.prog 16 #[.agg #[.int .i64 id, .int .i64 ins, .int .i64 tok, .int .i64 nod, .string top, .int .i64 prio, .string ⟨#[119]⟩, .int .i64 (epo + 1), .int .i64 (now' + 50), .int .i64 aft, .int .i64 ret, .bool false], .int .i64 0, .int .i64 now', .int .i64 wait'] w fun e w' => e = .returned (.tuple #[.agg #[.int .i64 id, .int .i64 ins, .int .i64 tok, .int .i64 nod, .string top, .int .i64 prio, .string ⟨#[]⟩, .int .i64 (epo + 1), .int .i64 0, .int .i64 (now' + wait'), .int .i64 0, .bool true], .bool true]) ∧ Below w.heap.size w w') := Lib.hid (fun w => FA.out w)
      have CK1 : Hid (∀ w, Calls Try.prog 15 #[.agg #[.int .i64 id, .int .i64 ins, .int .i64 tok, .int .i64 nod, .string top, .int .i64 prio, .string ⟨#[]⟩, .int .i64 (epo + 1), .int .i64 0, .int .i64 (now' + wait'), .int .i64 0, .bool true]] w fun e w' => e = .returned (.bool true) ∧ Below w.heap.size w w') := Lib.hid (fun w => CK.out w)
      have RP := Lib.hid (fun w => repair_any ⟨id, ins, tok, nod, top, prio, ⟨#[]⟩, epo + 1, 0, now' + wait', 0, true⟩ 2 w)
      rw [show T.canRepair ⟨id, ins, tok, nod, top, prio, ⟨#[]⟩, epo + 1, 0, now' + wait', 0, true⟩ 2 = true from rfl, if_pos rfl] at RP
      have FV := Lib.hid (fun w => free_any ⟨id, ins, tok, nod, top, prio, ⟨#[]⟩, epo + 1, 0, now' + wait', 0, true⟩ (now' + later') w)
      rw [show T.free ⟨id, ins, tok, nod, top, prio, ⟨#[]⟩, epo + 1, 0, now' + wait', 0, true⟩ (now' + later') = false from rfl] at FV
      have FR := Lib.hid (fun w => free_any ⟨id, ins, tok, nod, top, prio, ⟨#[]⟩, epo + 1, 0, now' + wait', 2, false⟩ (now' + later') w)
      rw [HDUE.out 2] at FR
      unfold T.repaired T.val at RP
      unfold T.val at FV FR
      dsimp only at RP FV FR
      clear FA CK
      obtain ⟨⟨c0, c1, c2, c3, c4, c5, c6, c7, c8, c9, c10, c11⟩, _⟩ := dz_facts Lc3.out
      go_wp2_with fail
      refine (FA1.out _).mono ?_
      rintro e v4 ⟨rfl, hb⟩
      have Lc4 := Lib.hid (Lc3.out.below hb (Nat.le_refl _))
      have HB4 := Lib.hid (HB3.out.trans (hb.mono HB3.out.size))
      clear hb Lc3 HB3
      clear c0 c1 c2 c3 c4 c5 c6 c7 c8 c9 c10 c11
      obtain ⟨hc, hb⟩ := one_lit v4 #[.int .i64 id, .int .i64 ins, .int .i64 tok, .int .i64 nod, .string top, .int .i64 prio, .string ⟨#[]⟩, .int .i64 (epo + 1), .int .i64 0, .int .i64 (now' + wait'), .int .i64 0, .bool true] 25
      have Lc5 := Lib.hid (Lc4.out.below hb (Nat.le_refl _))
      have HB5 := Lib.hid (HB4.out.trans (hb.mono HB4.out.size))
      have Ld5 := Lib.hid hc
      clear hc hb Lc4 HB4
      go_upto_region 12 with (fail)
      generalize World.alloc v4 _ = v5 at *
      obtain ⟨⟨c0, c1, c2, c3, c4, c5, c6, c7, c8, c9, c10, c11⟩, _⟩ := dz_facts Lc5.out
      obtain ⟨⟨d0, d1, d2, d3, d4, d5, d6, d7, d8, d9, d10, d11⟩, _⟩ := dz_facts Ld5.out
      go_wp2_with fail
      refine (LV.out _).mono ?_
      rintro e v6 ⟨rfl, hb⟩
      have Lc6 := Lib.hid (Lc5.out.below hb (Nat.le_refl _))
      have Ld6 := Lib.hid (Ld5.out.below hb (Nat.le_refl _))
      have HB6 := Lib.hid (HB5.out.trans (hb.mono HB5.out.size))
      clear hb Lc5 Ld5 HB5
      clear c0 c1 c2 c3 c4 c5 c6 c7 c8 c9 c10 c11 d0 d1 d2 d3 d4 d5 d6 d7 d8 d9 d10 d11
      obtain ⟨hc, hb⟩ := one_lit v6 #[.int .i64 id, .int .i64 ins, .int .i64 tok, .int .i64 nod, .string top, .int .i64 prio, .string ⟨#[]⟩, .int .i64 (epo + 1), .int .i64 0, .int .i64 aft, .int .i64 ret, .bool false] 25
      have Lc7 := Lib.hid (Lc6.out.below hb (Nat.le_refl _))
      have Ld7 := Lib.hid (Ld6.out.below hb (Nat.le_refl _))
      have HB7 := Lib.hid (HB6.out.trans (hb.mono HB6.out.size))
      have Lx7 := Lib.hid hc
      clear hc hb Lc6 Ld6 HB6
      go_upto_region 13 with (fail)
      generalize World.alloc v6 _ = v7 at *
      obtain ⟨⟨c0, c1, c2, c3, c4, c5, c6, c7, c8, c9, c10, c11⟩, _⟩ := dz_facts Lc7.out
      obtain ⟨⟨d0, d1, d2, d3, d4, d5, d6, d7, d8, d9, d10, d11⟩, _⟩ := dz_facts Ld7.out
      obtain ⟨⟨x0, x1, x2, x3, x4, x5, x6, x7, x8, x9, x10, x11⟩, _⟩ := dz_facts Lx7.out
      go_wp2_with fail
      refine (RP.out _).mono ?_
      rintro e v8 ⟨rfl, hb⟩
      have Lc8 := Lib.hid (Lc7.out.below hb (Nat.le_refl _))
      have Ld8 := Lib.hid (Ld7.out.below hb (Nat.le_refl _))
      have Lx8 := Lib.hid (Lx7.out.below hb (Nat.le_refl _))
      have HB8 := Lib.hid (HB7.out.trans (hb.mono HB7.out.size))
      clear hb Lc7 Ld7 Lx7 HB7
      clear c0 c1 c2 c3 c4 c5 c6 c7 c8 c9 c10 c11 d0 d1 d2 d3 d4 d5 d6 d7 d8 d9 d10 d11 x0 x1 x2 x3 x4 x5 x6 x7 x8 x9 x10 x11
      obtain ⟨hc, hb⟩ := one_lit v8 #[.int .i64 id, .int .i64 ins, .int .i64 tok, .int .i64 nod, .string top, .int .i64 prio, .string ⟨#[]⟩, .int .i64 (epo + 1), .int .i64 0, .int .i64 (now' + wait'), .int .i64 2, .bool false] 25
      have Lc9 := Lib.hid (Lc8.out.below hb (Nat.le_refl _))
      have Ld9 := Lib.hid (Ld8.out.below hb (Nat.le_refl _))
      have Lx9 := Lib.hid (Lx8.out.below hb (Nat.le_refl _))
      have HB9 := Lib.hid (HB8.out.trans (hb.mono HB8.out.size))
      have Ly9 := Lib.hid hc
      clear hc hb Lc8 Ld8 Lx8 HB8
      go_upto_region 14 with (fail)
      generalize World.alloc v8 _ = v9 at *
      obtain ⟨⟨c0, c1, c2, c3, c4, c5, c6, c7, c8, c9, c10, c11⟩, _⟩ := dz_facts Lc9.out
      obtain ⟨⟨d0, d1, d2, d3, d4, d5, d6, d7, d8, d9, d10, d11⟩, _⟩ := dz_facts Ld9.out
      obtain ⟨⟨x0, x1, x2, x3, x4, x5, x6, x7, x8, x9, x10, x11⟩, _⟩ := dz_facts Lx9.out
      obtain ⟨⟨y0, y1, y2, y3, y4, y5, y6, y7, y8, y9, y10, y11⟩, _⟩ := dz_facts Ly9.out
      go_wp2_with fail
      refine (CK1.out _).mono ?_
      rintro e v10 ⟨rfl, hb⟩
      have Lc10 := Lib.hid (Lc9.out.below hb (Nat.le_refl _))
      have Ld10 := Lib.hid (Ld9.out.below hb (Nat.le_refl _))
      have Lx10 := Lib.hid (Lx9.out.below hb (Nat.le_refl _))
      have Ly10 := Lib.hid (Ly9.out.below hb (Nat.le_refl _))
      have HB10 := Lib.hid (HB9.out.trans (hb.mono HB9.out.size))
      clear hb Lc9 Ld9 Lx9 Ly9 HB9
      clear c0 c1 c2 c3 c4 c5 c6 c7 c8 c9 c10 c11 d0 d1 d2 d3 d4 d5 d6 d7 d8 d9 d10 d11 x0 x1 x2 x3 x4 x5 x6 x7 x8 x9 x10 x11 y0 y1 y2 y3 y4 y5 y6 y7 y8 y9 y10 y11
      obtain ⟨⟨c0, c1, c2, c3, c4, c5, c6, c7, c8, c9, c10, c11⟩, _⟩ := dz_facts Lc10.out
      obtain ⟨⟨d0, d1, d2, d3, d4, d5, d6, d7, d8, d9, d10, d11⟩, _⟩ := dz_facts Ld10.out
      obtain ⟨⟨x0, x1, x2, x3, x4, x5, x6, x7, x8, x9, x10, x11⟩, _⟩ := dz_facts Lx10.out
      obtain ⟨⟨y0, y1, y2, y3, y4, y5, y6, y7, y8, y9, y10, y11⟩, _⟩ := dz_facts Ly10.out
      have hq2 := HQ2.out
      by_cases hE : epo + 1 < 60
      · have eE : decide (epo + 1 < 60) = true := decide_eq_true hE
        by_cases hL : wait' ≤ later'
        · have eL : decide (wait' ≤ later') = true := decide_eq_true hL
          rw [eE] at FL
          rw [eE, eL] at FR
          have EE := Lib.hid eE
          clear eE eL
          go_wp2_with fail
          refine (FV.out _).mono ?_
          rintro e v11 ⟨rfl, hb⟩
          have Lc11 := Lib.hid (Lc10.out.below hb (Nat.le_refl _))
          have Ld11 := Lib.hid (Ld10.out.below hb (Nat.le_refl _))
          have Lx11 := Lib.hid (Lx10.out.below hb (Nat.le_refl _))
          have Ly11 := Lib.hid (Ly10.out.below hb (Nat.le_refl _))
          have HB11 := Lib.hid (HB10.out.trans (hb.mono HB10.out.size))
          clear hb Lc10 Ld10 Lx10 Ly10 HB10
          clear c0 c1 c2 c3 c4 c5 c6 c7 c8 c9 c10 c11 d0 d1 d2 d3 d4 d5 d6 d7 d8 d9 d10 d11 x0 x1 x2 x3 x4 x5 x6 x7 x8 x9 x10 x11 y0 y1 y2 y3 y4 y5 y6 y7 y8 y9 y10 y11
          obtain ⟨⟨c0, c1, c2, c3, c4, c5, c6, c7, c8, c9, c10, c11⟩, _⟩ := dz_facts Lc11.out
          obtain ⟨⟨d0, d1, d2, d3, d4, d5, d6, d7, d8, d9, d10, d11⟩, _⟩ := dz_facts Ld11.out
          obtain ⟨⟨x0, x1, x2, x3, x4, x5, x6, x7, x8, x9, x10, x11⟩, _⟩ := dz_facts Lx11.out
          obtain ⟨⟨y0, y1, y2, y3, y4, y5, y6, y7, y8, y9, y10, y11⟩, _⟩ := dz_facts Ly11.out
          go_wp2_with fail
          refine (FL.out _).mono ?_
          rintro e v12 ⟨rfl, hb⟩
          have Lc12 := Lib.hid (Lc11.out.below hb (Nat.le_refl _))
          have Ld12 := Lib.hid (Ld11.out.below hb (Nat.le_refl _))
          have Lx12 := Lib.hid (Lx11.out.below hb (Nat.le_refl _))
          have Ly12 := Lib.hid (Ly11.out.below hb (Nat.le_refl _))
          have HB12 := Lib.hid (HB11.out.trans (hb.mono HB11.out.size))
          clear hb Lc11 Ld11 Lx11 Ly11 HB11
          clear c0 c1 c2 c3 c4 c5 c6 c7 c8 c9 c10 c11 d0 d1 d2 d3 d4 d5 d6 d7 d8 d9 d10 d11 x0 x1 x2 x3 x4 x5 x6 x7 x8 x9 x10 x11 y0 y1 y2 y3 y4 y5 y6 y7 y8 y9 y10 y11
          obtain ⟨⟨c0, c1, c2, c3, c4, c5, c6, c7, c8, c9, c10, c11⟩, _⟩ := dz_facts Lc12.out
          obtain ⟨⟨d0, d1, d2, d3, d4, d5, d6, d7, d8, d9, d10, d11⟩, _⟩ := dz_facts Ld12.out
          obtain ⟨⟨x0, x1, x2, x3, x4, x5, x6, x7, x8, x9, x10, x11⟩, _⟩ := dz_facts Lx12.out
          obtain ⟨⟨y0, y1, y2, y3, y4, y5, y6, y7, y8, y9, y10, y11⟩, _⟩ := dz_facts Ly12.out
          go_wp2_with fail
          refine (FR.out _).mono ?_
          rintro e v13 ⟨rfl, hb⟩
          have Lc13 := Lib.hid (Lc12.out.below hb (Nat.le_refl _))
          have Ld13 := Lib.hid (Ld12.out.below hb (Nat.le_refl _))
          have Lx13 := Lib.hid (Lx12.out.below hb (Nat.le_refl _))
          have Ly13 := Lib.hid (Ly12.out.below hb (Nat.le_refl _))
          have HB13 := Lib.hid (HB12.out.trans (hb.mono HB12.out.size))
          clear hb Lc12 Ld12 Lx12 Ly12 HB12
          clear c0 c1 c2 c3 c4 c5 c6 c7 c8 c9 c10 c11 d0 d1 d2 d3 d4 d5 d6 d7 d8 d9 d10 d11 x0 x1 x2 x3 x4 x5 x6 x7 x8 x9 x10 x11 y0 y1 y2 y3 y4 y5 y6 y7 y8 y9 y10 y11
          obtain ⟨⟨c0, c1, c2, c3, c4, c5, c6, c7, c8, c9, c10, c11⟩, _⟩ := dz_facts Lc13.out
          obtain ⟨⟨d0, d1, d2, d3, d4, d5, d6, d7, d8, d9, d10, d11⟩, _⟩ := dz_facts Ld13.out
          obtain ⟨⟨x0, x1, x2, x3, x4, x5, x6, x7, x8, x9, x10, x11⟩, _⟩ := dz_facts Lx13.out
          obtain ⟨⟨y0, y1, y2, y3, y4, y5, y6, y7, y8, y9, y10, y11⟩, _⟩ := dz_facts Ly13.out
          go_wp2
          go_ret
          exact ⟨rfl, HB13.out⟩
        · have eL : decide (wait' ≤ later') = false := decide_eq_false hL
          rw [eE] at FL
          rw [eE, eL] at FR
          have EE := Lib.hid eE
          clear eE eL
          go_wp2_with fail
          refine (FV.out _).mono ?_
          rintro e v11 ⟨rfl, hb⟩
          have Lc11 := Lib.hid (Lc10.out.below hb (Nat.le_refl _))
          have Ld11 := Lib.hid (Ld10.out.below hb (Nat.le_refl _))
          have Lx11 := Lib.hid (Lx10.out.below hb (Nat.le_refl _))
          have Ly11 := Lib.hid (Ly10.out.below hb (Nat.le_refl _))
          have HB11 := Lib.hid (HB10.out.trans (hb.mono HB10.out.size))
          clear hb Lc10 Ld10 Lx10 Ly10 HB10
          clear c0 c1 c2 c3 c4 c5 c6 c7 c8 c9 c10 c11 d0 d1 d2 d3 d4 d5 d6 d7 d8 d9 d10 d11 x0 x1 x2 x3 x4 x5 x6 x7 x8 x9 x10 x11 y0 y1 y2 y3 y4 y5 y6 y7 y8 y9 y10 y11
          obtain ⟨⟨c0, c1, c2, c3, c4, c5, c6, c7, c8, c9, c10, c11⟩, _⟩ := dz_facts Lc11.out
          obtain ⟨⟨d0, d1, d2, d3, d4, d5, d6, d7, d8, d9, d10, d11⟩, _⟩ := dz_facts Ld11.out
          obtain ⟨⟨x0, x1, x2, x3, x4, x5, x6, x7, x8, x9, x10, x11⟩, _⟩ := dz_facts Lx11.out
          obtain ⟨⟨y0, y1, y2, y3, y4, y5, y6, y7, y8, y9, y10, y11⟩, _⟩ := dz_facts Ly11.out
          go_wp2_with fail
          refine (FL.out _).mono ?_
          rintro e v12 ⟨rfl, hb⟩
          have Lc12 := Lib.hid (Lc11.out.below hb (Nat.le_refl _))
          have Ld12 := Lib.hid (Ld11.out.below hb (Nat.le_refl _))
          have Lx12 := Lib.hid (Lx11.out.below hb (Nat.le_refl _))
          have Ly12 := Lib.hid (Ly11.out.below hb (Nat.le_refl _))
          have HB12 := Lib.hid (HB11.out.trans (hb.mono HB11.out.size))
          clear hb Lc11 Ld11 Lx11 Ly11 HB11
          clear c0 c1 c2 c3 c4 c5 c6 c7 c8 c9 c10 c11 d0 d1 d2 d3 d4 d5 d6 d7 d8 d9 d10 d11 x0 x1 x2 x3 x4 x5 x6 x7 x8 x9 x10 x11 y0 y1 y2 y3 y4 y5 y6 y7 y8 y9 y10 y11
          obtain ⟨⟨c0, c1, c2, c3, c4, c5, c6, c7, c8, c9, c10, c11⟩, _⟩ := dz_facts Lc12.out
          obtain ⟨⟨d0, d1, d2, d3, d4, d5, d6, d7, d8, d9, d10, d11⟩, _⟩ := dz_facts Ld12.out
          obtain ⟨⟨x0, x1, x2, x3, x4, x5, x6, x7, x8, x9, x10, x11⟩, _⟩ := dz_facts Lx12.out
          obtain ⟨⟨y0, y1, y2, y3, y4, y5, y6, y7, y8, y9, y10, y11⟩, _⟩ := dz_facts Ly12.out
          go_wp2_with fail
          refine (FR.out _).mono ?_
          rintro e v13 ⟨rfl, hb⟩
          have Lc13 := Lib.hid (Lc12.out.below hb (Nat.le_refl _))
          have Ld13 := Lib.hid (Ld12.out.below hb (Nat.le_refl _))
          have Lx13 := Lib.hid (Lx12.out.below hb (Nat.le_refl _))
          have Ly13 := Lib.hid (Ly12.out.below hb (Nat.le_refl _))
          have HB13 := Lib.hid (HB12.out.trans (hb.mono HB12.out.size))
          clear hb Lc12 Ld12 Lx12 Ly12 HB12
          clear c0 c1 c2 c3 c4 c5 c6 c7 c8 c9 c10 c11 d0 d1 d2 d3 d4 d5 d6 d7 d8 d9 d10 d11 x0 x1 x2 x3 x4 x5 x6 x7 x8 x9 x10 x11 y0 y1 y2 y3 y4 y5 y6 y7 y8 y9 y10 y11
          obtain ⟨⟨c0, c1, c2, c3, c4, c5, c6, c7, c8, c9, c10, c11⟩, _⟩ := dz_facts Lc13.out
          obtain ⟨⟨d0, d1, d2, d3, d4, d5, d6, d7, d8, d9, d10, d11⟩, _⟩ := dz_facts Ld13.out
          obtain ⟨⟨x0, x1, x2, x3, x4, x5, x6, x7, x8, x9, x10, x11⟩, _⟩ := dz_facts Lx13.out
          obtain ⟨⟨y0, y1, y2, y3, y4, y5, y6, y7, y8, y9, y10, y11⟩, _⟩ := dz_facts Ly13.out
          go_wp2
          go_ret
          exact ⟨rfl, HB13.out⟩
      · have eE : decide (epo + 1 < 60) = false := decide_eq_false hE
        by_cases hL : wait' ≤ later'
        · have eL : decide (wait' ≤ later') = true := decide_eq_true hL
          rw [eE] at FL
          rw [eE, eL] at FR
          have EE := Lib.hid eE
          clear eE eL
          go_wp2_with fail
          refine (FV.out _).mono ?_
          rintro e v11 ⟨rfl, hb⟩
          have Lc11 := Lib.hid (Lc10.out.below hb (Nat.le_refl _))
          have Ld11 := Lib.hid (Ld10.out.below hb (Nat.le_refl _))
          have Lx11 := Lib.hid (Lx10.out.below hb (Nat.le_refl _))
          have Ly11 := Lib.hid (Ly10.out.below hb (Nat.le_refl _))
          have HB11 := Lib.hid (HB10.out.trans (hb.mono HB10.out.size))
          clear hb Lc10 Ld10 Lx10 Ly10 HB10
          clear c0 c1 c2 c3 c4 c5 c6 c7 c8 c9 c10 c11 d0 d1 d2 d3 d4 d5 d6 d7 d8 d9 d10 d11 x0 x1 x2 x3 x4 x5 x6 x7 x8 x9 x10 x11 y0 y1 y2 y3 y4 y5 y6 y7 y8 y9 y10 y11
          obtain ⟨⟨c0, c1, c2, c3, c4, c5, c6, c7, c8, c9, c10, c11⟩, _⟩ := dz_facts Lc11.out
          obtain ⟨⟨d0, d1, d2, d3, d4, d5, d6, d7, d8, d9, d10, d11⟩, _⟩ := dz_facts Ld11.out
          obtain ⟨⟨x0, x1, x2, x3, x4, x5, x6, x7, x8, x9, x10, x11⟩, _⟩ := dz_facts Lx11.out
          obtain ⟨⟨y0, y1, y2, y3, y4, y5, y6, y7, y8, y9, y10, y11⟩, _⟩ := dz_facts Ly11.out
          go_wp2_with fail
          refine (FL.out _).mono ?_
          rintro e v12 ⟨rfl, hb⟩
          have Lc12 := Lib.hid (Lc11.out.below hb (Nat.le_refl _))
          have Ld12 := Lib.hid (Ld11.out.below hb (Nat.le_refl _))
          have Lx12 := Lib.hid (Lx11.out.below hb (Nat.le_refl _))
          have Ly12 := Lib.hid (Ly11.out.below hb (Nat.le_refl _))
          have HB12 := Lib.hid (HB11.out.trans (hb.mono HB11.out.size))
          clear hb Lc11 Ld11 Lx11 Ly11 HB11
          clear c0 c1 c2 c3 c4 c5 c6 c7 c8 c9 c10 c11 d0 d1 d2 d3 d4 d5 d6 d7 d8 d9 d10 d11 x0 x1 x2 x3 x4 x5 x6 x7 x8 x9 x10 x11 y0 y1 y2 y3 y4 y5 y6 y7 y8 y9 y10 y11
          obtain ⟨⟨c0, c1, c2, c3, c4, c5, c6, c7, c8, c9, c10, c11⟩, _⟩ := dz_facts Lc12.out
          obtain ⟨⟨d0, d1, d2, d3, d4, d5, d6, d7, d8, d9, d10, d11⟩, _⟩ := dz_facts Ld12.out
          obtain ⟨⟨x0, x1, x2, x3, x4, x5, x6, x7, x8, x9, x10, x11⟩, _⟩ := dz_facts Lx12.out
          obtain ⟨⟨y0, y1, y2, y3, y4, y5, y6, y7, y8, y9, y10, y11⟩, _⟩ := dz_facts Ly12.out
          go_wp2_with fail
          refine (FR.out _).mono ?_
          rintro e v13 ⟨rfl, hb⟩
          have Lc13 := Lib.hid (Lc12.out.below hb (Nat.le_refl _))
          have Ld13 := Lib.hid (Ld12.out.below hb (Nat.le_refl _))
          have Lx13 := Lib.hid (Lx12.out.below hb (Nat.le_refl _))
          have Ly13 := Lib.hid (Ly12.out.below hb (Nat.le_refl _))
          have HB13 := Lib.hid (HB12.out.trans (hb.mono HB12.out.size))
          clear hb Lc12 Ld12 Lx12 Ly12 HB12
          clear c0 c1 c2 c3 c4 c5 c6 c7 c8 c9 c10 c11 d0 d1 d2 d3 d4 d5 d6 d7 d8 d9 d10 d11 x0 x1 x2 x3 x4 x5 x6 x7 x8 x9 x10 x11 y0 y1 y2 y3 y4 y5 y6 y7 y8 y9 y10 y11
          obtain ⟨⟨c0, c1, c2, c3, c4, c5, c6, c7, c8, c9, c10, c11⟩, _⟩ := dz_facts Lc13.out
          obtain ⟨⟨d0, d1, d2, d3, d4, d5, d6, d7, d8, d9, d10, d11⟩, _⟩ := dz_facts Ld13.out
          obtain ⟨⟨x0, x1, x2, x3, x4, x5, x6, x7, x8, x9, x10, x11⟩, _⟩ := dz_facts Lx13.out
          obtain ⟨⟨y0, y1, y2, y3, y4, y5, y6, y7, y8, y9, y10, y11⟩, _⟩ := dz_facts Ly13.out
          go_wp2
          go_ret
          first | exact ⟨rfl, HB13.out⟩ | exact ⟨ret_bool (show (!decide (epo + 1 < 60)) = true by rw [EE.out]; rfl), HB13.out⟩
        · have eL : decide (wait' ≤ later') = false := decide_eq_false hL
          rw [eE] at FL
          rw [eE, eL] at FR
          have EE := Lib.hid eE
          clear eE eL
          go_wp2_with fail
          refine (FV.out _).mono ?_
          rintro e v11 ⟨rfl, hb⟩
          have Lc11 := Lib.hid (Lc10.out.below hb (Nat.le_refl _))
          have Ld11 := Lib.hid (Ld10.out.below hb (Nat.le_refl _))
          have Lx11 := Lib.hid (Lx10.out.below hb (Nat.le_refl _))
          have Ly11 := Lib.hid (Ly10.out.below hb (Nat.le_refl _))
          have HB11 := Lib.hid (HB10.out.trans (hb.mono HB10.out.size))
          clear hb Lc10 Ld10 Lx10 Ly10 HB10
          clear c0 c1 c2 c3 c4 c5 c6 c7 c8 c9 c10 c11 d0 d1 d2 d3 d4 d5 d6 d7 d8 d9 d10 d11 x0 x1 x2 x3 x4 x5 x6 x7 x8 x9 x10 x11 y0 y1 y2 y3 y4 y5 y6 y7 y8 y9 y10 y11
          obtain ⟨⟨c0, c1, c2, c3, c4, c5, c6, c7, c8, c9, c10, c11⟩, _⟩ := dz_facts Lc11.out
          obtain ⟨⟨d0, d1, d2, d3, d4, d5, d6, d7, d8, d9, d10, d11⟩, _⟩ := dz_facts Ld11.out
          obtain ⟨⟨x0, x1, x2, x3, x4, x5, x6, x7, x8, x9, x10, x11⟩, _⟩ := dz_facts Lx11.out
          obtain ⟨⟨y0, y1, y2, y3, y4, y5, y6, y7, y8, y9, y10, y11⟩, _⟩ := dz_facts Ly11.out
          go_wp2_with fail
          refine (FL.out _).mono ?_
          rintro e v12 ⟨rfl, hb⟩
          have Lc12 := Lib.hid (Lc11.out.below hb (Nat.le_refl _))
          have Ld12 := Lib.hid (Ld11.out.below hb (Nat.le_refl _))
          have Lx12 := Lib.hid (Lx11.out.below hb (Nat.le_refl _))
          have Ly12 := Lib.hid (Ly11.out.below hb (Nat.le_refl _))
          have HB12 := Lib.hid (HB11.out.trans (hb.mono HB11.out.size))
          clear hb Lc11 Ld11 Lx11 Ly11 HB11
          clear c0 c1 c2 c3 c4 c5 c6 c7 c8 c9 c10 c11 d0 d1 d2 d3 d4 d5 d6 d7 d8 d9 d10 d11 x0 x1 x2 x3 x4 x5 x6 x7 x8 x9 x10 x11 y0 y1 y2 y3 y4 y5 y6 y7 y8 y9 y10 y11
          obtain ⟨⟨c0, c1, c2, c3, c4, c5, c6, c7, c8, c9, c10, c11⟩, _⟩ := dz_facts Lc12.out
          obtain ⟨⟨d0, d1, d2, d3, d4, d5, d6, d7, d8, d9, d10, d11⟩, _⟩ := dz_facts Ld12.out
          obtain ⟨⟨x0, x1, x2, x3, x4, x5, x6, x7, x8, x9, x10, x11⟩, _⟩ := dz_facts Lx12.out
          obtain ⟨⟨y0, y1, y2, y3, y4, y5, y6, y7, y8, y9, y10, y11⟩, _⟩ := dz_facts Ly12.out
          go_wp2_with fail
          refine (FR.out _).mono ?_
          rintro e v13 ⟨rfl, hb⟩
          have Lc13 := Lib.hid (Lc12.out.below hb (Nat.le_refl _))
          have Ld13 := Lib.hid (Ld12.out.below hb (Nat.le_refl _))
          have Lx13 := Lib.hid (Lx12.out.below hb (Nat.le_refl _))
          have Ly13 := Lib.hid (Ly12.out.below hb (Nat.le_refl _))
          have HB13 := Lib.hid (HB12.out.trans (hb.mono HB12.out.size))
          clear hb Lc12 Ld12 Lx12 Ly12 HB12
          clear c0 c1 c2 c3 c4 c5 c6 c7 c8 c9 c10 c11 d0 d1 d2 d3 d4 d5 d6 d7 d8 d9 d10 d11 x0 x1 x2 x3 x4 x5 x6 x7 x8 x9 x10 x11 y0 y1 y2 y3 y4 y5 y6 y7 y8 y9 y10 y11
          obtain ⟨⟨c0, c1, c2, c3, c4, c5, c6, c7, c8, c9, c10, c11⟩, _⟩ := dz_facts Lc13.out
          obtain ⟨⟨d0, d1, d2, d3, d4, d5, d6, d7, d8, d9, d10, d11⟩, _⟩ := dz_facts Ld13.out
          obtain ⟨⟨x0, x1, x2, x3, x4, x5, x6, x7, x8, x9, x10, x11⟩, _⟩ := dz_facts Lx13.out
          obtain ⟨⟨y0, y1, y2, y3, y4, y5, y6, y7, y8, y9, y10, y11⟩, _⟩ := dz_facts Ly13.out
          go_wp2
          go_ret
          first | exact ⟨rfl, HB13.out⟩ | exact ⟨ret_bool (show (!decide (epo + 1 < 60)) = true by rw [EE.out]; rfl), HB13.out⟩
    · have hr1 : 0 < r := by have := HN.out; omega
      have hr2 : (r == 0) = false := by rw [beq_eq_false_iff_ne]; omega
      rw [hr2] at FA CK
      have FA1 := FA
      have CK1 := CK
      have RP := Lib.hid (fun w => repair_any ⟨id, ins, tok, nod, top, prio, ⟨#[]⟩, epo + 1, 0, now' + wait', r, false⟩ 2 w)
      rw [show T.canRepair ⟨id, ins, tok, nod, top, prio, ⟨#[]⟩, epo + 1, 0, now' + wait', r, false⟩ 2 = false from rfl, if_neg (by decide)] at RP
      have FV := Lib.hid (fun w => free_any ⟨id, ins, tok, nod, top, prio, ⟨#[]⟩, epo + 1, 0, now' + wait', r, false⟩ (now' + later') w)
      rw [HDUE.out r] at FV
      unfold T.val at RP FV
      dsimp only at RP FV
      clear FA CK
      obtain ⟨⟨c0, c1, c2, c3, c4, c5, c6, c7, c8, c9, c10, c11⟩, _⟩ := dz_facts Lc3.out
      go_wp2_with fail
      refine (FA1.out _).mono ?_
      rintro e v4 ⟨rfl, hb⟩
      have Lc4 := Lib.hid (Lc3.out.below hb (Nat.le_refl _))
      have HB4 := Lib.hid (HB3.out.trans (hb.mono HB3.out.size))
      clear hb Lc3 HB3
      clear c0 c1 c2 c3 c4 c5 c6 c7 c8 c9 c10 c11
      obtain ⟨hc, hb⟩ := one_lit v4 #[.int .i64 id, .int .i64 ins, .int .i64 tok, .int .i64 nod, .string top, .int .i64 prio, .string ⟨#[]⟩, .int .i64 (epo + 1), .int .i64 0, .int .i64 (now' + wait'), .int .i64 r, .bool false] 25
      have Lc5 := Lib.hid (Lc4.out.below hb (Nat.le_refl _))
      have HB5 := Lib.hid (HB4.out.trans (hb.mono HB4.out.size))
      have Ld5 := Lib.hid hc
      clear hc hb Lc4 HB4
      go_upto_region 12 with (fail)
      generalize World.alloc v4 _ = v5 at *
      obtain ⟨⟨c0, c1, c2, c3, c4, c5, c6, c7, c8, c9, c10, c11⟩, _⟩ := dz_facts Lc5.out
      obtain ⟨⟨d0, d1, d2, d3, d4, d5, d6, d7, d8, d9, d10, d11⟩, _⟩ := dz_facts Ld5.out
      go_wp2_with fail
      refine (LV.out _).mono ?_
      rintro e v6 ⟨rfl, hb⟩
      have Lc6 := Lib.hid (Lc5.out.below hb (Nat.le_refl _))
      have Ld6 := Lib.hid (Ld5.out.below hb (Nat.le_refl _))
      have HB6 := Lib.hid (HB5.out.trans (hb.mono HB5.out.size))
      clear hb Lc5 Ld5 HB5
      clear c0 c1 c2 c3 c4 c5 c6 c7 c8 c9 c10 c11 d0 d1 d2 d3 d4 d5 d6 d7 d8 d9 d10 d11
      obtain ⟨hc, hb⟩ := one_lit v6 #[.int .i64 id, .int .i64 ins, .int .i64 tok, .int .i64 nod, .string top, .int .i64 prio, .string ⟨#[]⟩, .int .i64 (epo + 1), .int .i64 0, .int .i64 aft, .int .i64 ret, .bool false] 25
      have Lc7 := Lib.hid (Lc6.out.below hb (Nat.le_refl _))
      have Ld7 := Lib.hid (Ld6.out.below hb (Nat.le_refl _))
      have HB7 := Lib.hid (HB6.out.trans (hb.mono HB6.out.size))
      have Lx7 := Lib.hid hc
      clear hc hb Lc6 Ld6 HB6
      go_upto_region 13 with (fail)
      generalize World.alloc v6 _ = v7 at *
      obtain ⟨⟨c0, c1, c2, c3, c4, c5, c6, c7, c8, c9, c10, c11⟩, _⟩ := dz_facts Lc7.out
      obtain ⟨⟨d0, d1, d2, d3, d4, d5, d6, d7, d8, d9, d10, d11⟩, _⟩ := dz_facts Ld7.out
      obtain ⟨⟨x0, x1, x2, x3, x4, x5, x6, x7, x8, x9, x10, x11⟩, _⟩ := dz_facts Lx7.out
      go_wp2_with fail
      refine (RP.out _).mono ?_
      rintro e v8 ⟨rfl, hb⟩
      have Lc8 := Lib.hid (Lc7.out.below hb (Nat.le_refl _))
      have Ld8 := Lib.hid (Ld7.out.below hb (Nat.le_refl _))
      have Lx8 := Lib.hid (Lx7.out.below hb (Nat.le_refl _))
      have HB8 := Lib.hid (HB7.out.trans (hb.mono HB7.out.size))
      clear hb Lc7 Ld7 Lx7 HB7
      clear c0 c1 c2 c3 c4 c5 c6 c7 c8 c9 c10 c11 d0 d1 d2 d3 d4 d5 d6 d7 d8 d9 d10 d11 x0 x1 x2 x3 x4 x5 x6 x7 x8 x9 x10 x11
      obtain ⟨hc, hb⟩ := one_lit v8 #[.int .i64 id, .int .i64 ins, .int .i64 tok, .int .i64 nod, .string top, .int .i64 prio, .string ⟨#[]⟩, .int .i64 (epo + 1), .int .i64 0, .int .i64 (now' + wait'), .int .i64 r, .bool false] 25
      have Lc9 := Lib.hid (Lc8.out.below hb (Nat.le_refl _))
      have Ld9 := Lib.hid (Ld8.out.below hb (Nat.le_refl _))
      have Lx9 := Lib.hid (Lx8.out.below hb (Nat.le_refl _))
      have HB9 := Lib.hid (HB8.out.trans (hb.mono HB8.out.size))
      have Ly9 := Lib.hid hc
      clear hc hb Lc8 Ld8 Lx8 HB8
      go_upto_region 14 with (fail)
      generalize World.alloc v8 _ = v9 at *
      obtain ⟨⟨c0, c1, c2, c3, c4, c5, c6, c7, c8, c9, c10, c11⟩, _⟩ := dz_facts Lc9.out
      obtain ⟨⟨d0, d1, d2, d3, d4, d5, d6, d7, d8, d9, d10, d11⟩, _⟩ := dz_facts Ld9.out
      obtain ⟨⟨x0, x1, x2, x3, x4, x5, x6, x7, x8, x9, x10, x11⟩, _⟩ := dz_facts Lx9.out
      obtain ⟨⟨y0, y1, y2, y3, y4, y5, y6, y7, y8, y9, y10, y11⟩, _⟩ := dz_facts Ly9.out
      go_wp2_with fail
      refine (CK1.out _).mono ?_
      rintro e v10 ⟨rfl, hb⟩
      have Lc10 := Lib.hid (Lc9.out.below hb (Nat.le_refl _))
      have Ld10 := Lib.hid (Ld9.out.below hb (Nat.le_refl _))
      have Lx10 := Lib.hid (Lx9.out.below hb (Nat.le_refl _))
      have Ly10 := Lib.hid (Ly9.out.below hb (Nat.le_refl _))
      have HB10 := Lib.hid (HB9.out.trans (hb.mono HB9.out.size))
      clear hb Lc9 Ld9 Lx9 Ly9 HB9
      clear c0 c1 c2 c3 c4 c5 c6 c7 c8 c9 c10 c11 d0 d1 d2 d3 d4 d5 d6 d7 d8 d9 d10 d11 x0 x1 x2 x3 x4 x5 x6 x7 x8 x9 x10 x11 y0 y1 y2 y3 y4 y5 y6 y7 y8 y9 y10 y11
      obtain ⟨⟨c0, c1, c2, c3, c4, c5, c6, c7, c8, c9, c10, c11⟩, _⟩ := dz_facts Lc10.out
      obtain ⟨⟨d0, d1, d2, d3, d4, d5, d6, d7, d8, d9, d10, d11⟩, _⟩ := dz_facts Ld10.out
      obtain ⟨⟨x0, x1, x2, x3, x4, x5, x6, x7, x8, x9, x10, x11⟩, _⟩ := dz_facts Lx10.out
      obtain ⟨⟨y0, y1, y2, y3, y4, y5, y6, y7, y8, y9, y10, y11⟩, _⟩ := dz_facts Ly10.out
      have hq2 := HQ2.out
      by_cases hE : epo + 1 < 60
      · have eE : decide (epo + 1 < 60) = true := decide_eq_true hE
        by_cases hL : wait' ≤ later'
        · have eL : decide (wait' ≤ later') = true := decide_eq_true hL
          rw [eE] at FL
          rw [eE, eL] at FV
          have EE := Lib.hid eE
          clear eE eL
          go_wp2_with fail
          refine (FV.out _).mono ?_
          rintro e v11 ⟨rfl, hb⟩
          have Lc11 := Lib.hid (Lc10.out.below hb (Nat.le_refl _))
          have Ld11 := Lib.hid (Ld10.out.below hb (Nat.le_refl _))
          have Lx11 := Lib.hid (Lx10.out.below hb (Nat.le_refl _))
          have Ly11 := Lib.hid (Ly10.out.below hb (Nat.le_refl _))
          have HB11 := Lib.hid (HB10.out.trans (hb.mono HB10.out.size))
          clear hb Lc10 Ld10 Lx10 Ly10 HB10
          clear c0 c1 c2 c3 c4 c5 c6 c7 c8 c9 c10 c11 d0 d1 d2 d3 d4 d5 d6 d7 d8 d9 d10 d11 x0 x1 x2 x3 x4 x5 x6 x7 x8 x9 x10 x11 y0 y1 y2 y3 y4 y5 y6 y7 y8 y9 y10 y11
          obtain ⟨⟨c0, c1, c2, c3, c4, c5, c6, c7, c8, c9, c10, c11⟩, _⟩ := dz_facts Lc11.out
          obtain ⟨⟨d0, d1, d2, d3, d4, d5, d6, d7, d8, d9, d10, d11⟩, _⟩ := dz_facts Ld11.out
          obtain ⟨⟨x0, x1, x2, x3, x4, x5, x6, x7, x8, x9, x10, x11⟩, _⟩ := dz_facts Lx11.out
          obtain ⟨⟨y0, y1, y2, y3, y4, y5, y6, y7, y8, y9, y10, y11⟩, _⟩ := dz_facts Ly11.out
          go_wp2_with fail
          refine (FL.out _).mono ?_
          rintro e v12 ⟨rfl, hb⟩
          have Lc12 := Lib.hid (Lc11.out.below hb (Nat.le_refl _))
          have Ld12 := Lib.hid (Ld11.out.below hb (Nat.le_refl _))
          have Lx12 := Lib.hid (Lx11.out.below hb (Nat.le_refl _))
          have Ly12 := Lib.hid (Ly11.out.below hb (Nat.le_refl _))
          have HB12 := Lib.hid (HB11.out.trans (hb.mono HB11.out.size))
          clear hb Lc11 Ld11 Lx11 Ly11 HB11
          clear c0 c1 c2 c3 c4 c5 c6 c7 c8 c9 c10 c11 d0 d1 d2 d3 d4 d5 d6 d7 d8 d9 d10 d11 x0 x1 x2 x3 x4 x5 x6 x7 x8 x9 x10 x11 y0 y1 y2 y3 y4 y5 y6 y7 y8 y9 y10 y11
          obtain ⟨⟨c0, c1, c2, c3, c4, c5, c6, c7, c8, c9, c10, c11⟩, _⟩ := dz_facts Lc12.out
          obtain ⟨⟨d0, d1, d2, d3, d4, d5, d6, d7, d8, d9, d10, d11⟩, _⟩ := dz_facts Ld12.out
          obtain ⟨⟨x0, x1, x2, x3, x4, x5, x6, x7, x8, x9, x10, x11⟩, _⟩ := dz_facts Lx12.out
          obtain ⟨⟨y0, y1, y2, y3, y4, y5, y6, y7, y8, y9, y10, y11⟩, _⟩ := dz_facts Ly12.out
          go_wp2
          go_ret
          exact ⟨rfl, HB12.out⟩
        · have eL : decide (wait' ≤ later') = false := decide_eq_false hL
          rw [eE] at FL
          rw [eE, eL] at FV
          have EE := Lib.hid eE
          clear eE eL
          go_wp2_with fail
          refine (FV.out _).mono ?_
          rintro e v11 ⟨rfl, hb⟩
          have Lc11 := Lib.hid (Lc10.out.below hb (Nat.le_refl _))
          have Ld11 := Lib.hid (Ld10.out.below hb (Nat.le_refl _))
          have Lx11 := Lib.hid (Lx10.out.below hb (Nat.le_refl _))
          have Ly11 := Lib.hid (Ly10.out.below hb (Nat.le_refl _))
          have HB11 := Lib.hid (HB10.out.trans (hb.mono HB10.out.size))
          clear hb Lc10 Ld10 Lx10 Ly10 HB10
          clear c0 c1 c2 c3 c4 c5 c6 c7 c8 c9 c10 c11 d0 d1 d2 d3 d4 d5 d6 d7 d8 d9 d10 d11 x0 x1 x2 x3 x4 x5 x6 x7 x8 x9 x10 x11 y0 y1 y2 y3 y4 y5 y6 y7 y8 y9 y10 y11
          obtain ⟨⟨c0, c1, c2, c3, c4, c5, c6, c7, c8, c9, c10, c11⟩, _⟩ := dz_facts Lc11.out
          obtain ⟨⟨d0, d1, d2, d3, d4, d5, d6, d7, d8, d9, d10, d11⟩, _⟩ := dz_facts Ld11.out
          obtain ⟨⟨x0, x1, x2, x3, x4, x5, x6, x7, x8, x9, x10, x11⟩, _⟩ := dz_facts Lx11.out
          obtain ⟨⟨y0, y1, y2, y3, y4, y5, y6, y7, y8, y9, y10, y11⟩, _⟩ := dz_facts Ly11.out
          go_wp2_with fail
          refine (FL.out _).mono ?_
          rintro e v12 ⟨rfl, hb⟩
          have Lc12 := Lib.hid (Lc11.out.below hb (Nat.le_refl _))
          have Ld12 := Lib.hid (Ld11.out.below hb (Nat.le_refl _))
          have Lx12 := Lib.hid (Lx11.out.below hb (Nat.le_refl _))
          have Ly12 := Lib.hid (Ly11.out.below hb (Nat.le_refl _))
          have HB12 := Lib.hid (HB11.out.trans (hb.mono HB11.out.size))
          clear hb Lc11 Ld11 Lx11 Ly11 HB11
          clear c0 c1 c2 c3 c4 c5 c6 c7 c8 c9 c10 c11 d0 d1 d2 d3 d4 d5 d6 d7 d8 d9 d10 d11 x0 x1 x2 x3 x4 x5 x6 x7 x8 x9 x10 x11 y0 y1 y2 y3 y4 y5 y6 y7 y8 y9 y10 y11
          obtain ⟨⟨c0, c1, c2, c3, c4, c5, c6, c7, c8, c9, c10, c11⟩, _⟩ := dz_facts Lc12.out
          obtain ⟨⟨d0, d1, d2, d3, d4, d5, d6, d7, d8, d9, d10, d11⟩, _⟩ := dz_facts Ld12.out
          obtain ⟨⟨x0, x1, x2, x3, x4, x5, x6, x7, x8, x9, x10, x11⟩, _⟩ := dz_facts Lx12.out
          obtain ⟨⟨y0, y1, y2, y3, y4, y5, y6, y7, y8, y9, y10, y11⟩, _⟩ := dz_facts Ly12.out
          go_wp2
          go_ret
          exact ⟨rfl, HB12.out⟩
      · have eE : decide (epo + 1 < 60) = false := decide_eq_false hE
        by_cases hL : wait' ≤ later'
        · have eL : decide (wait' ≤ later') = true := decide_eq_true hL
          rw [eE] at FL
          rw [eE, eL] at FV
          have EE := Lib.hid eE
          clear eE eL
          go_wp2_with fail
          refine (FV.out _).mono ?_
          rintro e v11 ⟨rfl, hb⟩
          have Lc11 := Lib.hid (Lc10.out.below hb (Nat.le_refl _))
          have Ld11 := Lib.hid (Ld10.out.below hb (Nat.le_refl _))
          have Lx11 := Lib.hid (Lx10.out.below hb (Nat.le_refl _))
          have Ly11 := Lib.hid (Ly10.out.below hb (Nat.le_refl _))
          have HB11 := Lib.hid (HB10.out.trans (hb.mono HB10.out.size))
          clear hb Lc10 Ld10 Lx10 Ly10 HB10
          clear c0 c1 c2 c3 c4 c5 c6 c7 c8 c9 c10 c11 d0 d1 d2 d3 d4 d5 d6 d7 d8 d9 d10 d11 x0 x1 x2 x3 x4 x5 x6 x7 x8 x9 x10 x11 y0 y1 y2 y3 y4 y5 y6 y7 y8 y9 y10 y11
          obtain ⟨⟨c0, c1, c2, c3, c4, c5, c6, c7, c8, c9, c10, c11⟩, _⟩ := dz_facts Lc11.out
          obtain ⟨⟨d0, d1, d2, d3, d4, d5, d6, d7, d8, d9, d10, d11⟩, _⟩ := dz_facts Ld11.out
          obtain ⟨⟨x0, x1, x2, x3, x4, x5, x6, x7, x8, x9, x10, x11⟩, _⟩ := dz_facts Lx11.out
          obtain ⟨⟨y0, y1, y2, y3, y4, y5, y6, y7, y8, y9, y10, y11⟩, _⟩ := dz_facts Ly11.out
          go_wp2_with fail
          refine (FL.out _).mono ?_
          rintro e v12 ⟨rfl, hb⟩
          have Lc12 := Lib.hid (Lc11.out.below hb (Nat.le_refl _))
          have Ld12 := Lib.hid (Ld11.out.below hb (Nat.le_refl _))
          have Lx12 := Lib.hid (Lx11.out.below hb (Nat.le_refl _))
          have Ly12 := Lib.hid (Ly11.out.below hb (Nat.le_refl _))
          have HB12 := Lib.hid (HB11.out.trans (hb.mono HB11.out.size))
          clear hb Lc11 Ld11 Lx11 Ly11 HB11
          clear c0 c1 c2 c3 c4 c5 c6 c7 c8 c9 c10 c11 d0 d1 d2 d3 d4 d5 d6 d7 d8 d9 d10 d11 x0 x1 x2 x3 x4 x5 x6 x7 x8 x9 x10 x11 y0 y1 y2 y3 y4 y5 y6 y7 y8 y9 y10 y11
          obtain ⟨⟨c0, c1, c2, c3, c4, c5, c6, c7, c8, c9, c10, c11⟩, _⟩ := dz_facts Lc12.out
          obtain ⟨⟨d0, d1, d2, d3, d4, d5, d6, d7, d8, d9, d10, d11⟩, _⟩ := dz_facts Ld12.out
          obtain ⟨⟨x0, x1, x2, x3, x4, x5, x6, x7, x8, x9, x10, x11⟩, _⟩ := dz_facts Lx12.out
          obtain ⟨⟨y0, y1, y2, y3, y4, y5, y6, y7, y8, y9, y10, y11⟩, _⟩ := dz_facts Ly12.out
          go_wp2
          go_ret
          first | exact ⟨rfl, HB12.out⟩ | exact ⟨ret_bool (show (!decide (epo + 1 < 60)) = true by rw [EE.out]; rfl), HB12.out⟩
        · have eL : decide (wait' ≤ later') = false := decide_eq_false hL
          rw [eE] at FL
          rw [eE, eL] at FV
          have EE := Lib.hid eE
          clear eE eL
          go_wp2_with fail
          refine (FV.out _).mono ?_
          rintro e v11 ⟨rfl, hb⟩
          have Lc11 := Lib.hid (Lc10.out.below hb (Nat.le_refl _))
          have Ld11 := Lib.hid (Ld10.out.below hb (Nat.le_refl _))
          have Lx11 := Lib.hid (Lx10.out.below hb (Nat.le_refl _))
          have Ly11 := Lib.hid (Ly10.out.below hb (Nat.le_refl _))
          have HB11 := Lib.hid (HB10.out.trans (hb.mono HB10.out.size))
          clear hb Lc10 Ld10 Lx10 Ly10 HB10
          clear c0 c1 c2 c3 c4 c5 c6 c7 c8 c9 c10 c11 d0 d1 d2 d3 d4 d5 d6 d7 d8 d9 d10 d11 x0 x1 x2 x3 x4 x5 x6 x7 x8 x9 x10 x11 y0 y1 y2 y3 y4 y5 y6 y7 y8 y9 y10 y11
          obtain ⟨⟨c0, c1, c2, c3, c4, c5, c6, c7, c8, c9, c10, c11⟩, _⟩ := dz_facts Lc11.out
          obtain ⟨⟨d0, d1, d2, d3, d4, d5, d6, d7, d8, d9, d10, d11⟩, _⟩ := dz_facts Ld11.out
          obtain ⟨⟨x0, x1, x2, x3, x4, x5, x6, x7, x8, x9, x10, x11⟩, _⟩ := dz_facts Lx11.out
          obtain ⟨⟨y0, y1, y2, y3, y4, y5, y6, y7, y8, y9, y10, y11⟩, _⟩ := dz_facts Ly11.out
          go_wp2_with fail
          refine (FL.out _).mono ?_
          rintro e v12 ⟨rfl, hb⟩
          have Lc12 := Lib.hid (Lc11.out.below hb (Nat.le_refl _))
          have Ld12 := Lib.hid (Ld11.out.below hb (Nat.le_refl _))
          have Lx12 := Lib.hid (Lx11.out.below hb (Nat.le_refl _))
          have Ly12 := Lib.hid (Ly11.out.below hb (Nat.le_refl _))
          have HB12 := Lib.hid (HB11.out.trans (hb.mono HB11.out.size))
          clear hb Lc11 Ld11 Lx11 Ly11 HB11
          clear c0 c1 c2 c3 c4 c5 c6 c7 c8 c9 c10 c11 d0 d1 d2 d3 d4 d5 d6 d7 d8 d9 d10 d11 x0 x1 x2 x3 x4 x5 x6 x7 x8 x9 x10 x11 y0 y1 y2 y3 y4 y5 y6 y7 y8 y9 y10 y11
          obtain ⟨⟨c0, c1, c2, c3, c4, c5, c6, c7, c8, c9, c10, c11⟩, _⟩ := dz_facts Lc12.out
          obtain ⟨⟨d0, d1, d2, d3, d4, d5, d6, d7, d8, d9, d10, d11⟩, _⟩ := dz_facts Ld12.out
          obtain ⟨⟨x0, x1, x2, x3, x4, x5, x6, x7, x8, x9, x10, x11⟩, _⟩ := dz_facts Lx12.out
          obtain ⟨⟨y0, y1, y2, y3, y4, y5, y6, y7, y8, y9, y10, y11⟩, _⟩ := dz_facts Ly12.out
          go_wp2
          go_ret
          first | exact ⟨rfl, HB12.out⟩ | exact ⟨ret_bool (show (!decide (epo + 1 < 60)) = true by rw [EE.out]; rfl), HB12.out⟩
end Go.Proofs.Ytmmcfgmnfmkdbaa
