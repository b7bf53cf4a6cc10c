/- LeaseLonger: the walk. -/
import Derived.Test.YtmmcfgmnfmkdbaaMe
namespace Go.Proofs.Ytmmcfgmnfmkdbaa
open Go.RowKit
open Ls
set_option maxHeartbeats 6400000 in
set_option maxRecDepth 10000 in
theorem leaseLonger_walk (a b c at_ : Int) (w : World) (ha1 : -9223372036854775808 ≤ a) (ha2 : a ≤ 9223372036854775807) (hb1 : -9223372036854775808 ≤ b) (hb2 : b ≤ 9223372036854775807) (hc1 : -9223372036854775808 ≤ c) (hc2 : c ≤ 9223372036854775807) (hd1 : -9223372036854775808 ≤ at_) (hd2 : at_ ≤ 9223372036854775807) :
    Calls Try.prog 6 #[.int .i64 a, .int .i64 b, .int .i64 c, .int .i64 at_] w fun e w' => e = .returned (.bool true) ∧ Below w.heap.size w w' := by
  have N1 := Lib.hid (fun w => number_any a 500 w (by decide) ha1 ha2 (by decide))
  have N2 := Lib.hid (fun (d : Int) (h1 : 0 < d) (h2 : d ≤ 4611686018427387904) w => number_any b d w h1 hb1 hb2 h2)
  have N3 := Lib.hid (fun w => number_any c 1000 w (by decide) hc1 hc2 (by decide))
  have N4 := Lib.hid (fun w => number_any at_ 2000 w (by decide) hd1 hd2 (by decide))
  clear ha1 ha2 hb1 hb2 hc1 hc2 hd1 hd2
  go_enter Try.func6, Try.ntmps6
  go_wp2_with fail
  refine (first_any w).mono ?_
  rintro e w1 ⟨rfl, hb⟩
  have HB0 := Lib.hid hb
  clear hb
  go_wp2_with fail
  refine (N1.out _).mono ?_
  rintro e wy ⟨⟨k1, rfl, hk1⟩, rfl⟩
  obtain ⟨a', ha⟩ : ∃ y : Int, y = (k1 : Int) + 1 := ⟨_, rfl⟩
  go_upto_region 5 with (fail)
  try rw [← ha]
  have haI : 1 ≤ a' ∧ a' ≤ 500 := by omega
  have HA := Lib.hid haI
  clear ha hk1 haI
  go_wp2_with fail
  refine (N2.out a' (by have := HA.out; omega) (by have := HA.out; omega) _).mono ?_
  rintro e wy ⟨⟨k2, rfl, hk2⟩, rfl⟩
  go_wp2_with fail
  refine (N3.out _).mono ?_
  rintro e wy ⟨⟨k3, rfl, hk3⟩, rfl⟩
  go_wp2_with fail
  refine (N4.out _).mono ?_
  rintro e wy ⟨⟨k4, rfl, hk4⟩, rfl⟩
  obtain ⟨b', hb'⟩ : ∃ y : Int, y = (k2 : Int) := ⟨_, rfl⟩
  obtain ⟨c', hc'⟩ : ∃ y : Int, y = (k3 : Int) + 1 := ⟨_, rfl⟩
  obtain ⟨d', hd'⟩ : ∃ y : Int, y = (k4 : Int) := ⟨_, rfl⟩
  go_upto_region 8 with (fail)
  try rw [← hb']
  try rw [← hc']
  try rw [← hd']
  have HN : Hid (1 ≤ a' ∧ a' ≤ 500 ∧ 0 ≤ b' ∧ b' < a' ∧ 1 ≤ c' ∧ c' ≤ 1000 ∧ 0 ≤ d' ∧ d' < 2000) := Lib.hid (by have := HA.out; omega)
  clear hb' hc' hd' hk2 hk3 hk4 HA N1 N2 N3 N4
  have hw0 : IntKind.i64.wrap (0 + a') = a' := by rw [IntKind.wrap_i64]; have := HN.out; omega
  have TK := Lib.hid (fun w => take_any ⟨1, 1, 1, 0, ⟨#[116]⟩, 0, ⟨#[]⟩, 0, 0, 0, 1, false⟩ ⟨#[119]⟩ 0 a' w (by decide) ⟨Int.le_refl _, by decide⟩ (by have := HN.out; omega))
  have LG := Lib.hid (fun w => longer_any ⟨1, 1, 1, 0, ⟨#[116]⟩, 0, ⟨#[119]⟩, 1, a', 0, 1, false⟩ b' c' w (by have := HN.out; omega))
  have LH := Lib.hid (fun w => longer_any ⟨1, 1, 1, 0, ⟨#[116]⟩, 0, ⟨#[119]⟩, 1, a', 0, 1, false⟩ b' 1001 w (by have := HN.out; omega))
  have LV := Lib.hid (fun w => leave_any ⟨1, 1, 1, 0, ⟨#[116]⟩, 0, ⟨#[119]⟩, 1, a', 0, 1, false⟩ w)
  have LI := Lib.hid (fun w => longer_any ⟨1, 1, 1, 0, ⟨#[116]⟩, 0, ⟨#[]⟩, 1, 0, 0, 1, false⟩ b' c' w (by have := HN.out; omega))
  have HO := Lib.hid (fun w => holds_any ⟨1, 1, 1, 0, ⟨#[116]⟩, 0, ⟨#[119]⟩, 1, b' + c', 0, 1, false⟩ ⟨#[119]⟩ 1 (b' + d') w)
  have CK := Lib.hid (fun w => check_good_any ⟨1, 1, 1, 0, ⟨#[116]⟩, 0, ⟨#[119]⟩, 1, b' + c', 0, 1, false⟩ (good_lit _ _ _ _ _ _ _ _ _ _ _ _ (by decide) (by decide) (by decide) (by decide) (by decide +kernel) (by decide) (by decide) (by decide) (by have := HN.out; omega) (by decide) (by decide) rfl (.inr ⟨by decide +kernel, by decide, by decide, by have := HN.out; omega, by decide⟩)) w)
  have h1 : T.canTake ⟨1, 1, 1, 0, ⟨#[116]⟩, 0, ⟨#[]⟩, 0, 0, 0, 1, false⟩ ⟨#[119]⟩ 0 a' = true := by
    have := HN.out
    unfold T.canTake
    rw [show Vr.name (⟨#[119]⟩ : ByteArray).data.toList = true by decide +kernel, decide_eq_true (show 1 ≤ a' by omega), decide_eq_true (show a' ≤ 1000 by omega)]
    decide +kernel
  have h2 : T.canLonger ⟨1, 1, 1, 0, ⟨#[116]⟩, 0, ⟨#[119]⟩, 1, a', 0, 1, false⟩ c' = true := by
    have := HN.out
    unfold T.canLonger
    rw [decide_eq_true (show 1 ≤ c' by omega), decide_eq_true (show c' ≤ 1000 by omega)]
    show (true && true && !(⟨#[119]⟩ : ByteArray).toList.isEmpty) = true
    decide +kernel
  have h3 : T.canLonger ⟨1, 1, 1, 0, ⟨#[116]⟩, 0, ⟨#[119]⟩, 1, a', 0, 1, false⟩ 1001 = false := by
    unfold T.canLonger
    rw [decide_eq_false (show ¬ ((1001 : Int) ≤ 1000) by decide)]
    simp
  have h4 : T.canLonger ⟨1, 1, 1, 0, ⟨#[116]⟩, 0, ⟨#[]⟩, 1, 0, 0, 1, false⟩ c' = false := by
    unfold T.canLonger
    show (_ && !(⟨#[]⟩ : ByteArray).toList.isEmpty) = false
    rw [show (⟨#[]⟩ : ByteArray).toList.isEmpty = true by decide +kernel]
    simp
  have h5 : T.holds ⟨1, 1, 1, 0, ⟨#[116]⟩, 0, ⟨#[119]⟩, 1, b' + c', 0, 1, false⟩ ⟨#[119]⟩ 1 (b' + d') = if b' + c' ≤ b' + d' then 5 else 0 := by
    unfold T.holds
    dsimp only
    rw [if_neg (by decide +kernel), if_neg (by decide +kernel), if_neg (by decide)]
  rw [h1, if_pos rfl] at TK
  rw [h2, if_pos rfl] at LG
  rw [h3, if_neg (by decide)] at LH
  rw [h4, if_neg (by decide)] at LI
  rw [h5] at HO
  unfold T.taken T.val at TK
  unfold T.longer T.val at LG
  unfold T.leave T.val at LV
  unfold T.val at LH LI HO CK
  dsimp only at TK LG LH LV LI HO CK
  rw [show (0 : Int) + 1 = 1 from rfl, Int.zero_add] at TK
  have q1 : IntKind.i64.wrap (b' + d') = b' + d' := wrapI (by have := HN.out; omega) (by have := HN.out; omega)
  have q2 : IntKind.i64.wrap (b' + c') = b' + c' := wrapI (by have := HN.out; omega) (by have := HN.out; omega)
  have Q1 := Lib.hid q1
  have Q2 := Lib.hid q2
  clear q1 q2 h1 h2 h3 h4 h5 hw0
  go_wp2_with fail
  refine (TK.out _).mono ?_
  rintro e v1 ⟨rfl, hb⟩
  have HB1 := Lib.hid (HB0.out.trans (hb.mono HB0.out.size))
  clear hb HB0
  obtain ⟨hc, hb⟩ := one_lit v1 #[.int .i64 1, .int .i64 1, .int .i64 1, .int .i64 0, .string ⟨#[116]⟩, .int .i64 0, .string ⟨#[119]⟩, .int .i64 1, .int .i64 a', .int .i64 0, .int .i64 1, .bool false] 25
  have HB2 := Lib.hid (HB1.out.trans (hb.mono HB1.out.size))
  have Lc2 := Lib.hid hc
  clear hc hb HB1
  go_upto_region 9 with (fail)
  generalize World.alloc v1 _ = v2 at *
  obtain ⟨⟨c0, c1, c2, c3, c4, c5, c6, c7, c8, c9, c10, c11⟩, _⟩ := dz_facts Lc2.out
  go_wp2_with fail
  refine (LG.out _).mono ?_
  rintro e v3 ⟨rfl, hb⟩
  have Lc3 := Lib.hid (Lc2.out.below hb (Nat.le_refl _))
  have HB3 := Lib.hid (HB2.out.trans (hb.mono HB2.out.size))
  clear hb Lc2 HB2
  clear c0 c1 c2 c3 c4 c5 c6 c7 c8 c9 c10 c11
  obtain ⟨hc, hb⟩ := one_lit v3 #[.int .i64 1, .int .i64 1, .int .i64 1, .int .i64 0, .string ⟨#[116]⟩, .int .i64 0, .string ⟨#[119]⟩, .int .i64 1, .int .i64 (b' + c'), .int .i64 0, .int .i64 1, .bool false] 25
  have Lc4 := Lib.hid (Lc3.out.below hb (Nat.le_refl _))
  have HB4 := Lib.hid (HB3.out.trans (hb.mono HB3.out.size))
  have Ld4 := Lib.hid hc
  clear hc hb Lc3 HB3
  go_upto_region 10 with (fail)
  generalize World.alloc v3 _ = v4 at *
  obtain ⟨⟨c0, c1, c2, c3, c4, c5, c6, c7, c8, c9, c10, c11⟩, _⟩ := dz_facts Lc4.out
  obtain ⟨⟨d0, d1, d2, d3, d4, d5, d6, d7, d8, d9, d10, d11⟩, _⟩ := dz_facts Ld4.out
  go_wp2_with fail
  refine (LH.out _).mono ?_
  rintro e v5 ⟨rfl, hb⟩
  have Lc5 := Lib.hid (Lc4.out.below hb (Nat.le_refl _))
  have Ld5 := Lib.hid (Ld4.out.below hb (Nat.le_refl _))
  have HB5 := Lib.hid (HB4.out.trans (hb.mono HB4.out.size))
  clear hb Lc4 Ld4 HB4
  clear c0 c1 c2 c3 c4 c5 c6 c7 c8 c9 c10 c11 d0 d1 d2 d3 d4 d5 d6 d7 d8 d9 d10 d11
  obtain ⟨hc, hb⟩ := one_lit v5 #[.int .i64 1, .int .i64 1, .int .i64 1, .int .i64 0, .string ⟨#[116]⟩, .int .i64 0, .string ⟨#[119]⟩, .int .i64 1, .int .i64 a', .int .i64 0, .int .i64 1, .bool false] 25
  have Lc6 := Lib.hid (Lc5.out.below hb (Nat.le_refl _))
  have Ld6 := Lib.hid (Ld5.out.below hb (Nat.le_refl _))
  have HB6 := Lib.hid (HB5.out.trans (hb.mono HB5.out.size))
  have Lx6 := Lib.hid hc
  clear hc hb Lc5 Ld5 HB5
  go_upto_region 11 with (fail)
  generalize World.alloc v5 _ = v6 at *
  obtain ⟨⟨c0, c1, c2, c3, c4, c5, c6, c7, c8, c9, c10, c11⟩, _⟩ := dz_facts Lc6.out
  obtain ⟨⟨d0, d1, d2, d3, d4, d5, d6, d7, d8, d9, d10, d11⟩, _⟩ := dz_facts Ld6.out
  go_wp2_with fail
  refine (LV.out _).mono ?_
  rintro e v7 ⟨rfl, hb⟩
  have Lc7 := Lib.hid (Lc6.out.below hb (Nat.le_refl _))
  have Ld7 := Lib.hid (Ld6.out.below hb (Nat.le_refl _))
  have Lx7 := Lib.hid (Lx6.out.below hb (Nat.le_refl _))
  have HB7 := Lib.hid (HB6.out.trans (hb.mono HB6.out.size))
  clear hb Lc6 Ld6 Lx6 HB6
  clear c0 c1 c2 c3 c4 c5 c6 c7 c8 c9 c10 c11 d0 d1 d2 d3 d4 d5 d6 d7 d8 d9 d10 d11
  obtain ⟨⟨c0, c1, c2, c3, c4, c5, c6, c7, c8, c9, c10, c11⟩, _⟩ := dz_facts Lc7.out
  obtain ⟨⟨d0, d1, d2, d3, d4, d5, d6, d7, d8, d9, d10, d11⟩, _⟩ := dz_facts Ld7.out
  go_wp2_with fail
  refine (LI.out _).mono ?_
  rintro e v8 ⟨rfl, hb⟩
  have Lc8 := Lib.hid (Lc7.out.below hb (Nat.le_refl _))
  have Ld8 := Lib.hid (Ld7.out.below hb (Nat.le_refl _))
  have Lx8 := Lib.hid (Lx7.out.below hb (Nat.le_refl _))
  have HB8 := Lib.hid (HB7.out.trans (hb.mono HB7.out.size))
  clear hb Lc7 Ld7 Lx7 HB7
  clear c0 c1 c2 c3 c4 c5 c6 c7 c8 c9 c10 c11 d0 d1 d2 d3 d4 d5 d6 d7 d8 d9 d10 d11
  obtain ⟨hc, hb⟩ := one_lit v8 #[.int .i64 1, .int .i64 1, .int .i64 1, .int .i64 0, .string ⟨#[116]⟩, .int .i64 0, .string ⟨#[]⟩, .int .i64 1, .int .i64 0, .int .i64 0, .int .i64 1, .bool false] 25
  have Lc9 := Lib.hid (Lc8.out.below hb (Nat.le_refl _))
  have Ld9 := Lib.hid (Ld8.out.below hb (Nat.le_refl _))
  have Lx9 := Lib.hid (Lx8.out.below hb (Nat.le_refl _))
  have HB9 := Lib.hid (HB8.out.trans (hb.mono HB8.out.size))
  have Ly9 := Lib.hid hc
  clear hc hb Lc8 Ld8 Lx8 HB8
  go_upto_region 13 with (fail)
  generalize World.alloc v8 _ = v9 at *
  obtain ⟨⟨d0, d1, d2, d3, d4, d5, d6, d7, d8, d9, d10, d11⟩, _⟩ := dz_facts Ld9.out
  have q1 := Q1.out
  have q2 := Q2.out
  by_cases hL : c' ≤ d'
  · have hL2 : (b' + c' ≤ b' + d') := by omega
    rw [if_pos hL2] at HO
    go_wp2_with fail
    refine (HO.out _).mono ?_
    rintro e v10 ⟨rfl, hb⟩
    have Lc10 := Lib.hid (Lc9.out.below hb (Nat.le_refl _))
    have Ld10 := Lib.hid (Ld9.out.below hb (Nat.le_refl _))
    have Lx10 := Lib.hid (Lx9.out.below hb (Nat.le_refl _))
    have Ly10 := Lib.hid (Ly9.out.below hb (Nat.le_refl _))
    have HB10 := Lib.hid (HB9.out.trans (hb.mono HB9.out.size))
    clear hb Lc9 Ld9 Lx9 Ly9 HB9
    clear d0 d1 d2 d3 d4 d5 d6 d7 d8 d9 d10 d11
    obtain ⟨⟨d0, d1, d2, d3, d4, d5, d6, d7, d8, d9, d10, d11⟩, _⟩ := dz_facts Ld10.out
    go_wp2_with fail
    refine (CK.out _).mono ?_
    rintro e v11 ⟨rfl, hb⟩
    have Lc11 := Lib.hid (Lc10.out.below hb (Nat.le_refl _))
    have Ld11 := Lib.hid (Ld10.out.below hb (Nat.le_refl _))
    have Lx11 := Lib.hid (Lx10.out.below hb (Nat.le_refl _))
    have Ly11 := Lib.hid (Ly10.out.below hb (Nat.le_refl _))
    have HB11 := Lib.hid (HB10.out.trans (hb.mono HB10.out.size))
    clear hb Lc10 Ld10 Lx10 Ly10 HB10
    clear d0 d1 d2 d3 d4 d5 d6 d7 d8 d9 d10 d11
    obtain ⟨⟨d0, d1, d2, d3, d4, d5, d6, d7, d8, d9, d10, d11⟩, _⟩ := dz_facts Ld11.out
    go_wp2
    go_ret
    exact ⟨rfl, HB11.out⟩
  · have hL2 : ¬ (b' + c' ≤ b' + d') := by omega
    rw [if_neg hL2] at HO
    go_wp2_with fail
    refine (HO.out _).mono ?_
    rintro e v10 ⟨rfl, hb⟩
    have Lc10 := Lib.hid (Lc9.out.below hb (Nat.le_refl _))
    have Ld10 := Lib.hid (Ld9.out.below hb (Nat.le_refl _))
    have Lx10 := Lib.hid (Lx9.out.below hb (Nat.le_refl _))
    have Ly10 := Lib.hid (Ly9.out.below hb (Nat.le_refl _))
    have HB10 := Lib.hid (HB9.out.trans (hb.mono HB9.out.size))
    clear hb Lc9 Ld9 Lx9 Ly9 HB9
    clear d0 d1 d2 d3 d4 d5 d6 d7 d8 d9 d10 d11
    obtain ⟨⟨d0, d1, d2, d3, d4, d5, d6, d7, d8, d9, d10, d11⟩, _⟩ := dz_facts Ld10.out
    go_wp2_with fail
    refine (CK.out _).mono ?_
    rintro e v11 ⟨rfl, hb⟩
    have Lc11 := Lib.hid (Lc10.out.below hb (Nat.le_refl _))
    have Ld11 := Lib.hid (Ld10.out.below hb (Nat.le_refl _))
    have Lx11 := Lib.hid (Lx10.out.below hb (Nat.le_refl _))
    have Ly11 := Lib.hid (Ly10.out.below hb (Nat.le_refl _))
    have HB11 := Lib.hid (HB10.out.trans (hb.mono HB10.out.size))
    clear hb Lc10 Ld10 Lx10 Ly10 HB10
    clear d0 d1 d2 d3 d4 d5 d6 d7 d8 d9 d10 d11
    obtain ⟨⟨d0, d1, d2, d3, d4, d5, d6, d7, d8, d9, d10, d11⟩, _⟩ := dz_facts Ld11.out
    go_wp2
    go_ret
    exact ⟨rfl, HB11.out⟩
end Go.Proofs.Ytmmcfgmnfmkdbaa
