/- LeaseEpochs: the walk. -/
import Derived.Test.YtmmcfgmnfmkdbaaMe
namespace Go.Proofs.Ytmmcfgmnfmkdbaa
open Go.RowKit
open Ls
set_option maxHeartbeats 6400000 in
set_option maxRecDepth 10000 in
theorem leaseEpochs_walk (n span : Int) (w : World) (hn1 : -9223372036854775808 ≤ n) (hn2 : n ≤ 9223372036854775807) (hs1 : -9223372036854775808 ≤ span) (hs2 : span ≤ 9223372036854775807) :
    Calls Try.prog 5 #[.int .i64 n, .int .i64 span] w fun e w' => e = .returned (.bool true) ∧ Below w.heap.size w w' := by
  have N1 := Lib.hid (fun w => number_any n 61 w (by decide) hn1 hn2 (by decide))
  have N2 := Lib.hid (fun w => number_any span 50 w (by decide) hs1 hs2 (by decide))
  clear hn1 hn2 hs1 hs2
  go_enter Try.func5, Try.ntmps5
  go_wp2_with fail
  refine (first_any w).mono ?_
  rintro e w1 ⟨rfl, hb⟩
  have HB0 := Lib.hid hb
  have HBS := Lib.hid hb.size
  clear hb
  go_wp2_with fail
  refine (N1.out _).mono ?_
  rintro e wy ⟨⟨k1, rfl, hk1⟩, rfl⟩
  go_wp2_with fail
  refine (N2.out _).mono ?_
  rintro e wy ⟨⟨k2, rfl, hk2⟩, rfl⟩
  obtain ⟨sp, hsp⟩ : ∃ y : Int, y = (k2 : Int) + 1 := ⟨_, rfl⟩
  go_upto_region 6 with (fail)
  try rw [← hsp]
  have hsp1 : 1 ≤ sp ∧ sp ≤ 50 := by omega
  clear hsp hk2 N1 N2
  obtain ⟨hc, hb⟩ := one_lit w1 #[.int .i64 1, .int .i64 1, .int .i64 1, .int .i64 0, .string ⟨#[116]⟩, .int .i64 0, .string ⟨#[]⟩, .int .i64 k1, .int .i64 0, .int .i64 0, .int .i64 1, .bool false] 25
  have HB1 := Lib.hid (HB0.out.trans (hb.mono HB0.out.size))
  have Lc1 := Lib.hid hc
  clear hc hb HB0
  go_upto_region 8 with (fail)
  generalize World.alloc w1 _ = v1 at *
  have HQ : Hid (∃ (j : Nat) (s : ByteArray) (x : Int), (k1 : Int) = j ∧ 0 ≤ (0 : Int) ∧ (0 : Int) ≤ ((j : Int) - k1) * 50 ∧ j ≤ 60 ∧ x ≤ 0 ∧ 0 ≤ x ∧ Cel v1 w1.heap.size [.int .i64 1, .int .i64 1, .int .i64 1, .int .i64 0, .string ⟨#[116]⟩, .int .i64 0, .string s, .int .i64 j, .int .i64 x, .int .i64 0, .int .i64 1, .bool false] ∧ Below w.heap.size w v1) := Lib.hid ⟨k1, _, 0, rfl, Int.le_refl _, by omega, by omega, Int.le_refl _, Int.le_refl _, Lc1.out, HB1.out⟩
  clear Lc1 HB1
  generalize hB : w1.heap.size = q at *
  have HS := Lib.hid hsp1
  have HK := Lib.hid hk1
  have HWQ : Hid (w.heap.size ≤ q) := Lib.hid (by have := HBS.out; omega)
  go_wp2_with fail
  go_loopw [8, 7] (fun i t wr => ∃ (j : Nat) (tt : Int) (s : ByteArray) (x : Int), i = .int .i64 j ∧ t = .int .i64 tt ∧ 0 ≤ tt ∧ tt ≤ (j : Int) * 50 ∧ j ≤ 60 ∧ x ≤ tt ∧ 0 ≤ x ∧ Cel wr q [.int .i64 1, .int .i64 1, .int .i64 1, .int .i64 0, .string ⟨#[116]⟩, .int .i64 0, .string s, .int .i64 j, .int .i64 x, .int .i64 0, .int .i64 1, .bool false] ∧ Below w.heap.size w wr) (fun i _ _ => 62 - (intOf i).toNat)
  case atStart =>
    obtain ⟨j, s, x, h1, h2, h3, h4, h5, h6, h7, h8⟩ := HQ.out
    exact ⟨j, 0, s, x, by rw [h1], rfl, Int.le_refl _, by omega, h4, h5, h6, h7, h8⟩
  case round =>
    obtain ⟨j, tt, s, x, rfl, rfl, h1, h2, h3, h4, h5, hc, hb⟩ := hrel
    have LC := Lib.hid hc
    have HBR := Lib.hid hb
    have hq1 := hc.lt
    clear hc hb
    have hsum : IntKind.i64.wrap (tt + sp) = tt + sp := wrapI (by have := HS.out; omega) (by have := HS.out; omega)
    have TK := Lib.hid (fun w => take_any ⟨1, 1, 1, 0, ⟨#[116]⟩, 0, s, (j : Int), x, 0, 1, false⟩ ⟨#[119]⟩ tt sp w (by decide) ⟨by show (0 : Int) ≤ (j : Int); omega, by show (j : Int) ≤ 60; omega⟩ (by have := HS.out; omega))
    have hF : T.canTake ⟨1, 1, 1, 0, ⟨#[116]⟩, 0, s, (j : Int), x, 0, 1, false⟩ ⟨#[119]⟩ tt sp = decide ((j : Int) < 60) := by
      unfold T.canTake
      have hs := HS.out
      rw [show Vr.name (⟨#[119]⟩ : ByteArray).data.toList = true by decide +kernel, decide_eq_true hs.1, decide_eq_true (show sp ≤ 1000 by omega)]
      have e : T.free ⟨1, 1, 1, 0, ⟨#[116]⟩, 0, s, (j : Int), x, 0, 1, false⟩ tt = decide ((j : Int) < 60) := by
        apply free_eq
        rw [decide_eq_true_iff]
        exact ⟨fun h => h.2.1, fun h => ⟨rfl, h, h1, h4⟩⟩
      rw [e]
      simp
    rw [hF] at TK
    clear hF
    have hI : (j : Int) < 62 := by omega
    by_cases hlt : j < 60
    · have hltI : (j : Int) < 60 := by omega
      rw [decide_eq_true hltI] at TK
      unfold T.taken T.val at TK
      dsimp only at TK
      have TK1 : Hid (∀ w, Calls Try.prog 10 #[.agg #[.int .i64 1, .int .i64 1, .int .i64 1, .int .i64 0, .string ⟨#[116]⟩, .int .i64 0, .string s, .int .i64 (j : Int), .int .i64 x, .int .i64 0, .int .i64 1, .bool false], .string ⟨#[119]⟩, .int .i64 tt, .int .i64 sp] w fun e w' => e = .returned (.tuple #[.agg #[.int .i64 1, .int .i64 1, .int .i64 1, .int .i64 0, .string ⟨#[116]⟩, .int .i64 0, .string ⟨#[119]⟩, .int .i64 ((j : Int) + 1), .int .i64 (tt + sp), .int .i64 0, .int .i64 1, .bool false], .bool true]) ∧ Below w.heap.size w w') := Lib.hid (fun w => TK.out w)
      have FV := Lib.hid (fun w => free_any ⟨1, 1, 1, 0, ⟨#[116]⟩, 0, ⟨#[119]⟩, (j : Int) + 1, tt + sp, 0, 1, false⟩ (tt + sp - 1) w)
      have hFV : T.free ⟨1, 1, 1, 0, ⟨#[116]⟩, 0, ⟨#[119]⟩, (j : Int) + 1, tt + sp, 0, 1, false⟩ (tt + sp - 1) = false := by
        apply free_eq
        constructor
        · rintro ⟨_, _, _, h⟩
          have h : tt + sp ≤ tt + sp - 1 := h
          omega
        · intro h; cases h
      rw [hFV] at FV
      unfold T.val at FV
      dsimp only at FV
      have hsum2 : IntKind.i64.wrap (tt + sp - 1) = tt + sp - 1 := wrapI (by have := HS.out; omega) (by have := HS.out; omega)
      clear TK hFV
      obtain ⟨⟨c0, c1, c2, c3, c4, c5, c6, c7, c8, c9, c10, c11⟩, _⟩ := dz_facts LC.out
      go_wp2_with fail
      refine (TK1.out _).mono ?_
      rintro e v11 ⟨rfl, hb⟩
      have Lc11 := Lib.hid (LC.out.below hb (Nat.le_refl _))
      have HB11 := Lib.hid (HBR.out.trans (hb.mono HBR.out.size))
      clear hb LC HBR
      clear c0 c1 c2 c3 c4 c5 c6 c7 c8 c9 c10 c11
      obtain ⟨hc, hb⟩ := one_lit v11 #[.int .i64 1, .int .i64 1, .int .i64 1, .int .i64 0, .string ⟨#[116]⟩, .int .i64 0, .string ⟨#[119]⟩, .int .i64 ((j : Int) + 1), .int .i64 (tt + sp), .int .i64 0, .int .i64 1, .bool false] 25
      have Lc12 := Lib.hid (Lc11.out.below hb (Nat.le_refl _))
      have HB12 := Lib.hid (HB11.out.trans (hb.mono HB11.out.size))
      have Ld12 := Lib.hid hc
      clear hc hb Lc11 HB11
      go_upto_region 12 with (fail)
      generalize World.alloc v11 _ = v12 at *
      obtain ⟨⟨c0, c1, c2, c3, c4, c5, c6, c7, c8, c9, c10, c11⟩, _⟩ := dz_facts Lc12.out
      obtain ⟨⟨d0, d1, d2, d3, d4, d5, d6, d7, d8, d9, d10, d11⟩, _⟩ := dz_facts Ld12.out
      go_wp2_with fail
      refine (FV.out _).mono ?_
      rintro e v13 ⟨rfl, hb⟩
      have Lc13 := Lib.hid (Lc12.out.below hb (Nat.le_refl _))
      have Ld13 := Lib.hid (Ld12.out.below hb (Nat.le_refl _))
      have HB13 := Lib.hid (HB12.out.trans (hb.mono HB12.out.size))
      clear hb Lc12 Ld12 HB12
      clear c0 c1 c2 c3 c4 c5 c6 c7 c8 c9 c10 c11 d0 d1 d2 d3 d4 d5 d6 d7 d8 d9 d10 d11
      obtain ⟨⟨c0, c1, c2, c3, c4, c5, c6, c7, c8, c9, c10, c11⟩, _⟩ := dz_facts Lc13.out
      obtain ⟨⟨d0, d1, d2, d3, d4, d5, d6, d7, d8, d9, d10, d11⟩, _⟩ := dz_facts Ld13.out
      clear c0 c1 c2 c3 c4 c5 c6 c7 c8 c9 c10 c11 d0 d1 d2 d3 d4 d5 d6 d7 d8 d9 d10 d11
      obtain ⟨⟨c0, c1, c2, c3, c4, c5, c6, c7, c8, c9, c10, c11⟩, f0, f1, f2, f3, f4, f5, f6, f7, f8, f9, f10, f11⟩ := dz_facts Lc13.out
      obtain ⟨⟨d0, d1, d2, d3, d4, d5, d6, d7, d8, d9, d10, d11⟩, _⟩ := dz_facts Ld13.out
      have LN := Lib.hid (dzn_cel Lc13.out ⟨1, 1, 1, 0, ⟨#[116]⟩, 0, ⟨#[119]⟩, (j : Int) + 1, tt + sp, 0, 1, false⟩)
      have BN := Lib.hid (dzn_below HB13.out (z := q) HWQ.out ⟨1, 1, 1, 0, ⟨#[116]⟩, 0, ⟨#[119]⟩, (j : Int) + 1, tt + sp, 0, 1, false⟩)
      go_upto_region 20 with (fail)
      unfold dzn T.cells at LN
      unfold dzn at BN
      dsimp only at LN BN
      generalize (World.setCell (World.setCell (World.setCell (World.setCell (World.setCell (World.setCell (World.setCell (World.setCell (World.setCell (World.setCell (World.setCell (World.setCell v13 _ _) _ _) _ _) _ _) _ _) _ _) _ _) _ _) _ _) _ _) _ _) _ _) = wz at *
      clear c0 c1 c2 c3 c4 c5 c6 c7 c8 c9 c10 c11 f0 f1 f2 f3 f4 f5 f6 f7 f8 f9 f10 f11 d0 d1 d2 d3 d4 d5 d6 d7 d8 d9 d10 d11
      go_wp2_with fail
      go_roundw
      case measure => simp [intOf]; omega
      case rel => exact ⟨j + 1, tt + sp, _, _, by first | rfl | (congr 1), rfl, by have := HS.out; omega, by have := HS.out; omega, by omega, Int.le_refl _, by have := HS.out; omega, LN.out, BN.out⟩
    · obtain rfl : j = 60 := by omega
      have hltI : ¬ (((60 : Nat) : Int) < 60) := by omega
      rw [decide_eq_false hltI] at TK
      unfold T.val at TK
      dsimp only at TK
      have TK1 : Hid (∀ w, Calls Try.prog 10 #[.agg #[.int .i64 1, .int .i64 1, .int .i64 1, .int .i64 0, .string ⟨#[116]⟩, .int .i64 0, .string s, .int .i64 ((60 : Nat) : Int), .int .i64 x, .int .i64 0, .int .i64 1, .bool false], .string ⟨#[119]⟩, .int .i64 tt, .int .i64 sp] w fun e w' => e = .returned (.tuple #[.agg #[.int .i64 1, .int .i64 1, .int .i64 1, .int .i64 0, .string ⟨#[116]⟩, .int .i64 0, .string s, .int .i64 ((60 : Nat) : Int), .int .i64 x, .int .i64 0, .int .i64 1, .bool false], .bool false]) ∧ Below w.heap.size w w') := Lib.hid (fun w => TK.out w)
      have WV := Lib.hid (fun w => when_any ⟨1, 1, 1, 0, ⟨#[116]⟩, 0, s, ((60 : Nat) : Int), x, 0, 1, false⟩ w)
      have hA : T.avail ⟨1, 1, 1, 0, ⟨#[116]⟩, 0, s, ((60 : Nat) : Int), x, 0, 1, false⟩ = false := by
        show (true && decide (((60 : Nat) : Int) < 60)) = false
        decide +kernel
      rw [hA] at WV
      have SM := Lib.hid (fun w => sametask_any ⟨1, 1, 1, 0, ⟨#[116]⟩, 0, s, ((60 : Nat) : Int), x, 0, 1, false⟩ w)
      have FV := Lib.hid (fun w => free_any ⟨1, 1, 1, 0, ⟨#[116]⟩, 0, s, ((60 : Nat) : Int), x, 0, 1, false⟩ (tt + 1000) w)
      have hFV : T.free ⟨1, 1, 1, 0, ⟨#[116]⟩, 0, s, ((60 : Nat) : Int), x, 0, 1, false⟩ (tt + 1000) = false := by
        apply free_eq
        constructor
        · rintro ⟨_, h, _⟩
          have h : (60 : Int) < 60 := h
          omega
        · intro h; cases h
      rw [hFV] at FV
      unfold T.val at WV SM FV
      dsimp only at WV SM FV
      have hsum2 : IntKind.i64.wrap (tt + 1000) = tt + 1000 := wrapI (by omega) (by omega)
      clear TK hFV hA
      obtain ⟨⟨c0, c1, c2, c3, c4, c5, c6, c7, c8, c9, c10, c11⟩, _⟩ := dz_facts LC.out
      go_wp2_with fail
      refine (TK1.out _).mono ?_
      rintro e v31 ⟨rfl, hb⟩
      have Lc31 := Lib.hid (LC.out.below hb (Nat.le_refl _))
      have HB31 := Lib.hid (HBR.out.trans (hb.mono HBR.out.size))
      clear hb LC HBR
      clear c0 c1 c2 c3 c4 c5 c6 c7 c8 c9 c10 c11
      obtain ⟨hc, hb⟩ := one_lit v31 #[.int .i64 1, .int .i64 1, .int .i64 1, .int .i64 0, .string ⟨#[116]⟩, .int .i64 0, .string s, .int .i64 ((60 : Nat) : Int), .int .i64 x, .int .i64 0, .int .i64 1, .bool false] 25
      have Lc32 := Lib.hid (Lc31.out.below hb (Nat.le_refl _))
      have HB32 := Lib.hid (HB31.out.trans (hb.mono HB31.out.size))
      have Ld32 := Lib.hid hc
      clear hc hb Lc31 HB31
      go_upto_region 12 with (fail)
      generalize World.alloc v31 _ = v32 at *
      obtain ⟨⟨c0, c1, c2, c3, c4, c5, c6, c7, c8, c9, c10, c11⟩, _⟩ := dz_facts Lc32.out
      obtain ⟨⟨d0, d1, d2, d3, d4, d5, d6, d7, d8, d9, d10, d11⟩, _⟩ := dz_facts Ld32.out
      go_wp2_with fail
      refine (WV.out _).mono ?_
      rintro e v33 ⟨rfl, hb⟩
      have Lc33 := Lib.hid (Lc32.out.below hb (Nat.le_refl _))
      have Ld33 := Lib.hid (Ld32.out.below hb (Nat.le_refl _))
      have HB33 := Lib.hid (HB32.out.trans (hb.mono HB32.out.size))
      clear hb Lc32 Ld32 HB32
      clear c0 c1 c2 c3 c4 c5 c6 c7 c8 c9 c10 c11 d0 d1 d2 d3 d4 d5 d6 d7 d8 d9 d10 d11
      obtain ⟨⟨c0, c1, c2, c3, c4, c5, c6, c7, c8, c9, c10, c11⟩, _⟩ := dz_facts Lc33.out
      obtain ⟨⟨d0, d1, d2, d3, d4, d5, d6, d7, d8, d9, d10, d11⟩, _⟩ := dz_facts Ld33.out
      go_wp2_with fail
      refine (SM.out _).mono ?_
      rintro e v34 ⟨rfl, hb⟩
      have Lc34 := Lib.hid (Lc33.out.below hb (Nat.le_refl _))
      have Ld34 := Lib.hid (Ld33.out.below hb (Nat.le_refl _))
      have HB34 := Lib.hid (HB33.out.trans (hb.mono HB33.out.size))
      clear hb Lc33 Ld33 HB33
      clear c0 c1 c2 c3 c4 c5 c6 c7 c8 c9 c10 c11 d0 d1 d2 d3 d4 d5 d6 d7 d8 d9 d10 d11
      obtain ⟨⟨c0, c1, c2, c3, c4, c5, c6, c7, c8, c9, c10, c11⟩, _⟩ := dz_facts Lc34.out
      obtain ⟨⟨d0, d1, d2, d3, d4, d5, d6, d7, d8, d9, d10, d11⟩, _⟩ := dz_facts Ld34.out
      go_wp2_with fail
      refine (FV.out _).mono ?_
      rintro e v35 ⟨rfl, hb⟩
      have Lc35 := Lib.hid (Lc34.out.below hb (Nat.le_refl _))
      have Ld35 := Lib.hid (Ld34.out.below hb (Nat.le_refl _))
      have HB35 := Lib.hid (HB34.out.trans (hb.mono HB34.out.size))
      clear hb Lc34 Ld34 HB34
      clear c0 c1 c2 c3 c4 c5 c6 c7 c8 c9 c10 c11 d0 d1 d2 d3 d4 d5 d6 d7 d8 d9 d10 d11
      obtain ⟨⟨c0, c1, c2, c3, c4, c5, c6, c7, c8, c9, c10, c11⟩, _⟩ := dz_facts Lc35.out
      obtain ⟨⟨d0, d1, d2, d3, d4, d5, d6, d7, d8, d9, d10, d11⟩, _⟩ := dz_facts Ld35.out
      go_wp2
      go_ret
      exact ⟨rfl, HB35.out⟩
end Go.Proofs.Ytmmcfgmnfmkdbaa
