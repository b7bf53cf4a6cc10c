/- AgainMany: the walk. -/
import Derived.Test.YtfpennnbicclfaaAgq
import Derived.Test.YtfpennnbicclfaaAgp
namespace Go.Proofs.Ytfpennnbicclfaa
open Go.RowKit

namespace Ag
theorem one_str (xb : UInt8) (W : World) (B : Nat) (h : W.cell? ⟨B, 0, none⟩ = some (.int .u8 (xb.toNat : Int))) : (convert 32 9 (.slice (some ⟨B, 0, none⟩) 1 1)).run Try.prog W = .ok (.string ⟨#[xb]⟩) W := by
  have hb : Bytes W W.heap.size (some ⟨B, 0, none⟩) 1 [xb] := ⟨rfl, fun _ => ⟨B, 0, rfl, cell_lt h, fun k v hv => by
    have hk : k < 1 := by simpa using (List.getElem?_eq_some_iff.1 hv).1
    obtain rfl : k = 0 := by omega
    simp at hv
    rw [← hv]
    exact h⟩⟩
  exact Bytes.string (P := Try.prog) hb (fun h => by cases h) 1 32 9 5 Try.underlying32 Try.underlying5 Try.underlying9
theorem bytes2 (w : World) (x y : UInt8) : Bytes (w.alloc (.cells #[.int .u8 (x.toNat : Int), .int .u8 (y.toNat : Int)] 5)) (w.heap.size + 1) (some ⟨w.heap.size, 0, none⟩) 2 [x, y] := by
  refine ⟨rfl, fun _ => ⟨w.heap.size, 0, rfl, by omega, fun k v hk => ?_⟩⟩
  have := cell_of_row (w.alloc (.cells #[.int .u8 (x.toNat : Int), .int .u8 (y.toNat : Int)] 5)) w.heap.size k _ _ (0, 0) (heap_alloc_new w _)
  rw [Nat.zero_add]
  exact this.trans (by simpa [bv] using hk)
end Ag
open Ag
set_option maxRecDepth 10000 in
set_option maxHeartbeats 3200000 in
theorem againMany_walk (n0 : Int) (x : UInt8) (w : World) (_ : -9223372036854775808 ≤ n0) (_ : n0 ≤ 9223372036854775807) :
    Calls Try.prog 6 #[.int .i64 n0, .int .u8 (x.toNat : Int)] w fun e w' => e = .returned (.bool true) ∧ Below w.heap.size w w' := by
  have HF := Lib.hid (first_any w)
  go_enter Try.func6, Try.ntmps6
  go_wp2_with fail
  refine HF.out.mono ?_
  rintro e w1 ⟨rfl, hb1⟩
  have HB1 := Lib.hid hb1
  clear HF hb1
  go_upto_region 4 with (fail)
  go_upto_if 19 with (fail)
  go_cut [0] from 20 to 22 (fun s0 wx => (∃ k : Int, 0 ≤ k ∧ k ≤ 9223372036854775807 ∧ s0 = .int .i64 k) ∧ wx = w1)
  case first =>
    by_cases h : n0 < 0
    · go_wp2
      go_meet
      exact ⟨⟨_, by omega, by omega, rfl⟩, rfl⟩
    · go_wp2
      go_meet
      exact ⟨⟨_, by omega, by omega, rfl⟩, rfl⟩
  case rest =>
    obtain ⟨⟨k, hk1, hk2, rfl⟩, rfl⟩ := hcut
    generalize wc = w1 at *
    obtain ⟨nn, hnn, hn10⟩ : ∃ nn : Nat, k.tmod 10 = (nn : Int) ∧ nn < 10 := ⟨(k % 10).toNat, by rw [Int.tmod_eq_emod_of_nonneg hk1]; omega, by omega⟩
    have hq3 := Cel.lit w1 #[.map none] 27
    have hb3 : Below w.heap.size w (w1.alloc (.cells #[.map none] 27)) := HB1.out.alloc HB1.out.size _
    have AT3 := Lib.hid (⟨BkC.zero hq3, rfl, fun x hx => by have := foot_nil hx; have := HB1.out.size; omega⟩ : At w.heap.size (w1.alloc (.cells #[.map none] 27)) w1.heap.size none [] (many x 0))
    have HB3 := Lib.hid hb3
    clear hq3 hb3
    go_wp2_with fail
    generalize w1.alloc _ = w3 at *
    generalize w1.heap.size = q at *
    clear HB1 hnn hk1 hk2
    go_loopw [7] (fun s7 wr => ∃ (j : Nat) (m : Option Nat) (l : List Pg), s7 = .int .i64 j ∧ j ≤ nn ∧ At w.heap.size wr q m l (many x j) ∧ Below w.heap.size w wr) (fun s7 _ => nn - (intOf s7).toNat)
    case atStart => exact ⟨0, none, [], rfl, Nat.zero_le _, AT3.out, HB3.out⟩
    case round =>
      obtain ⟨j, m, l, rfl, hj, hat, hbr⟩ := hrel
      have hj0 : (0 : Int) ≤ (j : Int) := by omega
      have HAT := Lib.hid hat
      have HBR := Lib.hid hbr
      clear hat hbr AT3 HB3
      by_cases hlt : j < nn
      · have hI2 : (j : Int) < (nn : Int) := by omega
        obtain ⟨c1, hc1⟩ : ∃ c1 : UInt8, UInt8.ofNat (48 + j) = c1 := ⟨_, rfl⟩
        obtain ⟨c2, hc2⟩ : ∃ c2 : UInt8, UInt8.ofNat j = c2 := ⟨_, rfl⟩
        have hcw : IntKind.u8.wrap (48 + (j : Int)) = (c1.toNat : Int) := by
          rw [← hc1]
          simp [IntKind.wrap, IntKind.bits, IntKind.signed]
        have hcw2 : IntKind.u8.wrap (j : Int) = (c2.toNat : Int) := by
          rw [← hc2]
          simp [IntKind.wrap, IntKind.bits, IntKind.signed]
        have hcat : (⟨#[119]⟩ : ByteArray) ++ ⟨#[c1]⟩ = wn j := by rw [← hc1]; rfl
        have hj10 : j < 10 := by omega
        have HLM := Lib.hid (look_many x hj10)
        have HKM := Lib.hid (keep_many x hj10)
        rw [hc2] at HKM
        have HWS := Lib.hid (show (wn j).size ≤ 1000000 by show 2 ≤ 1000000; decide)
        have hcv := one_str c1
        generalize wn j = sj at *
        clear hc1 hc2
        have hb4 : Below wr.heap.size wr ((wr.alloc (.cells #[.int .u8 (c1.toNat : Int)] 5)).alloc (.cells #[.string sj, .int .i64 (1 + (j : Int)), .int .i64 1] 39)) := ((Below.refl _ _).alloc (Nat.le_refl _) _).alloc (by simp) _
        have hh4 := Cel.lit (wr.alloc (.cells #[.int .u8 (c1.toNat : Int)] 5)) #[.string sj, .int .i64 (1 + (j : Int)), .int .i64 1] 39
        rw [show (wr.alloc (.cells #[.int .u8 (c1.toNat : Int)] 5)).heap.size = wr.heap.size + 1 by simp] at hh4
        have HAT4 := Lib.hid (HAT.out.below hb4)
        have HB4 := Lib.hid (HBR.out.trans (hb4.mono HBR.out.size))
        have HH4 := Lib.hid hh4
        have hwr : wr.heap.size + 1 < ((wr.alloc (.cells #[.int .u8 (c1.toNat : Int)] 5)).alloc (.cells #[.string sj, .int .i64 (1 + (j : Int)), .int .i64 1] 39)).heap.size := by simp
        clear hb4 hh4 HAT HBR
        go_upto_region 12 with (fail)
        clear hcw hcv hcat
        generalize (wr.alloc _).alloc _ = w4 at *
        generalize wr.heap.size + 1 = hd at *
        obtain ⟨d0, d1, d2⟩ := cel3 HH4.out
        by_cases h6 : j < 6
        · have hI6 : ¬ (6 : Int) ≤ (j : Int) := by omega
          have hI7 : (j : Int) < 6 := by omega
          have hlm := HLM.out
          rw [if_pos h6] at hlm
          have HLK := Lib.hid (HAT4.out.looks sj (1 + (j : Int)) 1 HWS.out hlm)
          go_wp2_with fail
          (with_reducible refine HLK.out.mono ?_)
          rintro e w5 ⟨A5, n5, c5, rfl, _, hb5, hat5⟩
          have hh5 := HH4.out.below hb5 (Nat.le_refl _)
          have HB5 := Lib.hid (HB4.out.trans (hb5.mono HB4.out.size))
          have hd5 := Nat.lt_of_lt_of_le hwr hb5.size
          clear d0 d1 d2 hb5 HLK HAT4 HB4 hwr
          obtain ⟨d0, d1, d2⟩ := cel3 hh5
          have hb6 : Below w5.heap.size w5 (w5.alloc (.cells #[.int .u8 (x.toNat : Int), .int .u8 (c2.toNat : Int)] 5)) := (Below.refl _ _).alloc (Nat.le_refl _) _
          have hk0 := (hat5.below hb6).keeps (w := w) sj (1 + (j : Int)) 1 (some ⟨w5.heap.size, 0, none⟩) 2 2 [x, c2] HWS.out ((bytes2 w5 x c2).mono (by simp)) (fun h => by cases h) (by decide) (fun _ a ha => by
            cases ha
            refine .inr fun hx => ?_
            have := hat5.bk.lt hx
            exact absurd this (Nat.lt_irrefl _)) (HB5.out.trans (hb6.mono HB5.out.size)) (Nat.le_refl _) (b := true) (by rw [hlm]; rfl) HKM.out
          have HK : Hid (Calls Try.prog 12 #[.pointer (some ⟨q, 0, none⟩), .agg #[.string sj, .int .i64 (1 + (j : Int)), .int .i64 1], .slice (some ⟨w5.heap.size, 0, none⟩) 2 2] (w5.alloc (.cells #[.int .u8 (x.toNat : Int), .int .u8 (c2.toNat : Int)] 5)) fun e w' => e = .returned (.bool true) ∧ Below w.heap.size w w' ∧ ∃ m' l', At w.heap.size w' q m' l' (many x (j + 1)) ∧ Kp (Wr q m l) (w5.alloc (.cells #[.int .u8 (x.toNat : Int), .int .u8 (c2.toNat : Int)] 5)) w') := hk0
          clear hk0 hb6 hat5 HB5 hh5
          go_wp2_with (go_at_call 12; (with_reducible refine HK.out.mono ?_); rintro e w7 ⟨rfl, hb7, m7, l7, hat7, _⟩)
          go_roundw
          case rel => exact ⟨j + 1, m7, l7, by first | rfl | go_num, by omega, hat7, hb7⟩
          case measure =>
            simp only [intOf]
            omega
        · have hI6 : (6 : Int) ≤ (j : Int) := by omega
          have hI7 : ¬ (j : Int) < 6 := by omega
          have hlm := HLM.out
          rw [if_neg h6] at hlm
          have HLK := Lib.hid (HAT4.out.looks sj (1 + (j : Int)) 1 HWS.out hlm)
          go_wp2_with fail
          (with_reducible refine HLK.out.mono ?_)
          rintro e w5 ⟨A5, n5, c5, rfl, _, hb5, hat5⟩
          have hh5 := HH4.out.below hb5 (Nat.le_refl _)
          have HB5 := Lib.hid (HB4.out.trans (hb5.mono HB4.out.size))
          have hd5 := Nat.lt_of_lt_of_le hwr hb5.size
          clear d0 d1 d2 hb5 HLK HAT4 HB4 hwr
          obtain ⟨d0, d1, d2⟩ := cel3 hh5
          have hb6 : Below w5.heap.size w5 (w5.alloc (.cells #[.int .u8 (x.toNat : Int), .int .u8 (c2.toNat : Int)] 5)) := (Below.refl _ _).alloc (Nat.le_refl _) _
          have hk0 := (hat5.below hb6).keeps (w := w) sj (1 + (j : Int)) 1 (some ⟨w5.heap.size, 0, none⟩) 2 2 [x, c2] HWS.out ((bytes2 w5 x c2).mono (by simp)) (fun h => by cases h) (by decide) (fun _ a ha => by
            cases ha
            refine .inr fun hx => ?_
            have := hat5.bk.lt hx
            exact absurd this (Nat.lt_irrefl _)) (HB5.out.trans (hb6.mono HB5.out.size)) (Nat.le_refl _) (b := false) (by rw [hlm]; rfl) HKM.out
          have HK : Hid (Calls Try.prog 12 #[.pointer (some ⟨q, 0, none⟩), .agg #[.string sj, .int .i64 (1 + (j : Int)), .int .i64 1], .slice (some ⟨w5.heap.size, 0, none⟩) 2 2] (w5.alloc (.cells #[.int .u8 (x.toNat : Int), .int .u8 (c2.toNat : Int)] 5)) fun e w' => e = .returned (.bool false) ∧ Below w.heap.size w w' ∧ ∃ m' l', At w.heap.size w' q m' l' (many x (j + 1)) ∧ Kp (Wr q m l) (w5.alloc (.cells #[.int .u8 (x.toNat : Int), .int .u8 (c2.toNat : Int)] 5)) w') := hk0
          clear hk0 hb6 hat5 HB5 hh5
          go_wp2_with (go_at_call 12; (with_reducible refine HK.out.mono ?_); rintro e w7 ⟨rfl, hb7, m7, l7, hat7, _⟩)
          go_roundw
          case rel => exact ⟨j + 1, m7, l7, by first | rfl | go_num, by omega, hat7, hb7⟩
          case measure =>
            simp only [intOf]
            omega
      · obtain rfl : j = nn := by omega
        obtain ⟨mm, hmm⟩ : ∃ mm : Nat, min j 6 = mm := ⟨_, rfl⟩
        have hmin : min (j : Int) 6 = (mm : Int) := by omega
        have hm6 : mm ≤ 6 ∧ mm ≤ j := by omega
        have HLH := Lib.hid (fun (i : Nat) (hi : i < mm) => look_had x (n := j) (i := i) (by omega))
        have HML := Lib.hid (show (many x j).length = mm by rw [many_len]; exact hmm)
        generalize many x j = M at *
        clear hmm
        go_wp2_with fail
        go_loopw [12] (fun s12 wx => ∃ i : Nat, s12 = .int .i64 i ∧ i ≤ mm ∧ At w.heap.size wx q m l M ∧ Below w.heap.size w wx) (fun s12 _ => mm - (intOf s12).toNat)
        case atStart => exact ⟨0, rfl, Nat.zero_le _, HAT.out, HBR.out⟩
        case round =>
          clear HAT HBR
          obtain ⟨i, rfl, hi, hat, hbr⟩ := hrel
          have hi0 : (0 : Int) ≤ (i : Int) := by omega
          have HAT := Lib.hid hat
          have HBR := Lib.hid hbr
          clear hat hbr
          by_cases hlt : i < mm
          · have hI2 : (i : Int) < (mm : Int) := by omega
            obtain ⟨c1, hc1⟩ : ∃ c1 : UInt8, UInt8.ofNat (48 + i) = c1 := ⟨_, rfl⟩
            obtain ⟨c2, hc2⟩ : ∃ c2 : UInt8, UInt8.ofNat i = c2 := ⟨_, rfl⟩
            have hcw : IntKind.u8.wrap (48 + (i : Int)) = (c1.toNat : Int) := by
              rw [← hc1]
              simp [IntKind.wrap, IntKind.bits, IntKind.signed]
            have hcw2 : IntKind.u8.wrap (i : Int) = (c2.toNat : Int) := by
              rw [← hc2]
              simp [IntKind.wrap, IntKind.bits, IntKind.signed]
            have hcat : (⟨#[119]⟩ : ByteArray) ++ ⟨#[c1]⟩ = wn i := by rw [← hc1]; rfl
            have hlk := HLH.out i hlt
            rw [hc2] at hlk
            have HWS := Lib.hid (show (wn i).size ≤ 1000000 by show 2 ≤ 1000000; decide)
            have hcv := one_str c1
            generalize wn i = si at *
            clear hc1 hc2
            have hb4 : Below wr.heap.size wr (wr.alloc (.cells #[.int .u8 (c1.toNat : Int)] 5)) := (Below.refl _ _).alloc (Nat.le_refl _) _
            have HAT4 := Lib.hid (HAT.out.below hb4)
            have HB4 := Lib.hid (HBR.out.trans (hb4.mono HBR.out.size))
            have HLK := Lib.hid (HAT4.out.looks si (1 + (i : Int)) 1 HWS.out hlk)
            clear hb4 HAT HBR hlk
            go_wp2_with fail
            clear hcw hcv hcat
            (with_reducible refine HLK.out.mono ?_)
            rintro e w5 ⟨A5, n5, c5, rfl, ho5, hb5, hat5⟩
            have hb6 := HB4.out.trans (hb5.mono HB4.out.size)
            obtain rfl : n5 = 2 := by have h1 := (own_bytes_row ho5).len; simp at h1; omega
            obtain ⟨b5, o5, rfl, _, hcc⟩ := (own_bytes_row ho5).2 (by decide)
            have k0 := hcc 0 _ rfl
            have k1 := hcc 1 _ rfl
            rw [Nat.add_zero] at k0
            unfold bv at k0 k1
            clear ho5 hb5 hcc HLK HB4 HAT4
            go_wp2
            go_roundw
            case rel => exact ⟨i + 1, by first | rfl | go_num, by omega, hat5, hb6⟩
            case measure =>
              simp only [intOf]
              omega
          · obtain rfl : i = mm := by omega
            have HAL := Lib.hid HAT.out.all
            go_wp2_with (go_at_call 10; (with_reducible refine HAL.out.mono ?_); rintro e w9 ⟨A9, c9, qs, rfl, hab, _, _, hb9, _⟩; have HQL := Lib.hid (show qs.length = i by have h1 := congrArg List.length hab; rw [List.length_map, HML.out] at h1; exact h1); have hql : (qs.length : Int) = (i : Int) := by rw [HQL.out])
            go_ret
            exact ⟨rfl, HBR.out.trans (hb9.mono HBR.out.size)⟩
end Go.Proofs.Ytfpennnbicclfaa
