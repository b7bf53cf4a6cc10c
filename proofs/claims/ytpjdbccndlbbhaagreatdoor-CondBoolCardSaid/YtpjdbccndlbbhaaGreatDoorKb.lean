/- Walk of the statement CondBool: or, and, not are what they are of any two; what is compared is what it is. -/
import Derived.Test.YtpjdbccndlbbhaaGreatDoorKa
namespace Go.Proofs.YtpjdbccndlbbhaaGreatDoor
open Go.RowKit

namespace Co
/-- The texts as they stand. -/
def sB : List (List UInt8) := [[112, 32, 111, 114, 32, 113], [112, 32, 97, 110, 100, 32, 113], [110, 111, 116, 32, 112], [112, 32, 61, 61, 32, 113], [112, 32, 33, 61, 32, 113], [97, 32, 60, 32, 98], [97, 32, 60, 61, 32, 98], [97, 32, 62, 32, 98], [97, 32, 62, 61, 32, 98], [97, 32, 61, 61, 32, 98], [97, 32, 33, 61, 32, 98], [110, 111, 116, 32, 40, 112, 32, 97, 110, 100, 32, 113, 41, 32, 61, 61, 32, 40, 110, 111, 116, 32, 112, 32, 111, 114, 32, 110, 111, 116, 32, 113, 41], [110, 111, 116, 32, 97, 32, 60, 32, 98, 32, 61, 61, 32, 40, 97, 32, 62, 61, 32, 98, 41, 32, 111, 114, 32, 116, 114, 117, 101], [97, 32, 60, 32, 98, 32, 111, 114, 32, 97, 32, 61, 61, 32, 98, 32, 111, 114, 32, 97, 32, 62, 32, 98]]
theorem sB_of (i : Nat) (hi : i < 14) (h1 : i ≠ 11) (h2 : i ≠ 12) : sB[i]! = (tB[i]!).s := by
  have e : i = 0 ∨ i = 1 ∨ i = 2 ∨ i = 3 ∨ i = 4 ∨ i = 5 ∨ i = 6 ∨ i = 7 ∨ i = 8 ∨ i = 9 ∨ i = 10 ∨ i = 13 := by omega
  rcases e with rfl | rfl | rfl | rfl | rfl | rfl | rfl | rfl | rfl | rfl | rfl | rfl <;> rfl
theorem fitB (i : Nat) (hi : i < 14) : (tB[i]!).Fit := by
  obtain ⟨h1, h2, h3⟩ := okB i hi
  refine ⟨h1, h2, ?_, h3⟩
  have e : i = 0 ∨ i = 1 ∨ i = 2 ∨ i = 3 ∨ i = 4 ∨ i = 5 ∨ i = 6 ∨ i = 7 ∨ i = 8 ∨ i = 9 ∨ i = 10 ∨ i = 11 ∨ i = 12 ∨ i = 13 := by omega
  rcases e with rfl | rfl | rfl | rfl | rfl | rfl | rfl | rfl | rfl | rfl | rfl | rfl | rfl | rfl <;> rfl
theorem fitBl : txBl.Fit := ⟨txBl_ok, rfl, rfl, by decide⟩
theorem lB_lite (a b : Int) (p q : Bool) : ∀ v ∈ lB a b p q, v.text.size ≤ 80 := by
  intro v hv
  simp only [lB, List.mem_cons, List.not_mem_nil, or_false] at hv
  rcases hv with rfl | rfl | rfl | rfl <;> (show (⟨#[]⟩ : ByteArray).size ≤ 80; decide)
end Co
set_option maxHeartbeats 3200000 in
set_option maxRecDepth 20000 in
theorem condBool_walk (a b : Int) (p q : Bool) (ads : List Addr) (w : World) (_ : -9223372036854775808 ≤ a) (_ : a ≤ 9223372036854775807) (_ : -9223372036854775808 ≤ b) (_ : b ≤ 9223372036854775807)
    (hE0 : Errs w 136 [0, 3, 2, 1, 13, 4] ads) (hW : CoWords w) :
    Calls Tryz.prog 3 #[.int .i64 a, .int .i64 b, .bool p, .bool q] w fun e w' => e = .returned (.bool true) ∧ Below w.heap.size w w' := by
  have hE := coErrs6 hE0 hW
  have HE := Lib.hid hE
  have HF := Lib.hid (cfirst_any hE (Below.refl w.heap.size w))
  clear hE hE0 hW
  go_enter Tryz.func3, Tryz.ntmps3
  go_wp2_with fail
  refine HF.out.mono ?_
  rintro e w1 ⟨rfl, hb1⟩
  have HB1 := Lib.hid hb1
  clear hb1 HF
  go_wp2_with fail
  refine (cflag_any _ _).mono ?_
  rintro e w2 ⟨rfl, hb2⟩
  have HB2 := Lib.hid (HB1.out.trans (hb2.mono HB1.out.size))
  clear hb2 HB1
  go_wp2_with fail
  refine (cflag_any _ _).mono ?_
  rintro e w3 ⟨rfl, hb3⟩
  have HB3 := Lib.hid (HB2.out.trans (hb3.mono HB2.out.size))
  clear hb3 HB2
  go_upto_region 6 with (fail)
  go_cut [12] from 18 to 114 (fun s wx => s = .slice (some ⟨w3.heap.size + 1 + 1, 0, none⟩) 14 14 ∧ Hid (Below w3.heap.size w3 wx ∧ wx.heap[w3.heap.size]? = some (.cells ((Co.lB a b p q).flatMap Vr.V.cells).toArray 26 (0, 0)) ∧ wx.heap[w3.heap.size + 1]? = some (.cells (Co.sB.map fun s => Value.string ⟨s.toArray⟩).toArray 9 (0, 0)) ∧ wx.heap[w3.heap.size + 1 + 1]? = some (.cells ((Co.wB a b p q).map Value.bool).toArray 4 (0, 0))))
  case first =>
    clear HB3 HE
    cases p <;> cases q
    all_goals
      go_wp2_with fail
      go_meet
      refine ⟨rfl, Lib.hid ⟨below3 _ _ _ _, (three_new _ _ _ _).1, (three_new _ _ _ _).2.1, ?_⟩⟩
      exact (three_new _ _ _ _).2.2
  case rest =>
    obtain ⟨rfl, hx⟩ := hcut
    obtain ⟨hbx, hx1, hx2, hx3⟩ := hx.out
    have HV := Lib.hid (varsC_lit 4 hx1 rfl (by decide) (Co.lB_lite a b p q))
    have HT : Hid (∀ i, i < 14 → wc.cell? ⟨w3.heap.size + 1, i, none⟩ = some (.string ⟨(Co.sB[i]!).toArray⟩)) := Lib.hid fun i hi => lit_texts hx2 hi
    have HQ : Hid (∀ i, i < 14 → wc.cell? ⟨w3.heap.size + 1 + 1, i, none⟩ = some (.bool (Co.wB a b p q)[i]!)) := Lib.hid fun i hi => lit_bools hx3 hi
    have HBC := Lib.hid (HB3.out.trans (hbx.mono HB3.out.size))
    have HEC := Lib.hid (HE.out.below HBC.out)
    have hl3 := blk_lt hx3
    clear hx hbx hx1 hx2 hx3 HB3 HE
    go_wp2_with fail
    go_loopw [13] (fun i wr => ∃ k : Nat, k ≤ 14 ∧ i = .int .i64 k ∧ Below wc.heap.size wc wr) (fun i _ => 14 - (intOf i).toNat)
    case atStart => exact ⟨0, Nat.zero_le _, rfl, Below.refl _ _⟩
    case round =>
      obtain ⟨k, hk, rfl, hbr⟩ := hrel
      by_cases hlt : k < 14
      · by_cases h11 : k = 11
        · subst h11
          go_wp2_with fail
          go_roundw
          case measure => simp [intOf]
          case rel => exact ⟨12, by omega, rfl, hbr⟩
        by_cases h12 : k = 12
        · subst h12
          go_wp2_with fail
          go_roundw
          case measure => simp [intOf]
          case rel => exact ⟨13, by omega, rfl, hbr⟩
        have i11 : ((k : Int) == 11) = false := by rw [beq_eq_false_iff_ne]; omega
        have i12 : ((k : Int) == 12) = false := by rw [beq_eq_false_iff_ne]; omega
        have hkI : (k : Int) < 14 := by omega
        have hk0 : (0 : Int) ≤ (k : Int) := by omega
        have c1 := cell_below hbr (HT.out k hlt)
        rw [Co.sB_of k hlt h11 h12] at c1
        have hh := cholds_any (c := 4) HEC.out HV.out (Co.tB[k]!) (Co.fitB k hlt) hbr
        rw [Co.evB a b p q k hlt h11 h12] at hh
        have HH := Lib.hid hh
        have HC2 := Lib.hid (fun w' h => cell_below (w := wc) (w' := w') h (HQ.out k hlt))
        generalize (Co.wB a b p q)[k]! = bk at *
        generalize (Co.tB[k]!).s = sk at *
        have HBR := Lib.hid hbr
        clear hbr hh h11 h12
        go_wp2_with fail
        refine HH.out.mono ?_
        rintro e w5 ⟨⟨e, rfl, hs⟩, hb5⟩
        obtain rfl := seen_nil hs
        have hb6 := HBR.out.trans (hb5.mono HBR.out.size)
        have c2 := HC2.out _ hb6
        have hl5 : w3.heap.size + 1 + 1 < w5.heap.size := Nat.lt_of_lt_of_le hl3 hb6.size
        have HB6 := Lib.hid hb6
        clear hs hb5 hb6 c1
        go_wp2_with fail
        go_roundw
        case measure => simp [intOf]; omega
        case rel => exact ⟨k + 1, by omega, by go_num, HB6.out⟩
      · obtain rfl : k = 14 := by omega
        have hh := cholds_any (c := 4) HEC.out HV.out Co.txBl Co.fitBl hbr
        rw [Co.evBl a b p q] at hh
        have HH := Lib.hid hh
        have HBR := Lib.hid hbr
        clear hbr hh
        go_wp2_with fail
        refine HH.out.mono ?_
        rintro e w5 ⟨⟨e, rfl, hs⟩, hb5⟩
        obtain rfl := seen_nil hs
        have HB5 := Lib.hid (HBC.out.trans ((HBR.out.trans (hb5.mono HBR.out.size)).mono HBC.out.size))
        clear hs hb5
        go_wp2
        go_ret
        exact ⟨rfl, HB5.out⟩
end Go.Proofs.YtpjdbccndlbbhaaGreatDoor
