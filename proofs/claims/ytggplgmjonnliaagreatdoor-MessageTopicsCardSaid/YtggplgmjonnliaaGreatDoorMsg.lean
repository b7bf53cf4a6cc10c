/- Package message: a row of texts against itself. Printed by tools/specs/message/same2.py. -/
import Derived.Test.YtggplgmjonnliaaGreatDoorMse
import Derived.Test.YtggplgmjonnliaaGreatDoorCel
namespace Go.Proofs.YtggplgmjonnliaaGreatDoor
open Go.RowKit

namespace Ms
set_option maxHeartbeats 800000 in
theorem eq_text_self (A : Option Addr) (n c : Nat) (l : List ByteArray) (w : World) (hr : RowS w w.heap.size 1 A n (l.map Value.string)) (hn : n ≤ 1000000) : Calls Tryz.prog 31 #[.slice A n c, .slice A n c] w fun e w' => e = .returned (.bool true) ∧ Below w.heap.size w w' := by
  have HR := Lib.hid hr
  have HL := Lib.hid (show l.length = n by have := hr.1; simpa using this)
  clear hr
  go_enter Tryz.func31, Tryz.ntmps31
  go_wp2_with fail
  go_loopw [13] (fun s wr => ∃ j : Nat, s = .int .i64 j ∧ j ≤ n ∧ Below w.heap.size w wr) (fun s _ => n - (intOf s).toNat)
  case atStart => exact ⟨0, rfl, Nat.zero_le _, Below.refl _ _⟩
  case round =>
    obtain ⟨j, rfl, hj, hb⟩ := hrel
    have hj0 : (0 : Int) ≤ (j : Int) := by omega
    have HB := Lib.hid hb
    have hrw := HR.out.below hb (Nat.le_refl _)
    clear hb
    by_cases hlt : j < n
    · have hI : (j : Int) < (n : Int) := by omega
      have hjl : j < l.length := by have := HL.out; omega
      have HLT := Lib.hid hlt
      obtain ⟨b, off, rfl, _, hc⟩ := hrw.2 (by omega)
      have k0 := hc j (.string (l[j]'hjl)) (by rw [List.getElem?_map, List.getElem?_eq_getElem hjl]; rfl)
      clear hc hrw
      generalize l[j]'hjl = s at *
      go_upto_region 6 with (fail)
      go_quiet (fail)
      go_wp2
      go_roundw
      case rel => exact ⟨j + 1, by first | rfl | go_num, by have := HLT.out; omega, HB.out.trans ((by first | exact below_drewN (Below.refl _ _) _ | exact Below.refl _ _ : Below wr.heap.size wr _).mono HB.out.size)⟩
      case measure =>
        have := HLT.out
        simp only [intOf]
        omega
    · obtain rfl : j = n := by omega
      go_wp2
      go_ret
      exact ⟨rfl, HB.out⟩
end Ms
end Go.Proofs.YtggplgmjonnliaaGreatDoor
