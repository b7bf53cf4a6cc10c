/- Walks of package vars: Check. -/
import Derived.Test.YtpjdbccndlbbhaaGreatDoorVc
import Derived.Deep.QuietTactic
import Derived.BigQuiet
namespace Go.Proofs.YtpjdbccndlbbhaaGreatDoor
open Go.RowKit

theorem below_cells {w w' : World} {b o : Nat} {v : Value} (hb : Below w.heap.size w w') (h : w.cell? ⟨b, o, none⟩ = some v) : w'.cell? ⟨b, o, none⟩ = some v :=
  (hb.cell (p := ⟨b, o, none⟩) (cell_lt h)).trans h
theorem below_drewN {B : Nat} {w w' : World} (hb : Below B w w') (n : Nat) : Below B w (w'.drewN n) := ⟨hb.os, hb.tape, hb.output, hb.size, hb.block⟩
theorem seen_at_new {E : Int → Option Addr} (w : World) (c : Int) (a : Addr) (x : Int) (k : Nat) (hx : x = k) (h : E c = some a) (hc : c ≠ 0) : SeenF E (w.alloc (.cells #[.int .i64 x, .iface 136 (.pointer (some a))] 57)) (atV w.heap.size) c (some k) := by
  subst hx
  refine .at_ _ c a k h hc ?_ ?_
  · exact cell_of_row _ w.heap.size 0 _ _ (0, 0) (heap_alloc_new w _)
  · exact cell_of_row _ w.heap.size 1 _ _ (0, 0) (heap_alloc_new w _)
theorem faultAt_first {l : List Vr.V} {k : Nat} {x : Int} (hx : x ≠ 0) (h : Vr.fault l[k]! = x) : Vr.faultAt l k = x := by
  unfold Vr.faultAt
  rw [h, if_pos hx]
theorem faultAt_zero {l : List Vr.V} (h : Vr.fault l[0]! = 0) : Vr.faultAt l 0 = 0 := by
  unfold Vr.faultAt
  rw [h, if_neg (by simp), if_neg (by simp)]
theorem faultAt_twice {l : List Vr.V} {j : Nat} (h : Vr.fault l[j + 1]! = 0) (h2 : Vr.lss l[j]!.name l[j + 1]!.name = false) : Vr.faultAt l (j + 1) = 109 := by
  unfold Vr.faultAt
  rw [h, if_neg (by simp), if_pos ⟨by omega, by simpa using h2⟩]
theorem faultAt_fine {l : List Vr.V} {j : Nat} (h : Vr.fault l[j + 1]! = 0) (h2 : Vr.lss l[j]!.name l[j + 1]!.name = true) : Vr.faultAt l (j + 1) = 0 := by
  unfold Vr.faultAt
  rw [h, if_neg (by simp), if_neg (fun hh => by rw [show j + 1 - 1 = j from rfl, h2] at hh; cases hh.2)]
theorem all_next {l : List Vr.V} {k : Nat} (h : ∀ j, j < k → Vr.faultAt l j = 0) (hk : Vr.faultAt l k = 0) : ∀ j, j < k + 1 → Vr.faultAt l j = 0 := by
  intro j hj
  by_cases e : j = k
  · subst e; exact hk
  · exact h j (by omega)

end Go.Proofs.YtpjdbccndlbbhaaGreatDoor
