/- A block's cells, which may be written. -/
import Derived.Test.YtggplgmjonnliaaGreatDoorApp
import Derived.KernelRfl
namespace Go.Proofs.YtggplgmjonnliaaGreatDoor
open Go.RowKit

theorem grown_trans {a w w' : World} {row : Option Nat} (h : a.grownBy w row) (k : w.grownBy w' row) : a.grownBy w' row :=
  ⟨k.os.trans h.os, k.tape.trans h.tape, k.output.trans h.output, Nat.le_trans h.size k.size, fun b hb hne => (k.block b (Nat.lt_of_lt_of_le hb h.size) hne).trans (h.block b hb hne)⟩
theorem grown_of {B : Nat} {a w w' : World} {row : Option Nat} (h : a.grownBy w row) (k : Below B w w') (hB : w.heap.size ≤ B) : a.grownBy w' row :=
  grown_trans h ⟨k.os, k.tape, k.output, k.size, fun b hb _ => k.block b (Nat.lt_of_lt_of_le hb hB)⟩

theorem below_cells {w w' : World} {b o : Nat} {v : Value} (hb : Below w.heap.size w w') (h : w.cell? ⟨b, o, none⟩ = some v) : w'.cell? ⟨b, o, none⟩ = some v :=
  (hb.cell (p := ⟨b, o, none⟩) (cell_lt h)).trans h
theorem below_drewN {B : Nat} {w w' : World} (hb : Below B w w') (n : Nat) : Below B w (w'.drewN n) := ⟨hb.os, hb.tape, hb.output, hb.size, hb.block⟩
theorem blk_lt {w : World} {b : Nat} {o : Obj} (h : w.heap[b]? = some o) : b < w.heap.size := by
  rcases Nat.lt_or_ge b w.heap.size with h' | h'
  · exact h'
  · rw [Array.getElem?_eq_none h'] at h; cases h
theorem grown_none {B : Nat} {w w' : World} (hb : Below B w w') (hB : w.heap.size ≤ B) : w.grownBy w' none :=
  ⟨hb.os, hb.tape, hb.output, hb.size, fun k hk _ => hb.block k (Nat.lt_of_lt_of_le hk hB)⟩
theorem set_grown {w w' : World} {q : Nat} (hg : w.grownBy w' (some q)) (i : Nat) (v : Value) : w.grownBy (w'.setCell ⟨q, i, none⟩ v) (some q) := grown_trans hg (grown_setCell _ ⟨q, i, none⟩ _)
/-- A block's cells, which may be written. -/
structure Cel (w : World) (q : Nat) (cs : List Value) : Prop where
  cell : ∀ (i : Nat) v, cs[i]? = some v → w.cell? ⟨q, i, none⟩ = some v
  froz : ∀ i : Nat, i < cs.length → w.frozen? ⟨q, i, none⟩ = false
  lt : q < w.heap.size
section
variable {w w' : World} {q : Nat} {cs : List Value} {row : Option Nat}
theorem Cel.set (h : Cel w q cs) {i : Nat} (hi : i < cs.length) (v : Value) : Cel (w.setCell ⟨q, i, none⟩ v) q (cs.set i v) := by
  refine ⟨fun j u hj => ?_, fun j hj => by simpa using h.froz j (by simpa using hj), by simpa using h.lt⟩
  by_cases e : i = j
  · subst e
    rw [List.getElem?_set_self hi] at hj
    obtain rfl := Option.some.inj hj
    exact World.cell?_setCell_same _ _ _ (h.cell i _ (List.getElem?_eq_getElem hi))
  · rw [List.getElem?_set_ne e] at hj
    exact (World.cell?_setCell_other _ _ _ _ (by intro h; cases h; exact e rfl)).trans (h.cell j u hj)
theorem Cel.kept (h : Cel w q cs) (hg : w.grownBy w' row) (hne : row ≠ some q) : Cel w' q cs := by
  have hb := hg.block q h.lt (fun e => hne e.symm)
  exact ⟨fun i v hi => (World.cell?_of_block (a := ⟨q, i, none⟩) hb).trans (h.cell i v hi), fun i hi => (World.frozen?_of_block (a := ⟨q, i, none⟩) hb).trans (h.froz i hi), Nat.lt_of_lt_of_le h.lt hg.size⟩
theorem Cel.below (h : Cel w q cs) {B : Nat} (hb : Below B w w') (hB : w.heap.size ≤ B) : Cel w' q cs :=
  h.kept (row := none) ⟨hb.os, hb.tape, hb.output, hb.size, fun k hk _ => hb.block k (Nat.lt_of_lt_of_le hk hB)⟩ (by simp)
theorem Cel.alloc (h : Cel w q cs) (o : Obj) : Cel (w.alloc o) q cs := h.kept (grown_alloc w o none) (by simp)
theorem Cel.drewN (h : Cel w q cs) (n : Nat) : Cel (w.drewN n) q cs := h.below (below_drewN (Below.refl w.heap.size w) n) (Nat.le_refl _)
end

theorem Cel.lit (w : World) (cs : Array Value) (t : TypeId) : Cel (w.alloc (.cells cs t)) w.heap.size cs.toList := by
  have hh := heap_alloc_new w (.cells cs t)
  refine ⟨fun i v hi => ?_, fun i hi => ?_, by simp⟩
  · have := cell_of_row (w.alloc (.cells cs t)) w.heap.size i cs t (0, 0) hh
    rw [this]; simpa using hi
  · simp
theorem grown_past {w w1 w2 : World} {row : Option Nat} {z : Nat} (h : w.grownBy w1 row) (k : w1.grownBy w2 (some z)) (hz : w.heap.size ≤ z) : w.grownBy w2 row :=
  ⟨k.os.trans h.os, k.tape.trans h.tape, k.output.trans h.output, Nat.le_trans h.size k.size, fun b hb hne => (k.block b (Nat.lt_of_lt_of_le hb h.size) (fun e => by have := Option.some.inj e; omega)).trans (h.block b hb hne)⟩
end Go.Proofs.YtggplgmjonnliaaGreatDoor
