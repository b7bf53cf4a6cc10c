/- A variable in a block of its own. -/
import Derived.Test.YthkgjdhbibialaaDoorVk
namespace Go.Proofs.YthkgjdhbibialaaDoor
open Go.RowKit

/-- A variable in a block of its own. -/
structure Box (w : World) (b : Nat) (v : Vr.V) : Prop where
  c0 : w.cell? ⟨b, 0, none⟩ = some (.string v.name)
  c1 : w.cell? ⟨b, 1, none⟩ = some (.int .i64 v.kind)
  c2 : w.cell? ⟨b, 2, none⟩ = some (.int .i64 v.num)
  c3 : w.cell? ⟨b, 3, none⟩ = some (.string v.text)
theorem Box.below {w w' : World} {b : Nat} {v : Vr.V} (h : Box w b v) (hb : Below w.heap.size w w') : Box w' b v :=
  ⟨below_cells hb h.c0, below_cells hb h.c1, below_cells hb h.c2, below_cells hb h.c3⟩
theorem Box.new (w : World) (v : Vr.V) : Box (w.alloc (.cells #[.string v.name, .int .i64 v.kind, .int .i64 v.num, .string v.text] 45)) w.heap.size v := by
  have hh := heap_alloc_new w (.cells #[.string v.name, .int .i64 v.kind, .int .i64 v.num, .string v.text] 45)
  exact ⟨cell_of_row _ w.heap.size 0 _ _ (0, 0) hh, cell_of_row _ w.heap.size 1 _ _ (0, 0) hh, cell_of_row _ w.heap.size 2 _ _ (0, 0) hh, cell_of_row _ w.heap.size 3 _ _ (0, 0) hh⟩
end Go.Proofs.YthkgjdhbibialaaDoor
