/- Walks of leaseholdmake: the number that is picked; a process that may be, out of few numbers. -/
import Derived.Test.YtlmlhjepolefaaaGy
import Derived.Test.YtlmlhjepolefaaaGc
namespace Go.Proofs.Ytlmlhjepolefaaa
open Go.RowKit

namespace Pr
theorem pieces_stop (rings : Bool) (ks ms : List Int) (i : Nat) (h : ¬ (pieces rings ks ms i).1.n < 22) : ∀ d, pieces rings ks ms (i + d) = pieces rings ks ms i
  | 0 => rfl
  | d + 1 => by
    have ih := pieces_stop rings ks ms i h d
    show (let r := pieces rings ks ms (i + d); if r.1.n < 22 then _ else r) = _
    simp only [ih]
    rw [if_neg h]
def iv (k : Int) : Value := .int .i64 k
section
variable {w : World}
theorem piece_work {rings : Bool} {kd m : Int} {p : P} {at_ : Nat} (h : nmb kd 7 ≤ 2 ∨ (nmb kd 7 = 6 ∧ rings = false)) : piece rings kd m p at_ = work p at_ m := by
  unfold piece
  simp only []
  rcases h with h | ⟨h, rfl⟩
  · rw [if_pos h]
  · rw [h]; rfl
theorem piece_parts {rings : Bool} {kd m : Int} {p : P} {at_ : Nat} (k : Int) (h : nmb kd 7 = k) (hk : k = 3 ∨ k = 4 ∨ k = 5) : piece rings kd m p at_ = parts p at_ m (k + 2) (k + 2) := by
  unfold piece
  simp only []
  rcases hk with rfl | rfl | rfl <;> rw [h] <;> rfl
theorem piece_loop {kd m : Int} {p : P} {at_ : Nat} (h : nmb kd 7 = 6) : piece true kd m p at_ = loop p at_ m := by
  unfold piece
  simp only []
  rw [h]; rfl
theorem four_new (w : World) (o1 o2 o3 o4 : Obj) : ((((w.alloc o1).alloc o2).alloc o3).alloc o4).heap[w.heap.size]? = some o1 ∧ ((((w.alloc o1).alloc o2).alloc o3).alloc o4).heap[w.heap.size + 1]? = some o2 ∧
    ((((w.alloc o1).alloc o2).alloc o3).alloc o4).heap[w.heap.size + 1 + 1]? = some o3 ∧ ((((w.alloc o1).alloc o2).alloc o3).alloc o4).heap[w.heap.size + 1 + 1 + 1]? = some o4 := by
  obtain ⟨h1, h2, h3⟩ := three_new w o1 o2 o3
  have s3 : (((w.alloc o1).alloc o2).alloc o3).heap.size = w.heap.size + 1 + 1 + 1 := by simp
  have h4 := heap_alloc_new (((w.alloc o1).alloc o2).alloc o3) o4
  rw [s3] at h4
  have b4 : Below (((w.alloc o1).alloc o2).alloc o3).heap.size (((w.alloc o1).alloc o2).alloc o3) ((((w.alloc o1).alloc o2).alloc o3).alloc o4) := (Below.refl _ _).alloc (Nat.le_refl _) o4
  exact ⟨(b4.block _ (by omega)).trans h1, (b4.block _ (by omega)).trans h2, (b4.block _ (by omega)).trans h3, h4⟩
theorem cel_of {w : World} {b : Nat} {cs : Array Value} {T : TypeId} (h : w.heap[b]? = some (.cells cs T (0, 0))) : Cel w b cs.toList := by
  refine ⟨fun i v hi => ?_, fun i _ => ?_, blk_lt h⟩
  · rw [cell_of_row w b i cs T (0, 0) h]; simpa using hi
  · unfold World.frozen?; rw [h]; rfl
theorem C.cell1 {w : World} {base q : Nat} {p : P} (h : C w base q p) : ∃ (A : Option Addr) (c : Nat), w.cell? ⟨q, 1, none⟩ = some (.slice A p.n c) := by
  obtain ⟨A, n, c, F, m, d, hc, hn, _⟩ := h.ex
  obtain rfl : p.n = n := hn.len
  exact ⟨A, c, hc.cell 1 _ rfl⟩
theorem Cel.low {w w' : World} {b B : Nat} {cs : List Value} (h : Cel w b cs) (hb : Below B w w') (hB : b < B) : Cel w' b cs :=
  ⟨fun i v hi => (hb.cell (p := ⟨b, i, none⟩) hB).trans (h.cell i v hi), fun i hi => (hb.frozen (p := ⟨b, i, none⟩) hB).trans (h.froz i hi), Nat.lt_of_lt_of_le h.lt hb.size⟩
/-- The row of the one node that stands first. -/
theorem own_lit {w : World} {g : Nat} (h : w.heap[g]? = some (.cells #[.int .i64 1, .string ⟨#[]⟩, .int .i64 0, .int .i64 0, .int .i64 (-1), .string ⟨#[]⟩, .string ⟨#[]⟩, .int .i64 (-1)] 75 (0, 0))) {base : Nat} (hb : base ≤ g) :
    OwnK Nd.κ w base 75 (some ⟨g, 0, none⟩) 1 1 [Nd.plain 1] :=
  ⟨by decide, rfl, .inr ⟨g, 1, _, rfl, hb, h, by decide, by unfold maxLen; decide, rfl, rfl⟩⟩
end
end Pr
end Go.Proofs.Ytlmlhjepolefaaa
