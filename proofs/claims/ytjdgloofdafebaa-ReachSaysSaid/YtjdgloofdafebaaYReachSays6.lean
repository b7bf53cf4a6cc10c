/- From the reading of an argument that is a slice to what a walk is told of it. ReachSays: Order's and Longest's contracts in one form; marks that say the same. -/
import Derived.Test.YtjdgloofdafebaaBase
import Derived.Deep.Slices
import Derived.ChangeArms
import Derived.OpenShut
import Derived.ShutString
import Derived.ChangeOld
import Derived.Test.YtjdgloofdafebaaQxY
import Derived.Test.YtjdgloofdafebaaQzY
namespace Go.Proofs.Ytjdgloofdafebaa
open Go.ChangeShapes Go.WideShapes Go.RowKit

/-- A slice that came in, its elements sz cells wide. -/
structure InRow (w : World) (sz : Nat) (A : Option Addr) (n c : Nat) (l : List Value) : Prop where
  row : RowS w w.heap.size sz A n l
  nn : A = none → n = 0 ∧ c = 0
  cap : n ≤ c
  most : c ≤ maxLen

theorem open_row1 {α : Type} [Inhabited α] {H : Type} {enc : TypeId × Value → H} {P : Program} {W : World} {t e : TypeId} {a : Option Addr} {len cap : Nat} {d : DataW H} {ps : List MemPlace}
    (f : α → Value) (ok : α → Prop) (ht : P.underlying t = some (.slice e)) (hc : P.cellsOf e = 1)
    (hel : ∀ n V x, DataW.trod enc P W 0 (fun _ => true) true n e [V] = some x → ∃ y, V = f y ∧ ok y)
    (h : DataW.Trod enc P W 0 (fun _ => true) true t (.slice a len cap) d ps) : ∃ l : List α, InRow W 1 a len cap (l.map f) ∧ ∀ y ∈ l, ok y := by
  obtain ⟨fuel, hf⟩ := h
  rcases Deep.open_slice1 ht hc hf with ⟨hcs, _⟩ | ⟨x, l, c, m, n, V, D, Pl, hcs, _, hl, hm, hmm, _, hx⟩
  · simp [Value.cells] at hcs
    obtain ⟨rfl, rfl, rfl⟩ := hcs
    exact ⟨[], ⟨RowS.nil _ _ _ _, fun _ => ⟨rfl, rfl⟩, Nat.le_refl _, by simp [maxLen]⟩, fun y h => by cases h⟩
  · simp [Value.cells] at hcs
    obtain ⟨rfl, rfl, rfl⟩ := hcs
    simp only [if_true] at hmm
    subst hmm
    obtain ⟨Y, hY⟩ := Deep.choose_lt (α := α) (p := fun i y => V i = f y ∧ ok y) (fun i hi => hel _ _ _ (hx i hi).2)
    refine ⟨(List.range len).map Y, ⟨⟨by simp, fun h0 => ?_⟩, (fun h => by cases h), hl, hm⟩, fun y hy => ?_⟩
    · have h1 := (hx 0 (by omega)).1
      obtain ⟨b, off, spot⟩ := x
      obtain rfl : spot = none := by simpa [Addr.add] using World.cell?_spot h1
      have hlt : b < W.heap.size := by simpa [Addr.add] using cell_lt h1
      refine ⟨b, off, rfl, hlt, fun k v hv => ?_⟩
      have hk : k < len := by simpa using (List.getElem?_eq_some_iff.1 hv).1
      rw [← addr_add b off k, (hx k (by omega)).1, (hY k (by omega)).1]
      simpa [hk] using hv
    · obtain ⟨i, hi, rfl⟩ := List.mem_map.1 hy
      exact (hY i (by have := List.mem_range.1 hi; omega)).2

section
variable {H : Type} {enc : TypeId × Value → H} {P : Program} {W : World} {t e : TypeId} {a : Option Addr} {len cap : Nat} {d : DataW H} {ps : List MemPlace}
theorem open_ints64 (ht : P.underlying t = some (.slice e)) (he : P.underlying e = some (.int .i64)) (hc : P.cellsOf e = 1) (h : DataW.Trod enc P W 0 (fun _ => true) true t (.slice a len cap) d ps) :
    ∃ l : List Int, InRow W 1 a len cap (l.map (Value.int .i64)) ∧ ∀ y ∈ l, -9223372036854775808 ≤ y ∧ y ≤ 9223372036854775807 :=
  open_row1 (Value.int .i64) _ ht hc (fun n V x hx => by
    obtain ⟨y, h1, _, h2⟩ := DataW.trod_int he hx
    have := bounds_i64 h2
    exact ⟨y, by simpa using h1, by omega⟩) h
theorem open_strs (ht : P.underlying t = some (.slice e)) (he : P.underlying e = some .string) (hc : P.cellsOf e = 1) (h : DataW.Trod enc P W 0 (fun _ => true) true t (.slice a len cap) d ps) :
    ∃ l : List ByteArray, InRow W 1 a len cap (l.map Value.string) ∧ ∀ y ∈ l, y.size ≤ maxLen :=
  open_row1 Value.string _ ht hc (fun n V x hx => by
    obtain ⟨y, h1, _, h2⟩ := DataW.trod_string he hx
    exact ⟨y, by simpa using h1, h2⟩) h
theorem open_boolrow (ht : P.underlying t = some (.slice e)) (he : P.underlying e = some .bool) (hc : P.cellsOf e = 1) (h : DataW.Trod enc P W 0 (fun _ => true) true t (.slice a len cap) d ps) :
    ∃ l : List Bool, InRow W 1 a len cap (l.map Value.bool) := by
  obtain ⟨l, h, _⟩ := open_row1 Value.bool (fun _ => True) ht hc (fun n V x hx => by
    obtain ⟨y, h1, _⟩ := DataW.trod_bool he hx
    exact ⟨y, by simpa using h1, trivial⟩) h
  exact ⟨l, h⟩
end
end Go.Proofs.Ytjdgloofdafebaa
namespace Go.Proofs.Ytjdgloofdafebaa
open Go.RowKit

namespace Pr
def ordL (n : Nat) (L : Nat → List Nat) : List Int := if (Rc.ord n L).length = n then (Rc.ord n L).map Int.ofNat else []
def ordB (n : Nat) (L : Nat → List Nat) : Bool := decide ((Rc.ord n L).length = n)
def lgV (n : Nat) (L : Nat → List Nat) : Nat := if (Rc.ord n L).length = n then Rc.lg L (Rc.ord n L) else 0
theorem OrdOut.one {n : Nat} {L : Nat → List Nat} {w w' : World} {e : Ending} (h : OrdOut n L w e w') : ∃ (X : Option Addr) (cc : Nat), e = .returned (.tuple #[.slice X (ordL n L).length cc, .bool (ordB n L)]) ∧ KRow iκ w' w'.heap.size X (ordL n L).length (ordL n L) ∧ Below w.heap.size w w' := by
  obtain ⟨h1 | h1, hb⟩ := h
  · obtain ⟨hl, X, cc, he, ho⟩ := h1
    have e1 : ordL n L = (Rc.ord n L).map Int.ofNat := if_pos hl
    have e2 : ordB n L = true := decide_eq_true hl
    refine ⟨X, cc, ?_, ?_, hb⟩
    · rw [he, e1, e2, List.length_map, hl]
    · rw [e1, List.length_map, hl]; exact ho.row
  · obtain ⟨hl, he⟩ := h1
    have e1 : ordL n L = [] := if_neg (by omega)
    have e2 : ordB n L = false := decide_eq_false (by omega)
    refine ⟨none, 0, ?_, ?_, hb⟩
    · rw [he, e1, e2]; rfl
    · rw [e1]; exact ⟨rfl, fun h0 => absurd h0 (by decide)⟩
theorem LongOut.one {n : Nat} {L : Nat → List Nat} {w w' : World} {e : Ending} (h : LongOut n L w e w') : e = .returned (.tuple #[.int .i64 (lgV n L : Int), .bool (ordB n L)]) ∧ Below w.heap.size w w' := by
  obtain ⟨h1 | h1, hb⟩ := h
  · obtain ⟨hl, he⟩ := h1
    have e1 : lgV n L = Rc.lg L (Rc.ord n L) := if_pos hl
    have e2 : ordB n L = true := decide_eq_true hl
    exact ⟨by rw [he, e1, e2], hb⟩
  · obtain ⟨hl, he⟩ := h1
    have e1 : lgV n L = 0 := if_neg (by omega)
    have e2 : ordB n L = false := decide_eq_false (by omega)
    exact ⟨by rw [he, e1, e2]; rfl, hb⟩
theorem ordL_len (n : Nat) (L : Nat → List Nat) : (ordL n L).length ≤ n := by
  unfold ordL
  split
  · rw [List.length_map]; omega
  · exact Nat.zero_le _
theorem same_marks {n : Nat} {Q : Nat → Prop} {f f' : Nat → Bool} (h : ∀ v, v < n → (f v = true ↔ Q v)) (h' : ∀ v, v < n → (f' v = true ↔ Q v)) : ∀ v, v < n → f v = f' v := fun v hv => by
  rw [Bool.eq_iff_iff, h v hv, h' v hv]
end Pr
end Go.Proofs.Ytjdgloofdafebaa
