/- Rows of structs in memory, of whatever width. -/
import Derived.Test.YtggplgmjonnliaaGreatDoorApp
namespace Go.Proofs.YtggplgmjonnliaaGreatDoor
open Go.RowKit

/-- How a struct lies: k cells. -/
structure Cs (α : Type) where
  k : Nat
  cs : α → List Value
  len : ∀ x, (cs x).length = k
  one : ∀ x, ∀ u ∈ cs x, u.oneCell' = true
section
variable {α : Type} (κ : Cs α)
theorem Cs.flat_len (l : List α) : (l.flatMap κ.cs).length = l.length * κ.k := by
  induction l with
  | nil => simp
  | cons y l ih => rw [List.flatMap_cons, List.length_append, List.length_cons, ih, κ.len, Nat.succ_mul, Nat.add_comm]
theorem Cs.flat_at : ∀ (l : List α) (j i : Nat) (hj : j < l.length), i < κ.k → (l.flatMap κ.cs)[j * κ.k + i]? = (κ.cs l[j])[i]?
  | y :: l, 0, i, _, hi => by
    rw [List.flatMap_cons, List.getElem?_append_left (by rw [κ.len]; omega)]
    simp
  | y :: l, j + 1, i, hj, hi => by
    rw [List.flatMap_cons, List.getElem?_append_right (by rw [κ.len, Nat.succ_mul]; omega)]
    have := Cs.flat_at l j i (by simpa using hj) hi
    rw [show (j + 1) * κ.k + i - (κ.cs y).length = j * κ.k + i from by rw [κ.len, Nat.succ_mul]; omega, this]
    simp
theorem Cs.flat_one (l : List α) : ∀ u ∈ l.flatMap κ.cs, u.oneCell' = true := by
  intro u hu
  obtain ⟨v, _, hv⟩ := List.mem_flatMap.1 hu
  exact κ.one v u hv
/-- A slice of them. -/
def KRow (w : World) (B : Nat) (A : Option Addr) (n : Nat) (l : List α) : Prop := RowS w B κ.k A n (l.flatMap κ.cs)
/-- One of one's own. -/
def OwnK (w : World) (base : Nat) (e : TypeId) (A : Option Addr) (n c : Nat) (l : List α) : Prop := 0 < κ.k ∧ w.ownsRow base e κ.k (.slice A n c) n (l.flatMap κ.cs)
end
section
variable {α : Type} {κ : Cs α} {w w' : World} {B B' n : Nat} {A : Option Addr} {l : List α}
theorem KRow.len (h : KRow κ w B A n l) (hk : 0 < κ.k) : l.length = n := by
  have := h.1
  rw [Cs.flat_len] at this
  exact Nat.eq_of_mul_eq_mul_right hk this
theorem KRow.nil (w : World) (B : Nat) (A : Option Addr) : KRow κ w B A 0 [] := RowS.nil w B κ.k A
theorem KRow.below (h : KRow κ w B A n l) {b0 : Nat} (hb : Below b0 w w') (hB : B ≤ b0) : KRow κ w' B A n l := RowS.below h hb hB
theorem KRow.mono (h : KRow κ w B A n l) (hB : B ≤ B') : KRow κ w B' A n l := RowS.mono h hB
theorem KRow.at_ [Inhabited α] (h : KRow κ w B A n l) (hkp : 0 < κ.k) {j : Nat} (hj : j < n) :
    ∃ b off, A = some ⟨b, off, none⟩ ∧ b < B ∧ ∀ (i : Nat) (v : Value), (κ.cs l[j]!)[i]? = some v → w.cell? ⟨b, off + j * κ.k + i, none⟩ = some v := by
  have hl := h.len hkp
  have hjl : j < l.length := by omega
  obtain ⟨b, off, rfl, hb, hc⟩ := h.2 (by omega)
  rw [show l[j]! = l[j] from getElem!_pos l j hjl]
  refine ⟨b, off, rfl, hb, fun i v hv => ?_⟩
  have hi : i < κ.k := by
    have := List.getElem?_eq_some_iff.1 hv
    obtain ⟨h1, _⟩ := this
    rwa [κ.len] at h1
  have := hc (j * κ.k + i) v (by rw [Cs.flat_at κ l j i hjl hi]; exact hv)
  rwa [← Nat.add_assoc] at this
/-- The same for a place known. -/
theorem KRow.of [Inhabited α] {b off : Nat} (h : KRow κ w B (some ⟨b, off, none⟩) n l) (hkp : 0 < κ.k) {j : Nat} (hj : j < n) :
    ∀ (i : Nat) (v : Value), (κ.cs l[j]!)[i]? = some v → w.cell? ⟨b, off + j * κ.k + i, none⟩ = some v := by
  obtain ⟨b', off', he, _, h1⟩ := h.at_ hkp hj
  injection he with he
  injection he with e1 e2
  subst e1; subst e2
  exact h1
/-- One that was just laid. -/
theorem KRow.lit (w : World) (t : TypeId) (l : List α) (cs : Array Value) (hc : cs.toList = l.flatMap κ.cs) : KRow κ (w.alloc (.cells cs t)) (w.heap.size + 1) (some ⟨w.heap.size, 0, none⟩) l.length l := by
  refine ⟨Cs.flat_len κ l, fun _ => ⟨w.heap.size, 0, rfl, by omega, fun k v hk => ?_⟩⟩
  have := cell_of_row (w.alloc (.cells cs t)) w.heap.size k cs t (0, 0) (heap_alloc_new w _)
  rw [Nat.zero_add]
  rw [← hc] at hk
  exact this.trans (by simpa using hk)
end
section
variable {α : Type} {κ : Cs α} {w w' : World} {base n c : Nat} {e : TypeId} {A : Option Addr} {l : List α}
theorem OwnK.row (h : OwnK κ w base e A n c l) : KRow κ w w.heap.size A n l := RowS.own h.2
theorem OwnK.len (h : OwnK κ w base e A n c l) : l.length = n := h.row.len h.1
theorem OwnK.below (h : OwnK κ w base e A n c l) {B : Nat} (hb : Below B w w') (hB : w.heap.size ≤ B) : OwnK κ w' base e A n c l := ⟨h.1, own_below h.2 hb hB⟩
theorem OwnK.lower {base' : Nat} (h : OwnK κ w base e A n c l) (hb : base' ≤ base) : OwnK κ w base' e A n c l := ⟨h.1, own_base h.2 hb⟩
theorem OwnK.nn (h : OwnK κ w base e A n c l) : A = none → n = 0 ∧ c = 0 := by
  obtain ⟨A', c', he, hA⟩ := own_form h.2
  injection he with h1 h2 h3
  subst h1; subst h3
  exact hA
theorem OwnK.most (h : OwnK κ w base e A n c l) : c ≤ maxLen := by
  rcases h.2.2 with ⟨hv, h0⟩ | ⟨g, cap, cur, hv, _, _, _, hc, _⟩
  · injection hv with _ _ h3; subst h3; simp [maxLen]
  · injection hv with _ _ h3; omega
/-- One's own rows of unlike types do not lie in one block. -/
theorem OwnK.apart {β : Type} {κ' : Cs β} {base' n' c' : Nat} {e' : TypeId} {A' : Option Addr} {l' : List β} (h : OwnK κ w base e A n c l) (h' : OwnK κ' w base' e' A' n' c' l') (hne : e ≠ e') {a a' : Addr} (ha : A = some a) (ha' : A' = some a') : a.block ≠ a'.block := by
  intro hbl
  rcases h.2.2 with ⟨hv, h0⟩ | ⟨g, cap, cur, hv, _, hh, _⟩
  · injection hv with h1; subst h1; cases ha
  rcases h'.2.2 with ⟨hv', h0'⟩ | ⟨g', cap', cur', hv', _, hh', _⟩
  · injection hv' with h1; subst h1; cases ha'
  injection hv with h1
  injection hv' with h2
  subst h1; subst h2
  obtain rfl := Option.some.inj ha
  obtain rfl := Option.some.inj ha'
  have hbl : g = g' := hbl
  subst hbl
  rw [hh] at hh'
  injection hh' with hh'
  injection hh' with _ ht
  exact hne ht
end
end Go.Proofs.YtggplgmjonnliaaGreatDoor
