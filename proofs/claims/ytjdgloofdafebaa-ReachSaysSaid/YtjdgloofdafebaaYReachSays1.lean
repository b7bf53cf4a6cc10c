/- A block's cells, which may be written. Rows of structs in memory, of whatever width. Rows of literals in memory; blocks one behind the other. -/
import Derived.Test.YtjdgloofdafebaaApp
import Derived.KernelRfl
namespace Go.Proofs.Ytjdgloofdafebaa
open Go.RowKit

theorem grown_trans {a w w' : World} {row : Option Nat} (h : a.grownBy w row) (k : w.grownBy w' row) : a.grownBy w' row :=
  ⟨k.os.trans h.os, k.tape.trans h.tape, k.output.trans h.output, Nat.le_trans h.size k.size, fun b hb hne => (k.block b (Nat.lt_of_lt_of_le hb h.size) hne).trans (h.block b hb hne)⟩
theorem grown_of {B : Nat} {a w w' : World} {row : Option Nat} (h : a.grownBy w row) (k : Below B w w') (hB : w.heap.size ≤ B) : a.grownBy w' row :=
  grown_trans h ⟨k.os, k.tape, k.output, k.size, fun b hb _ => k.block b (Nat.lt_of_lt_of_le hb hB)⟩

theorem below_cells {w w' : World} {b o : Nat} {v : Value} (hb : Below w.heap.size w w') (h : w.cell? ⟨b, o, none⟩ = some v) : w'.cell? ⟨b, o, none⟩ = some v :=
  (hb.cell (p := ⟨b, o, none⟩) (cell_lt h)).trans h
theorem below_drewN {B : Nat} {w w' : World} (hb : Below B w w') (n : Nat) : Below B w (w'.drewN n) := ⟨hb.os, hb.tape, hb.output, hb.size, hb.block⟩
theorem blk_lt {w : World} {b : Nat} {o : Obj} (h : w.heap[b]? = some o) : b < w.heap.size := by
  rcases Nat.lt_or_ge b w.heap.size with h' | h'
  · exact h'
  · rw [Array.getElem?_eq_none h'] at h; cases h
theorem grown_none {B : Nat} {w w' : World} (hb : Below B w w') (hB : w.heap.size ≤ B) : w.grownBy w' none :=
  ⟨hb.os, hb.tape, hb.output, hb.size, fun k hk _ => hb.block k (Nat.lt_of_lt_of_le hk hB)⟩
theorem set_grown {w w' : World} {q : Nat} (hg : w.grownBy w' (some q)) (i : Nat) (v : Value) : w.grownBy (w'.setCell ⟨q, i, none⟩ v) (some q) := grown_trans hg (grown_setCell _ ⟨q, i, none⟩ _)
/-- A block's cells, which may be written. -/
structure Cel (w : World) (q : Nat) (cs : List Value) : Prop where
  cell : ∀ (i : Nat) v, cs[i]? = some v → w.cell? ⟨q, i, none⟩ = some v
  froz : ∀ i : Nat, i < cs.length → w.frozen? ⟨q, i, none⟩ = false
  lt : q < w.heap.size
section
variable {w w' : World} {q : Nat} {cs : List Value} {row : Option Nat}
theorem Cel.set (h : Cel w q cs) {i : Nat} (hi : i < cs.length) (v : Value) : Cel (w.setCell ⟨q, i, none⟩ v) q (cs.set i v) := by
  refine ⟨fun j u hj => ?_, fun j hj => by simpa using h.froz j (by simpa using hj), by simpa using h.lt⟩
  by_cases e : i = j
  · subst e
    rw [List.getElem?_set_self hi] at hj
    obtain rfl := Option.some.inj hj
    exact World.cell?_setCell_same _ _ _ (h.cell i _ (List.getElem?_eq_getElem hi))
  · rw [List.getElem?_set_ne e] at hj
    exact (World.cell?_setCell_other _ _ _ _ (by intro h; cases h; exact e rfl)).trans (h.cell j u hj)
theorem Cel.kept (h : Cel w q cs) (hg : w.grownBy w' row) (hne : row ≠ some q) : Cel w' q cs := by
  have hb := hg.block q h.lt (fun e => hne e.symm)
  exact ⟨fun i v hi => (World.cell?_of_block (a := ⟨q, i, none⟩) hb).trans (h.cell i v hi), fun i hi => (World.frozen?_of_block (a := ⟨q, i, none⟩) hb).trans (h.froz i hi), Nat.lt_of_lt_of_le h.lt hg.size⟩
theorem Cel.below (h : Cel w q cs) {B : Nat} (hb : Below B w w') (hB : w.heap.size ≤ B) : Cel w' q cs :=
  h.kept (row := none) ⟨hb.os, hb.tape, hb.output, hb.size, fun k hk _ => hb.block k (Nat.lt_of_lt_of_le hk hB)⟩ (by simp)
theorem Cel.alloc (h : Cel w q cs) (o : Obj) : Cel (w.alloc o) q cs := h.kept (grown_alloc w o none) (by simp)
theorem Cel.drewN (h : Cel w q cs) (n : Nat) : Cel (w.drewN n) q cs := h.below (below_drewN (Below.refl w.heap.size w) n) (Nat.le_refl _)
end

theorem Cel.lit (w : World) (cs : Array Value) (t : TypeId) : Cel (w.alloc (.cells cs t)) w.heap.size cs.toList := by
  have hh := heap_alloc_new w (.cells cs t)
  refine ⟨fun i v hi => ?_, fun i hi => ?_, by simp⟩
  · have := cell_of_row (w.alloc (.cells cs t)) w.heap.size i cs t (0, 0) hh
    rw [this]; simpa using hi
  · simp
theorem grown_past {w w1 w2 : World} {row : Option Nat} {z : Nat} (h : w.grownBy w1 row) (k : w1.grownBy w2 (some z)) (hz : w.heap.size ≤ z) : w.grownBy w2 row :=
  ⟨k.os.trans h.os, k.tape.trans h.tape, k.output.trans h.output, Nat.le_trans h.size k.size, fun b hb hne => (k.block b (Nat.lt_of_lt_of_le hb h.size) (fun e => by have := Option.some.inj e; omega)).trans (h.block b hb hne)⟩
end Go.Proofs.Ytjdgloofdafebaa
namespace Go.Proofs.Ytjdgloofdafebaa
open Go.RowKit

/-- How a struct lies: k cells. -/
structure Cs (α : Type) where
  k : Nat
  cs : α → List Value
  len : ∀ x, (cs x).length = k
  one : ∀ x, ∀ u ∈ cs x, u.oneCell' = true
section
variable {α : Type} (κ : Cs α)
theorem Cs.flat_len (l : List α) : (l.flatMap κ.cs).length = l.length * κ.k := by
  induction l with
  | nil => simp
  | cons y l ih => rw [List.flatMap_cons, List.length_append, List.length_cons, ih, κ.len, Nat.succ_mul, Nat.add_comm]
theorem Cs.flat_at : ∀ (l : List α) (j i : Nat) (hj : j < l.length), i < κ.k → (l.flatMap κ.cs)[j * κ.k + i]? = (κ.cs l[j])[i]?
  | y :: l, 0, i, _, hi => by
    rw [List.flatMap_cons, List.getElem?_append_left (by rw [κ.len]; omega)]
    simp
  | y :: l, j + 1, i, hj, hi => by
    rw [List.flatMap_cons, List.getElem?_append_right (by rw [κ.len, Nat.succ_mul]; omega)]
    have := Cs.flat_at l j i (by simpa using hj) hi
    rw [show (j + 1) * κ.k + i - (κ.cs y).length = j * κ.k + i from by rw [κ.len, Nat.succ_mul]; omega, this]
    simp
theorem Cs.flat_one (l : List α) : ∀ u ∈ l.flatMap κ.cs, u.oneCell' = true := by
  intro u hu
  obtain ⟨v, _, hv⟩ := List.mem_flatMap.1 hu
  exact κ.one v u hv
/-- A slice of them. -/
def KRow (w : World) (B : Nat) (A : Option Addr) (n : Nat) (l : List α) : Prop := RowS w B κ.k A n (l.flatMap κ.cs)
/-- One of one's own. -/
def OwnK (w : World) (base : Nat) (e : TypeId) (A : Option Addr) (n c : Nat) (l : List α) : Prop := 0 < κ.k ∧ w.ownsRow base e κ.k (.slice A n c) n (l.flatMap κ.cs)
end
section
variable {α : Type} {κ : Cs α} {w w' : World} {B B' n : Nat} {A : Option Addr} {l : List α}
theorem KRow.len (h : KRow κ w B A n l) (hk : 0 < κ.k) : l.length = n := by
  have := h.1
  rw [Cs.flat_len] at this
  exact Nat.eq_of_mul_eq_mul_right hk this
theorem KRow.nil (w : World) (B : Nat) (A : Option Addr) : KRow κ w B A 0 [] := RowS.nil w B κ.k A
theorem KRow.below (h : KRow κ w B A n l) {b0 : Nat} (hb : Below b0 w w') (hB : B ≤ b0) : KRow κ w' B A n l := RowS.below h hb hB
theorem KRow.mono (h : KRow κ w B A n l) (hB : B ≤ B') : KRow κ w B' A n l := RowS.mono h hB
theorem KRow.at_ [Inhabited α] (h : KRow κ w B A n l) (hkp : 0 < κ.k) {j : Nat} (hj : j < n) :
    ∃ b off, A = some ⟨b, off, none⟩ ∧ b < B ∧ ∀ (i : Nat) (v : Value), (κ.cs l[j]!)[i]? = some v → w.cell? ⟨b, off + j * κ.k + i, none⟩ = some v := by
  have hl := h.len hkp
  have hjl : j < l.length := by omega
  obtain ⟨b, off, rfl, hb, hc⟩ := h.2 (by omega)
  rw [show l[j]! = l[j] from getElem!_pos l j hjl]
  refine ⟨b, off, rfl, hb, fun i v hv => ?_⟩
  have hi : i < κ.k := by
    have := List.getElem?_eq_some_iff.1 hv
    obtain ⟨h1, _⟩ := this
    rwa [κ.len] at h1
  have := hc (j * κ.k + i) v (by rw [Cs.flat_at κ l j i hjl hi]; exact hv)
  rwa [← Nat.add_assoc] at this
/-- The same for a place known. -/
theorem KRow.of [Inhabited α] {b off : Nat} (h : KRow κ w B (some ⟨b, off, none⟩) n l) (hkp : 0 < κ.k) {j : Nat} (hj : j < n) :
    ∀ (i : Nat) (v : Value), (κ.cs l[j]!)[i]? = some v → w.cell? ⟨b, off + j * κ.k + i, none⟩ = some v := by
  obtain ⟨b', off', he, _, h1⟩ := h.at_ hkp hj
  injection he with he
  injection he with e1 e2
  subst e1; subst e2
  exact h1
/-- One that was just laid. -/
theorem KRow.lit (w : World) (t : TypeId) (l : List α) (cs : Array Value) (hc : cs.toList = l.flatMap κ.cs) : KRow κ (w.alloc (.cells cs t)) (w.heap.size + 1) (some ⟨w.heap.size, 0, none⟩) l.length l := by
  refine ⟨Cs.flat_len κ l, fun _ => ⟨w.heap.size, 0, rfl, by omega, fun k v hk => ?_⟩⟩
  have := cell_of_row (w.alloc (.cells cs t)) w.heap.size k cs t (0, 0) (heap_alloc_new w _)
  rw [Nat.zero_add]
  rw [← hc] at hk
  exact this.trans (by simpa using hk)
end
section
variable {α : Type} {κ : Cs α} {w w' : World} {base n c : Nat} {e : TypeId} {A : Option Addr} {l : List α}
theorem OwnK.row (h : OwnK κ w base e A n c l) : KRow κ w w.heap.size A n l := RowS.own h.2
theorem OwnK.len (h : OwnK κ w base e A n c l) : l.length = n := h.row.len h.1
theorem OwnK.below (h : OwnK κ w base e A n c l) {B : Nat} (hb : Below B w w') (hB : w.heap.size ≤ B) : OwnK κ w' base e A n c l := ⟨h.1, own_below h.2 hb hB⟩
theorem OwnK.lower {base' : Nat} (h : OwnK κ w base e A n c l) (hb : base' ≤ base) : OwnK κ w base' e A n c l := ⟨h.1, own_base h.2 hb⟩
theorem OwnK.nn (h : OwnK κ w base e A n c l) : A = none → n = 0 ∧ c = 0 := by
  obtain ⟨A', c', he, hA⟩ := own_form h.2
  injection he with h1 h2 h3
  subst h1; subst h3
  exact hA
theorem OwnK.most (h : OwnK κ w base e A n c l) : c ≤ maxLen := by
  rcases h.2.2 with ⟨hv, h0⟩ | ⟨g, cap, cur, hv, _, _, _, hc, _⟩
  · injection hv with _ _ h3; subst h3; simp [maxLen]
  · injection hv with _ _ h3; omega
/-- One's own rows of unlike types do not lie in one block. -/
theorem OwnK.apart {β : Type} {κ' : Cs β} {base' n' c' : Nat} {e' : TypeId} {A' : Option Addr} {l' : List β} (h : OwnK κ w base e A n c l) (h' : OwnK κ' w base' e' A' n' c' l') (hne : e ≠ e') {a a' : Addr} (ha : A = some a) (ha' : A' = some a') : a.block ≠ a'.block := by
  intro hbl
  rcases h.2.2 with ⟨hv, h0⟩ | ⟨g, cap, cur, hv, _, hh, _⟩
  · injection hv with h1; subst h1; cases ha
  rcases h'.2.2 with ⟨hv', h0'⟩ | ⟨g', cap', cur', hv', _, hh', _⟩
  · injection hv' with h1; subst h1; cases ha'
  injection hv with h1
  injection hv' with h2
  subst h1; subst h2
  obtain rfl := Option.some.inj ha
  obtain rfl := Option.some.inj ha'
  have hbl : g = g' := hbl
  subst hbl
  rw [hh] at hh'
  injection hh' with hh'
  injection hh' with _ ht
  exact hne ht
end
end Go.Proofs.Ytjdgloofdafebaa
namespace Go.Proofs.Ytjdgloofdafebaa
open Go.RowKit

section
variable {w : World} {b : Nat} {T : TypeId}
theorem lit_at {cs : List Value} (h : w.heap[b]? = some (.cells cs.toArray T (0, 0))) {i : Nat} {v : Value} (hi : cs[i]? = some v) : w.cell? ⟨b, i, none⟩ = some v := by
  have := cell_of_row w b i cs.toArray T (0, 0) h
  rw [this]
  simpa using hi
theorem lit_bools {l : List Bool} (h : w.heap[b]? = some (.cells (l.map Value.bool).toArray T (0, 0))) {i : Nat} (hi : i < l.length) : w.cell? ⟨b, i, none⟩ = some (.bool l[i]!) :=
  lit_at h (by simp [hi])
theorem lit_texts {l : List (List UInt8)} (h : w.heap[b]? = some (.cells (l.map fun s => Value.string ⟨s.toArray⟩).toArray T (0, 0))) {i : Nat} (hi : i < l.length) : w.cell? ⟨b, i, none⟩ = some (.string ⟨(l[i]!).toArray⟩) :=
  lit_at h (by simp [hi])
theorem lit_ints {k : IntKind} {l : List Int} (h : w.heap[b]? = some (.cells (l.map (Value.int k)).toArray T (0, 0))) {i : Nat} (hi : i < l.length) : w.cell? ⟨b, i, none⟩ = some (.int k l[i]!) :=
  lit_at h (by simp [hi])
theorem cell_below {w w' : World} (hb : Below w.heap.size w w') {a : Addr} {v : Value} (h : w.cell? a = some v) : w'.cell? a = some v := (hb.cell (cell_lt h)).trans h
/-- Three new blocks, one behind the other. -/
theorem three_new (w : World) (o1 o2 o3 : Obj) : (((w.alloc o1).alloc o2).alloc o3).heap[w.heap.size]? = some o1 ∧ (((w.alloc o1).alloc o2).alloc o3).heap[w.heap.size + 1]? = some o2 ∧ (((w.alloc o1).alloc o2).alloc o3).heap[w.heap.size + 1 + 1]? = some o3 := by
  have h1 := heap_alloc_new w o1
  have h2 := heap_alloc_new (w.alloc o1) o2
  have h3 := heap_alloc_new ((w.alloc o1).alloc o2) o3
  have s1 : (w.alloc o1).heap.size = w.heap.size + 1 := by simp
  have s2 : ((w.alloc o1).alloc o2).heap.size = w.heap.size + 1 + 1 := by simp
  rw [s1] at h2
  rw [s2] at h3
  have b2 : Below (w.alloc o1).heap.size (w.alloc o1) ((w.alloc o1).alloc o2) := (Below.refl _ _).alloc (Nat.le_refl _) o2
  have b3 : Below ((w.alloc o1).alloc o2).heap.size ((w.alloc o1).alloc o2) (((w.alloc o1).alloc o2).alloc o3) := (Below.refl _ _).alloc (Nat.le_refl _) o3
  exact ⟨(b3.block _ (by omega)).trans ((b2.block _ (by omega)).trans h1), (b3.block _ (by omega)).trans h2, h3⟩
theorem two_new (w : World) (o1 o2 : Obj) : ((w.alloc o1).alloc o2).heap[w.heap.size]? = some o1 ∧ ((w.alloc o1).alloc o2).heap[w.heap.size + 1]? = some o2 := by
  have h1 := heap_alloc_new w o1
  have h2 := heap_alloc_new (w.alloc o1) o2
  have s1 : (w.alloc o1).heap.size = w.heap.size + 1 := by simp
  rw [s1] at h2
  have b2 : Below (w.alloc o1).heap.size (w.alloc o1) ((w.alloc o1).alloc o2) := (Below.refl _ _).alloc (Nat.le_refl _) o2
  exact ⟨(b2.block _ (by omega)).trans h1, h2⟩
theorem below3 (w : World) (o1 o2 o3 : Obj) : Below w.heap.size w (((w.alloc o1).alloc o2).alloc o3) := (((Below.refl _ _).alloc (Nat.le_refl _) _).alloc (by simp) _).alloc (by simp; omega) _
end
end Go.Proofs.Ytjdgloofdafebaa
