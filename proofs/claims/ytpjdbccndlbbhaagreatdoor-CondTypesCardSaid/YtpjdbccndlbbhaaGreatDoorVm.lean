/- Variables in memory: rows of four cells each. -/
import Derived.Test.YtpjdbccndlbbhaaGreatDoorVr
import Derived.Test.YtpjdbccndlbbhaaGreatDoorApp
namespace Go.Proofs.YtpjdbccndlbbhaaGreatDoor
open Go.RowKit

theorem flat4_len (l : List Vr.V) : (l.flatMap Vr.V.cells).length = l.length * 4 := by
  induction l with
  | nil => rfl
  | cons y l ih => simp only [List.flatMap_cons, List.length_append, List.length_cons, ih, Vr.V.cells_len]; omega
theorem flat4_at : ∀ (l : List Vr.V) (j i : Nat) (hj : j < l.length), i < 4 → (l.flatMap Vr.V.cells)[j * 4 + i]? = (l[j].cells)[i]?
  | y :: l, 0, i, _, hi => by
    rw [List.flatMap_cons, List.getElem?_append_left (by simp; omega)]
    simp
  | y :: l, j + 1, i, hj, hi => by
    rw [List.flatMap_cons, List.getElem?_append_right (by simp; omega)]
    have := flat4_at l j i (by simpa using hj) hi
    rw [show (j + 1) * 4 + i - y.cells.length = j * 4 + i from by simp; omega, this]
    simp
theorem flat4_one (l : List Vr.V) : ∀ u ∈ l.flatMap Vr.V.cells, u.oneCell' = true := by
  intro u hu
  obtain ⟨v, _, hv⟩ := List.mem_flatMap.1 hu
  simp only [Vr.V.cells, List.mem_cons, List.not_mem_nil, or_false] at hv
  rcases hv with rfl | rfl | rfl | rfl <;> rfl

/-- A slice of variables. -/
def VRow (w : World) (B : Nat) (A : Option Addr) (n : Nat) (l : List Vr.V) : Prop := RowS w B 4 A n (l.flatMap Vr.V.cells)
/-- One of one's own. -/
def OwnVars (w : World) (base : Nat) (e : TypeId) (A : Option Addr) (n c : Nat) (l : List Vr.V) : Prop := w.ownsRow base e 4 (.slice A n c) n (l.flatMap Vr.V.cells)
section
variable {w w' : World} {B B' n : Nat} {A : Option Addr} {l : List Vr.V}
theorem VRow.len (h : VRow w B A n l) : l.length = n := by
  have := h.1
  rw [flat4_len] at this
  omega
theorem VRow.nil (w : World) (B : Nat) (A : Option Addr) : VRow w B A 0 [] := RowS.nil w B 4 A
theorem VRow.below (h : VRow w B A n l) {b0 : Nat} (hb : Below b0 w w') (hB : B ≤ b0) : VRow w' B A n l := RowS.below h hb hB
theorem VRow.mono (h : VRow w B A n l) (hB : B ≤ B') : VRow w B' A n l := RowS.mono h hB
theorem VRow.drew (h : VRow w B A n l) : VRow w.drew B A n l := h
theorem VRow.at_ (h : VRow w B A n l) {k : Nat} (hk : k < n) :
    ∃ b off, A = some ⟨b, off, none⟩ ∧ b < B ∧ w.cell? ⟨b, off + k * 4, none⟩ = some (.string l[k]!.name) ∧ w.cell? ⟨b, off + k * 4 + 1, none⟩ = some (.int .i64 l[k]!.kind) ∧
      w.cell? ⟨b, off + k * 4 + 2, none⟩ = some (.int .i64 l[k]!.num) ∧ w.cell? ⟨b, off + k * 4 + 3, none⟩ = some (.string l[k]!.text) := by
  have hl := h.len
  have hkl : k < l.length := by omega
  obtain ⟨b, off, rfl, hb, hc⟩ := h.2 (by omega)
  rw [show l[k]! = l[k] from getElem!_pos l k hkl]
  exact ⟨b, off, rfl, hb, hc _ _ (flat4_at l k 0 hkl (by decide)), hc _ _ (flat4_at l k 1 hkl (by decide)), hc _ _ (flat4_at l k 2 hkl (by decide)), hc _ _ (flat4_at l k 3 hkl (by decide))⟩
/-- The same for a place known. -/
theorem VRow.of {b off : Nat} (h : VRow w B (some ⟨b, off, none⟩) n l) {k : Nat} (hk : k < n) :
    w.cell? ⟨b, off + k * 4, none⟩ = some (.string l[k]!.name) ∧ w.cell? ⟨b, off + k * 4 + 1, none⟩ = some (.int .i64 l[k]!.kind) ∧
      w.cell? ⟨b, off + k * 4 + 2, none⟩ = some (.int .i64 l[k]!.num) ∧ w.cell? ⟨b, off + k * 4 + 3, none⟩ = some (.string l[k]!.text) := by
  obtain ⟨b', off', he, _, h1, h2, h3, h4⟩ := h.at_ hk
  injection he with he
  injection he with e1 e2
  subst e1; subst e2
  exact ⟨h1, h2, h3, h4⟩
end
section
variable {w w' : World} {base n c : Nat} {e : TypeId} {A : Option Addr} {l : List Vr.V}
theorem OwnVars.row (h : OwnVars w base e A n c l) : VRow w w.heap.size A n l := RowS.own h
theorem OwnVars.len (h : OwnVars w base e A n c l) : l.length = n := h.row.len
theorem OwnVars.below (h : OwnVars w base e A n c l) {B : Nat} (hb : Below B w w') (hB : w.heap.size ≤ B) : OwnVars w' base e A n c l := own_below h hb hB
theorem OwnVars.lower {base' : Nat} (h : OwnVars w base e A n c l) (hb : base' ≤ base) : OwnVars w base' e A n c l := own_base h hb
theorem OwnVars.nn (h : OwnVars w base e A n c l) : A = none → n = 0 ∧ c = 0 := by
  obtain ⟨A', c', he, hA⟩ := own_form h
  injection he with h1 h2 h3
  subst h1; subst h3
  exact hA
theorem OwnVars.cap (h : OwnVars w base e A n c l) : n ≤ c := by
  rcases h.2 with ⟨hv, h0⟩ | ⟨g, cap, cur, hv, _, _, hc, _⟩
  · injection hv with _ _ h3; omega
  · injection hv with _ _ h3; omega
theorem OwnVars.most (h : OwnVars w base e A n c l) : c ≤ maxLen := by
  rcases h.2 with ⟨hv, h0⟩ | ⟨g, cap, cur, hv, _, _, _, hc, _⟩
  · injection hv with _ _ h3; subst h3; simp [maxLen]
  · injection hv with _ _ h3; omega
end
/-- A variable as a value. -/
def Vr.V.val (v : Vr.V) : Value := .agg #[.string v.name, .int .i64 v.kind, .int .i64 v.num, .string v.text]
/-- Its value alone. -/
def Vr.V.inner (v : Vr.V) : Value := .agg #[.int .i64 v.kind, .int .i64 v.num, .string v.text]
end Go.Proofs.YtpjdbccndlbbhaaGreatDoor
