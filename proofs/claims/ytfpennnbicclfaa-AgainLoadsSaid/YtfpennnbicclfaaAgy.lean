/- Package again: the document's book: mathematics of Keep; a row of pages that is written. -/
import Derived.Test.YtfpennnbicclfaaAgx
import Derived.Test.YtfpennnbicclfaaApk
namespace Go.Proofs.Ytfpennnbicclfaa
open Go.RowKit

namespace Ag
section
variable {α : Type} (k : α → ByteArray)
theorem ins_old {X : α} : ∀ {l : List α} {t : Nat}, Asc k l → (ht : t < l.length) → k l[t] = k X → ins k X l = l.set t X
  | y :: r, 0, _, _, he => by
    have he : k y = k X := he
    unfold ins
    rw [← he, if_neg (by rw [ltb_irrefl]; decide), if_pos rfl]
    rfl
  | y :: r, t + 1, h, ht, he => by
    obtain ⟨h1, h2⟩ := List.pairwise_cons.1 h
    have ht' : t < r.length := by simpa using ht
    have he' : k r[t] = k X := he
    have hlt : ltb (k y) (k X) = true := he' ▸ h1 _ (List.getElem_mem ht')
    unfold ins
    rw [if_neg (fun e => by have := ltb_trans hlt e; rw [ltb_irrefl] at this; cases this), if_neg (fun e => ltb_ne hlt e.symm), ins_old h2 ht' he']
    rfl
theorem ins_new {X : α} : ∀ {l : List α} {t : Nat}, Asc k l → t ≤ l.length → (∀ y ∈ l.take t, ltb (k y) (k X) = true) → (∀ (h : t < l.length), ltb (k l[t]) (k X) = false) → (∀ y ∈ l, k y ≠ k X) → ins k X l = l.take t ++ X :: l.drop t
  | [], t, _, ht, _, _, _ => by
    obtain rfl : t = 0 := by simpa using ht
    rfl
  | y :: r, 0, _, _, _, h2, h3 => by
    have h4 : ltb (k y) (k X) = false := h2 (by simp)
    unfold ins
    rw [if_pos ((ltb_total (h3 y List.mem_cons_self)).resolve_left (by rw [h4]; decide))]
    rfl
  | y :: r, t + 1, h, ht, h1, h2, h3 => by
    obtain ⟨_, hr⟩ := List.pairwise_cons.1 h
    have hlt : ltb (k y) (k X) = true := h1 y (by simp)
    unfold ins
    rw [if_neg (fun e => by have := ltb_trans hlt e; rw [ltb_irrefl] at this; cases this), if_neg (fun e => ltb_ne hlt e.symm), ins_new hr (by simpa using ht) (fun z hz => h1 z (by rw [List.take_succ_cons]; exact List.mem_cons_of_mem _ hz)) (fun h4 => h2 (by simpa using h4)) (fun z hz => h3 z (List.mem_cons_of_mem _ hz))]
    rfl
end
theorem flat_set1 {α : Type} (κ : Cs α) (f : α → α) (i : Nat) (u : Value) (hi : i < κ.k) (hf : ∀ x, κ.cs (f x) = (κ.cs x).set i u) : ∀ (l : List α) (j : Nat), j < l.length → (l.flatMap κ.cs).set (j * κ.k + i) u = (l.modify j f).flatMap κ.cs
  | [], _, h => by cases h
  | y :: l, 0, _ => by
    rw [List.modify_zero_cons, List.flatMap_cons, List.flatMap_cons, List.set_append, if_pos (by rw [κ.len]; omega), hf]
    simp
  | y :: l, j + 1, h => by
    rw [List.modify_succ_cons, List.flatMap_cons, List.flatMap_cons, List.set_append, if_neg (by rw [κ.len, Nat.succ_mul]; omega)]
    rw [show (j + 1) * κ.k + i - (κ.cs y).length = j * κ.k + i from by rw [κ.len, Nat.succ_mul]; omega, flat_set1 κ f i u hi hf l j (by simpa using h)]
theorem own_set1 {α : Type} {κ : Cs α} {w : World} {base n c g : Nat} {e : TypeId} {l : List α} (h : OwnK κ w base e (some ⟨g, 0, none⟩) n c l) (f : α → α) (i : Nat) (u : Value) (hi : i < κ.k) (hf : ∀ x, κ.cs (f x) = (κ.cs x).set i u) {j : Nat} (hj : j < l.length) :
    OwnK κ (w.setCell ⟨g, j * κ.k + i, none⟩ u) base e (some ⟨g, 0, none⟩) n c (l.modify j f) :=
  ⟨h.1, by rw [← flat_set1 κ f i u hi hf l j hj]; exact (World.ownsRow.stored h.2 (j * κ.k + i) u).1⟩
/-- The keys, the replies of the page at t are set. -/
def setK (t : Nat) (A : Option Addr) (n c : Nat) (l : List Rw) : List Rw := l.modify t fun x => { x with ka := A, kn := n, kc := c }
def setR (t : Nat) (A : Option Addr) (n c : Nat) (l : List Rw) : List Rw := l.modify t fun x => { x with ra := A, rn := n, rc := c }
theorem own_setK {w : World} {base n c g : Nat} {e : TypeId} {l : List Rw} (h : OwnK rκ w base e (some ⟨g, 0, none⟩) n c l) {t : Nat} (ht : t < l.length) (A : Option Addr) (m d : Nat) : OwnK rκ (w.setCell ⟨g, t * 4 + 2, none⟩ (.slice A m d)) base e (some ⟨g, 0, none⟩) n c (setK t A m d l) :=
  own_set1 h (fun x => { x with ka := A, kn := m, kc := d }) 2 (.slice A m d) (by decide) (fun _ => rfl) ht
theorem own_setR {w : World} {base n c g : Nat} {e : TypeId} {l : List Rw} (h : OwnK rκ w base e (some ⟨g, 0, none⟩) n c l) {t : Nat} (ht : t < l.length) (A : Option Addr) (m d : Nat) : OwnK rκ (w.setCell ⟨g, t * 4 + 3, none⟩ (.slice A m d)) base e (some ⟨g, 0, none⟩) n c (setR t A m d l) :=
  own_set1 h (fun x => { x with ra := A, rn := m, rc := d }) 3 (.slice A m d) (by decide) (fun _ => rfl) ht
/-- The page at t is another one. -/
theorem own_setP {w : World} {base n c g : Nat} {e : TypeId} {l : List Rw} (h : OwnK rκ w base e (some ⟨g, 0, none⟩) n c l) {t : Nat} (ht : t < l.length) (y : Rw) :
    OwnK rκ ((((w.setCell ⟨g, t * 4, none⟩ (.string y.wkr)).setCell ⟨g, t * 4 + 1, none⟩ (.int .i64 y.inc)).setCell ⟨g, t * 4 + 2, none⟩ (.slice y.ka y.kn y.kc)).setCell ⟨g, t * 4 + 3, none⟩ (.slice y.ra y.rn y.rc)) base e (some ⟨g, 0, none⟩) n c (l.set t y) := by
  have h1 := own_set1 h (fun x => { x with wkr := y.wkr }) 0 (.string y.wkr) (by decide) (fun _ => rfl) ht
  have h2 := own_set1 h1 (fun x => { x with inc := y.inc }) 1 (.int .i64 y.inc) (by decide) (fun _ => rfl) (j := t) (by rw [List.length_modify]; exact ht)
  have h3 := own_set1 h2 (fun x => { x with ka := y.ka, kn := y.kn, kc := y.kc }) 2 (.slice y.ka y.kn y.kc) (by decide) (fun _ => rfl) (j := t) (by rw [List.length_modify, List.length_modify]; exact ht)
  have h4 := own_set1 h3 (fun x => { x with ra := y.ra, rn := y.rn, rc := y.rc }) 3 (.slice y.ra y.rn y.rc) (by decide) (fun _ => rfl) (j := t) (by rw [List.length_modify, List.length_modify, List.length_modify]; exact ht)
  have e : (((l.modify t fun x => { x with wkr := y.wkr }).modify t fun x => { x with inc := y.inc }).modify t fun x => { x with ka := y.ka, kn := y.kn, kc := y.kc }).modify t (fun x => { x with ra := y.ra, rn := y.rn, rc := y.rc }) = l.set t y := by
    apply List.ext_getElem (by simp)
    intro i h1 h2
    simp only [List.getElem_modify, List.getElem_set]
    by_cases h : t = i
    · simp [h]
    · simp [h]
  rw [e] at h4
  exact h4
theorem setK_eq {t : Nat} {l : List Rw} (ht : t < l.length) (A : Option Addr) (n c : Nat) : setK t A n c l = l.set t { l[t] with ka := A, kn := n, kc := c } := by
  unfold setK
  apply List.ext_getElem (by simp)
  intro i h1 h2
  simp only [List.getElem_modify, List.getElem_set]
  by_cases h : t = i
  · subst h
    simp
  · simp [h]
theorem setR_eq {t : Nat} {l : List Rw} (ht : t < l.length) (A : Option Addr) (n c : Nat) : setR t A n c l = l.set t { l[t] with ra := A, rn := n, rc := c } := by
  unfold setR
  apply List.ext_getElem (by simp)
  intro i h1 h2
  simp only [List.getElem_modify, List.getElem_set]
  by_cases h : t = i
  · subst h
    simp
  · simp [h]
theorem rw_cells {w : World} {b off n B : Nat} {l : List Rw} (h : KRow rκ w B (some ⟨b, off, none⟩) n l) {j : Nat} (hj : j < l.length) :
    w.cell? ⟨b, off + j * 4, none⟩ = some (.string (l[j]).wkr) ∧ w.cell? ⟨b, off + j * 4 + 1, none⟩ = some (.int .i64 (l[j]).inc) ∧ w.cell? ⟨b, off + j * 4 + 2, none⟩ = some (.slice (l[j]).ka (l[j]).kn (l[j]).kc) ∧ w.cell? ⟨b, off + j * 4 + 3, none⟩ = some (.slice (l[j]).ra (l[j]).rn (l[j]).rc) := by
  have hl := h.len (by decide)
  obtain ⟨b', off', he, _, hc⟩ := h.2 (by omega)
  injection he with he
  injection he with e1 e2
  subst e1
  subst e2
  have key : ∀ i v, (Rw.cells (l[j]))[i]? = some v → w.cell? ⟨b, off + j * 4 + i, none⟩ = some v := fun i v hv => by
    have hi : i < rκ.k := (List.getElem?_eq_some_iff.1 hv).1
    have h2 := hc (j * rκ.k + i) v (by
      rw [Cs.flat_at rκ l j i hj hi]
      exact hv)
    rw [Nat.add_assoc]
    exact h2
  exact ⟨key 0 _ rfl, key 1 _ rfl, key 2 _ rfl, key 3 _ rfl⟩
theorem info_dpg : (Try.prog.info? 52).map (fun i => (i.zero, i.size, i.bytes)) = some (some (.agg #[.string ⟨#[]⟩, .int .i64 0, .slice none 0 0, .slice none 0 0]), 4, 72) := by kernel_rfl
end Ag
end Go.Proofs.Ytfpennnbicclfaa
