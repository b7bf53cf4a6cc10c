/- QueueWaits: the walk. -/
import Derived.Test.YtglmhpmiphkjlaaLt
import Derived.Test.YtglmhpmiphkjlaaLv
import Derived.Test.YtglmhpmiphkjlaaLw
namespace Go.Proofs.Ytglmhpmiphkjlaa
open Go.RowKit

namespace Qu
open Ls (T)
theorem filter_lt {α : Type} {p q : α → Bool} : ∀ {l : List α}, (∀ x ∈ l, p x = true → q x = true) → (∃ x ∈ l, q x = true ∧ p x = false) → (l.filter p).length < (l.filter q).length
  | [], _, h => by obtain ⟨x, hx, _⟩ := h; cases hx
  | y :: r, h1, h2 => by
    have h3 : (r.filter p).length ≤ (r.filter q).length := by
      have := filter_le (p := p) (q := q) (l := r) (fun x hx => h1 x (List.mem_cons_of_mem _ hx))
      exact this
    obtain ⟨x, hx, h4, h5⟩ := h2
    rw [List.filter_cons, List.filter_cons]
    rcases List.mem_cons.1 hx with rfl | hx
    · rw [h4, h5]
      simp
      omega
    · have h6 := filter_lt (fun x hx => h1 x (List.mem_cons_of_mem _ hx)) ⟨x, hx, h4, h5⟩
      have h7 := h1 y List.mem_cons_self
      cases hp : p y
      · cases hq : q y <;> simp <;> omega
      · rw [h7 hp]
        simp
        omega
where
  filter_le {α : Type} {p q : α → Bool} : ∀ {l : List α}, (∀ x ∈ l, p x = true → q x = true) → (l.filter p).length ≤ (l.filter q).length
    | [], _ => Nat.le_refl _
    | y :: r, h => by
      have h3 := filter_le (p := p) (q := q) (l := r) (fun x hx => h x (List.mem_cons_of_mem _ hx))
      have h7 := h y List.mem_cons_self
      rw [List.filter_cons, List.filter_cons]
      cases hp : p y
      · cases hq : q y <;> simp <;> omega
      · rw [h7 hp]
        simp
        omega
theorem cand_same {L : List T} {now t : Int} {ts : List ByteArray} (h1 : now ≤ t) (h : ∀ x ∈ L.filter (fun x => asks ts x.top), x.avail = true → ¬ (now < x.due ∧ x.due ≤ t)) : cand L t ts = cand L now ts := by
  unfold cand
  refine List.filter_congr fun x hx => ?_
  cases ha : asks ts x.top with
  | false => rfl
  | true =>
    have h2 := h x (List.mem_filter.2 ⟨hx, ha⟩)
    unfold T.free
    cases hv : x.avail with
    | false => rfl
    | true =>
      have h3 := h2 hv
      rw [Bool.true_and, Bool.true_and, Bool.true_and, Bool.true_and, decide_eq_decide]
      omega
theorem cand_more {L : List T} {now t : Int} {ts : List ByteArray} (h1 : now < t) (h : ∃ x ∈ L.filter (fun x => asks ts x.top), x.avail = true ∧ now < x.due ∧ x.due = t) : (cand L now ts).length < (cand L t ts).length := by
  obtain ⟨x, hx, h2, h3, h4⟩ := h
  obtain ⟨h5, h6⟩ := List.mem_filter.1 hx
  unfold cand
  refine filter_lt (fun y _ hy => ?_) ⟨x, h5, ?_, ?_⟩
  · rw [Bool.and_eq_true] at *
    unfold T.free at *
    rw [Bool.and_eq_true, decide_eq_true_iff] at *
    exact ⟨hy.1, hy.2.1, by omega⟩
  · unfold T.free
    rw [h2, decide_eq_true (show x.due ≤ t by omega)]
    simpa using h6
  · unfold T.free
    rw [h2, decide_eq_false (show ¬ x.due ≤ now by omega), Bool.and_false, Bool.and_false]
def AllOk (L : List T) : Prop := ∀ x ∈ L, MadeOk x
theorem AllOk.ins {L : List T} (h : AllOk L) (ha : Asc L) {x : T} (hx : MadeOk x) : AllOk (ins x L) := fun y hy => by
  rcases (mem_ins ha).1 hy with rfl | ⟨hy, _⟩
  · exact hx
  · exact h y hy
theorem cand_len (L : List T) (now : Int) (ts : List ByteArray) : (cand L now ts).length ≤ L.length := List.length_filter_le _ _
/-- One that is made is put, as an open region does it. -/
theorem put_made {B q : Nat} {L : List T} {x : T} (w : World) (hx : MadeOk x) (hq : QAt B w q L) (hB : B ≤ w.heap.size) (hl : L.length ≤ 1000) :
    Calls Try.prog 8 #[.pointer (some ⟨q, 0, none⟩), .slice (some ⟨w.heap.size, 0, none⟩) 1 1] (w.alloc (.cells x.cells.toArray 38)) fun e w' => e = .returned (.tuple #[]) ∧ QAt B w' q (ins x L) ∧ Below B w w' :=
  put1_at x w hq hB (by have := hx.id1; omega) (by have := hx.id2; omega) (by rw [hx.top]; decide) hl
end Qu
open Qu
open Ls (T)
end Go.Proofs.Ytglmhpmiphkjlaa
