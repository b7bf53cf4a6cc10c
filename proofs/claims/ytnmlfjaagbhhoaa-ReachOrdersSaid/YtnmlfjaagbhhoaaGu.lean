/- A process in memory: a node's field is set. -/
import Derived.Test.YtnmlfjaagbhhoaaGt
import Derived.Laws.BitsAllLaws
namespace Go.Proofs.Ytnmlfjaagbhhoaa
open Go.RowKit

theorem Cs.flat_set {α : Type} (κ : Cs α) (f : α → α) (i : Nat) (u : Value) (hi : i < κ.k) (hf : ∀ x, κ.cs (f x) = (κ.cs x).set i u) : ∀ (l : List α) (j : Nat), j < l.length → (l.flatMap κ.cs).set (j * κ.k + i) u = (l.modify j f).flatMap κ.cs
  | [], _, h => by cases h
  | y :: l, 0, _ => by
    rw [List.modify_zero_cons, List.flatMap_cons, List.flatMap_cons, List.set_append, if_pos (by rw [κ.len]; omega), hf]
    simp
  | y :: l, j + 1, h => by
    rw [List.modify_succ_cons, List.flatMap_cons, List.flatMap_cons, List.set_append, if_neg (by rw [κ.len, Nat.succ_mul]; omega)]
    rw [show (j + 1) * κ.k + i - (κ.cs y).length = j * κ.k + i from by rw [κ.len, Nat.succ_mul]; omega, Cs.flat_set κ f i u hi hf l j (by simpa using h)]
theorem OwnK.set {α : Type} {κ : Cs α} {w : World} {base n c g : Nat} {e : TypeId} {l : List α} (h : OwnK κ w base e (some ⟨g, 0, none⟩) n c l) (f : α → α) (i : Nat) (u : Value) (hi : i < κ.k) (hf : ∀ x, κ.cs (f x) = (κ.cs x).set i u) {j : Nat} (hj : j < l.length) :
    OwnK κ (w.setCell ⟨g, j * κ.k + i, none⟩ u) base e (some ⟨g, 0, none⟩) n c (l.modify j f) :=
  ⟨h.1, by rw [← Cs.flat_set κ f i u hi hf l j hj]; exact (World.ownsRow.stored h.2 (j * κ.k + i) u).1⟩
theorem OwnK.frozen {α : Type} {κ : Cs α} {w : World} {base n c g : Nat} {e : TypeId} {l : List α} (h : OwnK κ w base e (some ⟨g, 0, none⟩) n c l) (o : Nat) : w.frozen? ⟨g, o, none⟩ = false := by
  rcases h.2.2 with ⟨hv, _⟩ | ⟨g', cap, cur, hv, hg, hh, _⟩
  · cases hv
  · obtain rfl : g = g' := by injection hv with hA; injection hA with hA; injection hA
    unfold World.frozen?
    rw [hh]; rfl
theorem OwnK.some_of {α : Type} {κ : Cs α} {w : World} {base n c : Nat} {e : TypeId} {A : Option Addr} {l : List α} (h : OwnK κ w base e A n c l) (hn : 0 < n) : ∃ g, A = some ⟨g, 0, none⟩ ∧ base ≤ g ∧ g < w.heap.size := by
  rcases h.2.2 with ⟨_, h0⟩ | ⟨g, cap, cur, hv, hg, hh, _⟩
  · omega
  · injection hv with hA _ _
    exact ⟨g, hA, hg, blk_lt hh⟩
namespace Pr
theorem C.row {w : World} {base q : Nat} {p : P} (h : C w base q p) {k : Nat} (hk : k < p.n) :
    ∃ g c : Nat, w.cell? ⟨q, 1, none⟩ = some (.slice (some ⟨g, 0, none⟩) p.n c) ∧ base ≤ g ∧ g < w.heap.size ∧ g ≠ q ∧ (∀ (i : Nat) (v : Value), (p.nodes[k]!).cells[i]? = some v → w.cell? ⟨g, k * 8 + i, none⟩ = some v) ∧ (∀ o, w.frozen? ⟨g, o, none⟩ = false) ∧
      ∀ (i : Nat) (u : Value) (f : Nd → Nd), i < 8 → (∀ x : Nd, (f x).cells = x.cells.set i u) → C (w.setCell ⟨g, k * 8 + i, none⟩ u) base q (p.set k f) := by
  obtain ⟨A, n, c, F, m, d, hc, hn, hf, h1, h2⟩ := h.ex
  obtain rfl : p.n = n := hn.len
  obtain ⟨g, rfl, hg, hgl⟩ := hn.some_of (by omega)
  have hgq : g ≠ q := h1 _ rfl
  refine ⟨g, c, hc.cell 1 _ rfl, hg, hgl, hgq, fun i v hv => ?_, hn.frozen, fun i u f hi hfx => ?_⟩
  · have := KRow.of (κ := Nd.κ) hn.row hn.1 hk i v hv
    rwa [Nat.zero_add] at this
  · have hset := hn.set f i u hi hfx (j := k) hk
    refine ⟨⟨some ⟨g, 0, none⟩, p.n, c, F, m, d, hc.kept (grown_setCell w ⟨g, k * 8 + i, none⟩ u) (by intro e; exact hgq (Option.some.inj e)), ?_, ?_, h1, h2⟩, h.low⟩
    · exact hset
    · exact hf.kept (grown_setCell w ⟨g, k * 8 + i, none⟩ u) fun a ha e => hn.apart hf (by decide) rfl ha (Option.some.inj e)
end Pr
end Go.Proofs.Ytnmlfjaagbhhoaa
