/- A process in memory: a node's field is set. Plain mathematics of package reach: who comes where. It names no program. -/
import Derived.Test.YtjdgloofdafebaaGtY
import Derived.Laws.BitsAllLaws
namespace Go.Proofs.Ytjdgloofdafebaa
open Go.RowKit

theorem Cs.flat_set {α : Type} (κ : Cs α) (f : α → α) (i : Nat) (u : Value) (hi : i < κ.k) (hf : ∀ x, κ.cs (f x) = (κ.cs x).set i u) : ∀ (l : List α) (j : Nat), j < l.length → (l.flatMap κ.cs).set (j * κ.k + i) u = (l.modify j f).flatMap κ.cs
  | [], _, h => by cases h
  | y :: l, 0, _ => by
    rw [List.modify_zero_cons, List.flatMap_cons, List.flatMap_cons, List.set_append, if_pos (by rw [κ.len]; omega), hf]
    simp
  | y :: l, j + 1, h => by
    rw [List.modify_succ_cons, List.flatMap_cons, List.flatMap_cons, List.set_append, if_neg (by rw [κ.len, Nat.succ_mul]; omega)]
    rw [show (j + 1) * κ.k + i - (κ.cs y).length = j * κ.k + i from by rw [κ.len, Nat.succ_mul]; omega, Cs.flat_set κ f i u hi hf l j (by simpa using h)]
theorem OwnK.set {α : Type} {κ : Cs α} {w : World} {base n c g : Nat} {e : TypeId} {l : List α} (h : OwnK κ w base e (some ⟨g, 0, none⟩) n c l) (f : α → α) (i : Nat) (u : Value) (hi : i < κ.k) (hf : ∀ x, κ.cs (f x) = (κ.cs x).set i u) {j : Nat} (hj : j < l.length) :
    OwnK κ (w.setCell ⟨g, j * κ.k + i, none⟩ u) base e (some ⟨g, 0, none⟩) n c (l.modify j f) :=
  ⟨h.1, by rw [← Cs.flat_set κ f i u hi hf l j hj]; exact (World.ownsRow.stored h.2 (j * κ.k + i) u).1⟩
theorem OwnK.frozen {α : Type} {κ : Cs α} {w : World} {base n c g : Nat} {e : TypeId} {l : List α} (h : OwnK κ w base e (some ⟨g, 0, none⟩) n c l) (o : Nat) : w.frozen? ⟨g, o, none⟩ = false := by
  rcases h.2.2 with ⟨hv, _⟩ | ⟨g', cap, cur, hv, hg, hh, _⟩
  · cases hv
  · obtain rfl : g = g' := by injection hv with hA; injection hA with hA; injection hA
    unfold World.frozen?
    rw [hh]; rfl
theorem OwnK.some_of {α : Type} {κ : Cs α} {w : World} {base n c : Nat} {e : TypeId} {A : Option Addr} {l : List α} (h : OwnK κ w base e A n c l) (hn : 0 < n) : ∃ g, A = some ⟨g, 0, none⟩ ∧ base ≤ g ∧ g < w.heap.size := by
  rcases h.2.2 with ⟨_, h0⟩ | ⟨g, cap, cur, hv, hg, hh, _⟩
  · omega
  · injection hv with hA _ _
    exact ⟨g, hA, hg, blk_lt hh⟩
namespace Pr
theorem C.row {w : World} {base q : Nat} {p : P} (h : C w base q p) {k : Nat} (hk : k < p.n) :
    ∃ g c : Nat, w.cell? ⟨q, 1, none⟩ = some (.slice (some ⟨g, 0, none⟩) p.n c) ∧ base ≤ g ∧ g < w.heap.size ∧ g ≠ q ∧ (∀ (i : Nat) (v : Value), (p.nodes[k]!).cells[i]? = some v → w.cell? ⟨g, k * 8 + i, none⟩ = some v) ∧ (∀ o, w.frozen? ⟨g, o, none⟩ = false) ∧
      ∀ (i : Nat) (u : Value) (f : Nd → Nd), i < 8 → (∀ x : Nd, (f x).cells = x.cells.set i u) → C (w.setCell ⟨g, k * 8 + i, none⟩ u) base q (p.set k f) := by
  obtain ⟨A, n, c, F, m, d, hc, hn, hf, h1, h2⟩ := h.ex
  obtain rfl : p.n = n := hn.len
  obtain ⟨g, rfl, hg, hgl⟩ := hn.some_of (by omega)
  have hgq : g ≠ q := h1 _ rfl
  refine ⟨g, c, hc.cell 1 _ rfl, hg, hgl, hgq, fun i v hv => ?_, hn.frozen, fun i u f hi hfx => ?_⟩
  · have := KRow.of (κ := Nd.κ) hn.row hn.1 hk i v hv
    rwa [Nat.zero_add] at this
  · have hset := hn.set f i u hi hfx (j := k) hk
    refine ⟨⟨some ⟨g, 0, none⟩, p.n, c, F, m, d, hc.kept (grown_setCell w ⟨g, k * 8 + i, none⟩ u) (by intro e; exact hgq (Option.some.inj e)), ?_, ?_, h1, h2⟩, h.low⟩
    · exact hset
    · exact hf.kept (grown_setCell w ⟨g, k * 8 + i, none⟩ u) fun a ha e => hn.apart hf (by decide) rfl ha (Option.some.inj e)
end Pr
end Go.Proofs.Ytjdgloofdafebaa
namespace Go.Proofs.Ytjdgloofdafebaa.Rc

/-- One comes from a to b, by one step or more. -/
inductive Way (L : Nat → List Nat) (a : Nat) : Nat → Prop
  | one {b : Nat} (h : b ∈ L a) : Way L a b
  | more {b c : Nat} (h : Way L a b) (hc : c ∈ L b) : Way L a c
theorem Way.trans {L : Nat → List Nat} {a b c : Nat} (h : Way L a b) (h2 : Way L b c) : Way L a c := by
  induction h2 with
  | one h3 => exact .more h h3
  | more _ h4 ih => exact .more ih h4
theorem Way.less {L : Nat → List Nat} {a b c : Nat} (hb : b ∈ L a) (h : Way L b c) : Way L a c := (Way.one hb).trans h
theorem Way.turn {L M : Nat → List Nat} (hm : ∀ a b, b ∈ L a → a ∈ M b) {a b : Nat} (h : Way L a b) : Way M b a := by
  induction h with
  | one h => exact .one (hm _ _ h)
  | more _ h2 ih => exact Way.less (hm _ _ h2) ih
theorem Way.rank {L : Nat → List Nat} {r : Nat → Nat} (hr : ∀ a b, b ∈ L a → r a < r b) {a b : Nat} (h : Way L a b) : r a < r b := by
  induction h with
  | one h => exact hr _ _ h
  | more _ h2 ih => exact Nat.lt_trans ih (hr _ _ h2)

/-- How many are not marked. -/
def unm (f : Nat → Bool) (n : Nat) : Nat := (List.range n).countP fun v => !f v
def mark (f : Nat → Bool) (x : Nat) : Nat → Bool := fun v => if v = x then true else f v
theorem mark_at (f : Nat → Bool) (x : Nat) : mark f x x = true := if_pos rfl
theorem mark_up {f : Nat → Bool} {v : Nat} (x : Nat) (h : f v = true) : mark f x v = true := by
  unfold mark; split
  · rfl
  · exact h
theorem mark_or {f : Nat → Bool} {x v : Nat} (h : mark f x v = true) : v = x ∨ f v = true := by
  unfold mark at h
  by_cases e : v = x
  · exact .inl e
  · rw [if_neg e] at h; exact .inr h
theorem countP_mark (f : Nat → Bool) (x : Nat) (hf : f x = false) : ∀ l : List Nat, l.Nodup → x ∈ l → l.countP (fun v => !mark f x v) + 1 = l.countP fun v => !f v
  | [], _, h => by cases h
  | y :: l, hn, h => by
    rw [List.nodup_cons] at hn
    rw [List.countP_cons, List.countP_cons]
    by_cases e : y = x
    · subst e
      have h1 : l.countP (fun v => !mark f y v) = l.countP fun v => !f v := by
        apply List.countP_congr
        intro v hv
        have : v ≠ y := fun e => hn.1 (e ▸ hv)
        unfold mark; rw [if_neg this]
      rw [h1, mark_at, hf]; rfl
    · have hx : x ∈ l := by
        cases h with
        | head => exact absurd rfl e
        | tail _ h => exact h
      have h1 := countP_mark f x hf l hn.2 hx
      have h2 : mark f x y = f y := by unfold mark; rw [if_neg e]
      rw [h2]; omega
theorem unm_mark {f : Nat → Bool} {x n : Nat} (hf : f x = false) (hx : x < n) : unm (mark f x) n + 1 = unm f n :=
  countP_mark f x hf _ List.nodup_range (List.mem_range.2 hx)

theorem unm_le (f : Nat → Bool) (n : Nat) : unm f n ≤ n := Nat.le_trans List.countP_le_length (by rw [List.length_range]; exact Nat.le_refl _)
/-- Between two places: all that are come to are right; of each that does not wait all that follow are come to. -/
structure Do (n : Nat) (L : Nat → List Nat) (a : Nat) (f : Nat → Bool) (S : List Nat) : Prop where
  sound : ∀ v, f v = true → v < n ∧ Way L a v
  stk : ∀ v ∈ S, v < n ∧ (v = a ∨ f v = true)
  done : ∀ v, (v = a ∨ f v = true) → v ∈ S ∨ ∀ x ∈ L v, f x = true
/-- In the midst of one. -/
structure Df (n : Nat) (L : Nat → List Nat) (a : Nat) (f : Nat → Bool) (S : List Nat) (u t : Nat) : Prop where
  sound : ∀ v, f v = true → v < n ∧ Way L a v
  stk : ∀ v ∈ S, v < n ∧ (v = a ∨ f v = true)
  cur : u < n ∧ (u = a ∨ f u = true)
  part : ∀ x ∈ (L u).take t, f x = true
  done : ∀ v, v ≠ u → (v = a ∨ f v = true) → v ∈ S ∨ ∀ x ∈ L v, f x = true
section
variable {n : Nat} {L : Nat → List Nat} {a : Nat} {f : Nat → Bool} {S : List Nat} {u t : Nat}
theorem Do.start (ha : a < n) : Do n L a (fun _ => false) [a] where
  sound := fun v h => by cases h
  stk := fun v h => by obtain rfl := List.mem_singleton.1 h; exact ⟨ha, .inl rfl⟩
  done := fun v h => by
    rcases h with rfl | h
    · exact .inl (List.mem_singleton.2 rfl)
    · cases h
theorem Do.pop (h : Do n L a f (S ++ [u])) : Df n L a f S u 0 where
  sound := h.sound
  stk := fun v hv => h.stk v (List.mem_append_left _ hv)
  cur := h.stk u (List.mem_append_right _ (List.mem_singleton.2 rfl))
  part := fun x hx => by simp at hx
  done := fun v hv hc => by
    rcases h.done v hc with h1 | h1
    · rcases List.mem_append.1 h1 with h2 | h2
      · exact .inl h2
      · exact absurd (List.mem_singleton.1 h2) hv
    · exact .inr h1
theorem take_more {α : Type} {l : List α} {t : Nat} {x : α} (hx : l[t]? = some x) : l.take (t + 1) = l.take t ++ [x] := by
  rw [List.take_add_one, hx]; rfl
theorem Df.old (h : Df n L a f S u t) {x : Nat} (hx : (L u)[t]? = some x) (hf : f x = true) : Df n L a f S u (t + 1) where
  sound := h.sound
  stk := h.stk
  cur := h.cur
  part := fun y hy => by
    rw [take_more hx] at hy
    rcases List.mem_append.1 hy with h1 | h1
    · exact h.part y h1
    · rw [List.mem_singleton.1 h1]; exact hf
  done := h.done
theorem Df.new (h : Df n L a f S u t) {x : Nat} (hx : (L u)[t]? = some x) (hxn : x < n) : Df n L a (mark f x) (S ++ [x]) u (t + 1) where
  sound := fun v hv => by
    rcases mark_or hv with rfl | h1
    · refine ⟨hxn, ?_⟩
      have hm : v ∈ L u := List.mem_of_getElem? hx
      rcases h.cur.2 with e | e
      · exact .one (e ▸ hm)
      · exact .more (h.sound u e).2 hm
    · exact h.sound v h1
  stk := fun v hv => by
    rcases List.mem_append.1 hv with h1 | h1
    · obtain ⟨h2, h3⟩ := h.stk v h1
      exact ⟨h2, h3.imp id (mark_up x)⟩
    · rw [List.mem_singleton.1 h1]; exact ⟨hxn, .inr (mark_at f x)⟩
  cur := ⟨h.cur.1, h.cur.2.imp id (mark_up x)⟩
  part := fun y hy => by
    rw [take_more hx] at hy
    rcases List.mem_append.1 hy with h1 | h1
    · exact mark_up x (h.part y h1)
    · rw [List.mem_singleton.1 h1]; exact mark_at f x
  done := fun v hv hc => by
    have hc' : v = x ∨ (v = a ∨ f v = true) := by
      rcases hc with e | e
      · exact .inr (.inl e)
      · exact (mark_or e).imp id .inr
    rcases hc' with rfl | hc'
    · exact .inl (List.mem_append_right _ (List.mem_singleton.2 rfl))
    · rcases h.done v hv hc' with h1 | h1
      · exact .inl (List.mem_append_left _ h1)
      · exact .inr fun y hy => mark_up x (h1 y hy)
theorem Df.fin (h : Df n L a f S u t) (ht : (L u).length ≤ t) : Do n L a f S where
  sound := h.sound
  stk := h.stk
  done := fun v hc => by
    by_cases e : v = u
    · subst e
      refine .inr fun x hx => h.part x ?_
      rw [List.take_of_length_le ht]; exact hx
    · exact h.done v e hc
/-- Closed: all that are come to, and no other. -/
theorem closed (hs : ∀ v, f v = true → v < n ∧ Way L a v) (hd : ∀ v, (v = a ∨ f v = true) → ∀ x ∈ L v, f x = true) (v : Nat) : f v = true ↔ Way L a v := by
  refine ⟨fun h => (hs v h).2, fun h => ?_⟩
  induction h with
  | one h => exact hd a (.inl rfl) _ h
  | more _ h2 ih => exact hd _ (.inr ih) _ h2
theorem Do.fin (h : Do n L a f []) (v : Nat) : f v = true ↔ Way L a v :=
  closed h.sound (fun v hc => (h.done v hc).resolve_left (by simp)) v
end
end Go.Proofs.Ytjdgloofdafebaa.Rc
