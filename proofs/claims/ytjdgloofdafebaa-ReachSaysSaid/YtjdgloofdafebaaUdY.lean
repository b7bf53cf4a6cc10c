/- A row of rows of numbers in memory, each its own. -/
import Derived.Test.YtjdgloofdafebaaYReachSays5
import Derived.Test.YtjdgloofdafebaaUcY
import Derived.Test.YtjdgloofdafebaaGzY
namespace Go.Proofs.Ytjdgloofdafebaa
open Go.RowKit

namespace Pr
theorem own_cel {w : World} {base g n : Nat} {e : TypeId} {xs : List Value} (h : w.ownsRow base e 1 (.slice (some ⟨g, 0, none⟩) n n) n xs) : Cel w g xs := by
  rcases h.2 with ⟨hv, _⟩ | ⟨g', cap, cur, hv, _, hh, _, _, hs, hx⟩
  · cases hv
  · injection hv with h1 h2 h3
    injection h1 with h1
    injection h1 with h1
    subst h1; subst h3
    rw [List.take_of_length_le (by simp; omega)] at hx
    rw [← hx]
    exact cel_of hh
theorem made_one (z : Value) (h : z.cells = #[z]) (n : Nat) : (madeCells z.cells (n * 1)).toList = (List.range n).map fun _ => z := by
  rw [h]
  apply List.ext_getElem
  · simp [madeCells]
  · intro i h1 h2
    simp [madeCells, Nat.mod_one]
/-- A row of n rows in block nb, their own blocks from B on, below B'. -/
structure NX (w : World) (nb B B' n : Nat) (L : Nat → List Nat) : Prop where
  low : nb < B
  ex : ∃ (X : Nat → Option Addr) (c : Nat → Nat), Cel w nb ((List.range n).map fun i => .slice (X i) (L i).length (c i)) ∧
    (∀ i, i < n → OwnK iκ w B 3 (X i) (L i).length (c i) ((L i).map Int.ofNat) ∧ ∀ a, X i = some a → a.block < B') ∧
    (∀ i j, i < n → j < n → i ≠ j → ∀ a b, X i = some a → X j = some b → a.block ≠ b.block)
section
variable {w w' : World} {nb B B' n : Nat} {L : Nat → List Nat}
theorem NX.kept (h : NX w nb B B' n L) {row : Option Nat} (hg : w.grownBy w' row) (hne : row ≠ some nb) (hr : ∀ g, row = some g → g < B ∨ B' ≤ g) : NX w' nb B B' n L := by
  obtain ⟨X, c, hc, ho, ha⟩ := h.ex
  refine ⟨h.low, X, c, hc.kept hg hne, fun i hi => ⟨(ho i hi).1.kept hg fun a hx e => ?_, (ho i hi).2⟩, ha⟩
  have h1 := ((ho i hi).1.block hx).1
  have h2 := (ho i hi).2 a hx
  have := hr _ e
  omega
theorem NX.up (h : NX w nb B B' n L) {B2 : Nat} (hb : B' ≤ B2) : NX w nb B B2 n L := by
  obtain ⟨X, c, hc, ho, ha⟩ := h.ex
  exact ⟨h.low, X, c, hc, fun i hi => ⟨(ho i hi).1, fun a hx => Nat.lt_of_lt_of_le ((ho i hi).2 a hx) hb⟩, ha⟩
theorem NX.put {X : Nat → Option Addr} {c : Nat → Nat} (hlow : nb < B) (hc : Cel w nb ((List.range n).map fun i => .slice (X i) (L i).length (c i)))
    (ho : ∀ i, i < n → OwnK iκ w B 3 (X i) (L i).length (c i) ((L i).map Int.ofNat)) (ha : ∀ i j, i < n → j < n → i ≠ j → ∀ a b, X i = some a → X j = some b → a.block ≠ b.block)
    {i : Nat} (hi : i < n) {X' : Option Addr} {c' t : Nat} (hg : Grew w w' (.slice (X i) (L i).length (c i)) (.slice X' ((L i).length + 1) c')) (ho' : OwnK iκ w' B 3 X' ((L i).length + 1) c' ((L i).map Int.ofNat ++ [(t : Int)])) :
    NX (w'.setCell ⟨nb, i, none⟩ (.slice X' ((L i).length + 1) c')) nb B w'.heap.size n (fun j => if j = i then L j ++ [t] else L j) ∧ Cel w' nb ((List.range n).map fun i => .slice (X i) (L i).length (c i)) := by
  have hrow : ∀ b : Nat, (∀ a, X i = some a → a.block ≠ b) → (Value.slice (X i) (L i).length (c i)).ownBlock ≠ some b := by
    intro b hb he
    cases hx : X i with
    | none => rw [hx] at he; cases he
    | some a => rw [hx] at he; exact hb a hx (Option.some.inj he)
  have hc1 : Cel w' nb ((List.range n).map fun i => .slice (X i) (L i).length (c i)) := hc.kept hg.grown (hrow nb fun a hx e => by have := ((ho i hi).block hx).1; omega)
  have hc2 := hc1.set (i := i) (by simpa using hi) (.slice X' ((L i).length + 1) c')
  rw [set_range] at hc2
  have hset : w'.grownBy (w'.setCell ⟨nb, i, none⟩ (.slice X' ((L i).length + 1) c')) (some nb) := grown_setCell w' ⟨nb, i, none⟩ _
  refine ⟨⟨hlow, fun j => if j = i then X' else X j, fun j => if j = i then c' else c j, ?_, ?_, ?_⟩, hc1⟩
  · have e : (fun j => Value.slice (if j = i then X' else X j) (if j = i then L j ++ [t] else L j).length (if j = i then c' else c j)) = fun j => if j = i then .slice X' ((L i).length + 1) c' else .slice (X j) (L j).length (c j) := by
      funext j
      by_cases h : j = i
      · subst h; simp
      · simp [h]
    rw [e]
    exact hc2
  · intro j hj
    by_cases h : j = i
    · subst h
      simp only [if_true]
      refine ⟨?_, fun a hx => ?_⟩
      · have := ho'.kept hset fun a hx e => by have := (ho'.block hx).1; have := Option.some.inj e; omega
        rw [List.length_append, List.map_append]
        exact this
      · exact (ho'.block hx).2
    · simp only [h, if_false]
      have h1 := (ho j hj).kept hg.grown fun a hx => hrow a.block fun a0 h0 => ha i j hi hj (fun e => h e.symm) a0 a h0 hx
      refine ⟨h1.kept hset fun a hx e => ?_, fun a hx => (h1.block hx).2⟩
      have := (h1.block hx).1
      have := Option.some.inj e
      omega
  · intro j k hj hk hne a b hx hy
    have far : ∀ k, k < n → k ≠ i → ∀ b, X k = some b → ∀ a, X' = some a → a.block ≠ b.block := by
      intro k hk hki b hy a hx
      rcases grew_block hg ho' hx with ⟨a0, h0, h1⟩ | h1
      · rw [← h1]; exact ha i k hi hk (fun e => hki e.symm) a0 b h0 hy
      · have := ((ho k hk).block hy).2; omega
    by_cases h : j = i
    · subst h
      have hk' : k ≠ j := fun e => hne e.symm
      simp only [if_true] at hx
      simp only [hk', if_false] at hy
      exact far k hk hk' b hy a hx
    · by_cases h' : k = i
      · subst h'
        simp only [h, if_false] at hx
        simp only [if_true] at hy
        exact fun e => far j hj h a hx b hy e.symm
      · simp only [h, if_false] at hx
        simp only [h', if_false] at hy
        exact ha j k hj hk hne a b hx hy
end
theorem own_ne {A : Option Addr} {k c b : Nat} (hb : ∀ a, A = some a → a.block ≠ b) : (Value.slice A k c).ownBlock ≠ some b := by
  intro he
  cases A with
  | none => cases he
  | some a => exact hb a rfl (Option.some.inj he)
def wv (W : Nat → Int) (n : Nat) : List Value := (List.range n).map fun v => .int .i64 (W v)
theorem wv_at (W : Nat → Int) {n i : Nat} (h : i < n) : (wv W n)[i]? = some (.int .i64 (W i)) := by
  unfold wv
  rw [List.getElem?_map, List.getElem?_range h]
  rfl
/-- The same, where each row lies told. -/
structure NR (w : World) (nb B B' n : Nat) (L : Nat → List Nat) (X : Nat → Option Addr) (c : Nat → Nat) : Prop where
  low : nb < B
  cel : Cel w nb ((List.range n).map fun i => .slice (X i) (L i).length (c i))
  own : ∀ i, i < n → OwnK iκ w B 3 (X i) (L i).length (c i) ((L i).map Int.ofNat) ∧ ∀ a, X i = some a → a.block < B'
theorem NX.nr {w : World} {nb B B' n : Nat} {L : Nat → List Nat} (h : NX w nb B B' n L) : ∃ X c, NR w nb B B' n L X c := by
  obtain ⟨X, c, hc, ho, _⟩ := h.ex
  exact ⟨X, c, h.low, hc, ho⟩
theorem NR.kept {w w' : World} {nb B B' n : Nat} {L : Nat → List Nat} {X : Nat → Option Addr} {c : Nat → Nat} (h : NR w nb B B' n L X c) {row : Option Nat} (hg : w.grownBy w' row) (hne : row ≠ some nb) (hr : ∀ g, row = some g → g < B ∨ B' ≤ g) : NR w' nb B B' n L X c := by
  refine ⟨h.low, h.cel.kept hg hne, fun i hi => ⟨(h.own i hi).1.kept hg fun a hx e => ?_, (h.own i hi).2⟩⟩
  have h1 := ((h.own i hi).1.block hx).1
  have h2 := (h.own i hi).2 a hx
  have := hr _ e
  omega
/-- The memory of Ring behind its first loop: a box in block pb, the rows in nb, the counts in yb, who is gone in a row of its own. -/
structure KM (w wr : World) (pb nb yb B q n : Nat) (cs : List Value) (L : Nat → List Nat) (R : Nat → Option Addr) (rc : Nat → Nat) (G : List Nat) (W : Nat → Int) (X : Option Addr) (cc : Nat) : Prop where
  rows : NR wr nb B q n L R rc
  ways : Cel wr yb (wv W n)
  gone : OwnK iκ wr q 3 X G.length cc (G.map Int.ofNat)
  box : Cel wr pb cs
  bel : Below pb w wr
  le : q ≤ wr.heap.size
  o1 : pb < nb
  o2 : nb < yb
  o3 : yb < B
  o4 : B ≤ q
section
variable {w wr w' : World} {pb nb yb B q n : Nat} {cs : List Value} {L : Nat → List Nat} {R : Nat → Option Addr} {rc : Nat → Nat} {G : List Nat} {W : Nat → Int} {X : Option Addr} {cc : Nat}
theorem KM.below (h : KM w wr pb nb yb B q n cs L R rc G W X cc) (hb : Below wr.heap.size wr w') : KM w w' pb nb yb B q n cs L R rc G W X cc :=
  ⟨h.rows.kept (grown_none hb (Nat.le_refl _)) (by simp) (fun g hg => by cases hg), h.ways.below hb (Nat.le_refl _), h.gone.below hb (Nat.le_refl _), h.box.below hb (Nat.le_refl _),
    h.bel.trans (hb.mono (by have := h.le; have := h.o1; have := h.o2; have := h.o3; have := h.o4; omega)), Nat.le_trans h.le hb.size, h.o1, h.o2, h.o3, h.o4⟩
theorem KM.set (h : KM w wr pb nb yb B q n cs L R rc G W X cc) {v : Nat} (hv : v < n) (x : Int) : KM w (wr.setCell ⟨yb, v, none⟩ (.int .i64 x)) pb nb yb B q n cs L R rc G (fun i => if i = v then x else W i) X cc := by
  have hg : wr.grownBy (wr.setCell ⟨yb, v, none⟩ (.int .i64 x)) (some yb) := grown_setCell wr ⟨yb, v, none⟩ _
  have o1 := h.o1
  have o2 := h.o2
  have o3 := h.o3
  have o4 := h.o4
  refine ⟨h.rows.kept hg (fun e => by have := Option.some.inj e; omega) (fun g hh => by have := Option.some.inj hh; omega), ?_, h.gone.kept hg (fun a ha e => by have := (h.gone.block ha).1; have := Option.some.inj e; omega),
    h.box.kept hg (fun e => by have := Option.some.inj e; omega), h.bel.setCell (p := ⟨yb, v, none⟩) (by show pb ≤ yb; omega) _, by simpa using h.le, o1, o2, o3, o4⟩
  have h1 := h.ways.set (i := v) (by unfold wv; simpa using hv) (.int .i64 x)
  unfold wv at h1
  rw [set_range] at h1
  have h2 : (fun i => if i = v then Value.int .i64 x else .int .i64 (W i)) = fun i => .int .i64 (if i = v then x else W i) := by
    funext i
    by_cases e : i = v <;> simp [e]
  rw [h2] at h1
  exact h1
theorem KM.app (h : KM w wr pb nb yb B q n cs L R rc G W X cc) {X' : Option Addr} {c' t : Nat} (hg : Grew wr w' (.slice X G.length cc) (.slice X' (G.length + 1) c')) (ho : OwnK iκ w' q 3 X' (G.length + 1) c' (G.map Int.ofNat ++ [(t : Int)])) :
    KM w w' pb nb yb B q n cs L R rc (G ++ [t]) W X' c' := by
  have o1 := h.o1
  have o2 := h.o2
  have o3 := h.o3
  have o4 := h.o4
  have hne : ∀ b, b < q → (Value.slice X G.length cc).ownBlock ≠ some b := fun b hb => own_ne fun a ha e => by have := (h.gone.block ha).1; omega
  refine ⟨h.rows.kept hg.grown (hne nb (by omega)) (fun g hh => .inr ?_), h.ways.kept hg.grown (hne yb (by omega)), ?_, h.box.kept hg.grown (hne pb (by omega)), h.bel.trans ((hg.below h.gone.2 h.le).mono (by omega)), Nat.le_trans h.le hg.size, o1, o2, o3, o4⟩
  · cases hx : X with
    | none => rw [hx] at hh; cases hh
    | some a =>
      rw [hx] at hh
      have := (h.gone.block hx).1
      have := Option.some.inj hh
      omega
  · rw [List.length_append, List.map_append]
    exact ho
end
end Pr
end Go.Proofs.Ytjdgloofdafebaa
