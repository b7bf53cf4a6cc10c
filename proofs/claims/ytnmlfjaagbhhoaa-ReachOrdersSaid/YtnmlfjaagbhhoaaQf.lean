/- Package reach: reached. -/
import Derived.Test.YtnmlfjaagbhhoaaQe
namespace Go.Proofs.Ytnmlfjaagbhhoaa
open Go.RowKit

theorem OwnK.cut {α : Type} {κ : Cs α} {w : World} {base n c : Nat} {e : TypeId} {A : Option Addr} {l : List α} (h : OwnK κ w base e A n c l) {k : Nat} (hk : k ≤ n) : OwnK κ w base e A k c (l.take k) := by
  have hl := h.len
  refine ⟨h.1, by rw [Cs.flat_len, List.length_take]; congr 1; omega, ?_⟩
  rcases h.2.2 with ⟨hv, h0⟩ | ⟨g, cap, cur, hv, hg, hh, h1, h2, h3, h4⟩
  · injection hv with e1 e2 e3
    subst e1; subst e3
    obtain rfl : k = 0 := by omega
    exact .inl ⟨rfl, rfl⟩
  · injection hv with e1 e2 e3
    subst e1; subst e3
    refine .inr ⟨g, c, cur, rfl, hg, hh, by omega, h2, h3, ?_⟩
    have h5 : (l.take k).flatMap κ.cs = (l.flatMap κ.cs).take (k * κ.k) := by
      have h6 : l.flatMap κ.cs = (l.take k).flatMap κ.cs ++ (l.drop k).flatMap κ.cs := by rw [← List.flatMap_append, List.take_append_drop]
      rw [h6, List.take_left' (by rw [Cs.flat_len, List.length_take]; congr 1; omega)]
    rw [h5, ← h4, List.take_take]
    congr 1
    have := Nat.mul_le_mul_right κ.k hk
    omega
theorem OwnK.cap {α : Type} {κ : Cs α} {w : World} {base n c : Nat} {e : TypeId} {A : Option Addr} {l : List α} (h : OwnK κ w base e A n c l) : n ≤ c := by
  rcases h.2.2 with ⟨hv, h0⟩ | ⟨g, cap, cur, hv, hg, hh, h1, h2, h3, h4⟩
  · omega
  · injection hv with e1 e2 e3
    omega
namespace Pr
theorem info_bool : (Try.prog.info? 4).map (fun i => (i.zero, i.size, i.bytes)) = some (some (.bool false), 1, 1) := by kernel_rfl
/-- A row of marks. -/
def bv (f : Nat → Bool) (n : Nat) : List Value := (List.range n).map fun v => .bool (f v)
theorem bv_at (f : Nat → Bool) {n i : Nat} (h : i < n) : (bv f n)[i]? = some (.bool (f i)) := by
  unfold bv
  rw [List.getElem?_map, List.getElem?_range h]
  rfl
def isT : Option Value → Bool
  | some (.bool true) => true
  | _ => false
def unmW (w : World) (b n : Nat) : Nat := (List.range n).countP fun v => !isT (w.cell? ⟨b, v, none⟩)
def lenOf : Value → Nat
  | .slice _ n _ => n
  | _ => 0
theorem unm_eq {w : World} {b n : Nat} {f : Nat → Bool} (h : Cel w b (bv f n)) : unmW w b n = Rc.unm f n := by
  unfold unmW Rc.unm
  apply List.countP_congr
  intro v hv
  rw [h.cell v _ (bv_at f (List.mem_range.1 hv))]
  cases f v <;> decide
/-- A row of numbers of one's own, just made. -/
theorem own_one (w : World) (k : Int) (base : Nat) (hb : base ≤ w.heap.size) : OwnK iκ (w.alloc (.cells #[.int .i64 k] 3)) base 3 (some ⟨w.heap.size, 0, none⟩) 1 1 [k] :=
  ⟨by decide, World.ownsRow_lit w #[.int .i64 k] 1 hb (by decide) rfl⟩
/-- The memory of reached: the rows in nb, the marks in ib, who waits in a row of its own. -/
structure KD (w wr : World) (nb ib B q n : Nat) (L : Nat → List Nat) (R : Nat → Option Addr) (rc : Nat → Nat) (f : Nat → Bool) (S : List Nat) (X : Option Addr) (cc : Nat) : Prop where
  rows : NR wr nb B q n L R rc
  marks : Cel wr ib (bv f n)
  wait : OwnK iκ wr q 3 X S.length cc (S.map Int.ofNat)
  bel : Below ib w wr
  le : q ≤ wr.heap.size
  o1 : nb < ib
  o2 : ib < q
  o3 : ∀ i, i < n → ∀ a, R i = some a → a.block < ib
section
variable {w wr w' : World} {nb ib B q n : Nat} {L : Nat → List Nat} {R : Nat → Option Addr} {rc : Nat → Nat} {f : Nat → Bool} {S : List Nat} {X : Option Addr} {cc : Nat}
theorem KD.below (h : KD w wr nb ib B q n L R rc f S X cc) (hb : Below wr.heap.size wr w') : KD w w' nb ib B q n L R rc f S X cc :=
  ⟨h.rows.kept (grown_none hb (Nat.le_refl _)) (by simp) (fun g hg => by cases hg), h.marks.below hb (Nat.le_refl _), h.wait.below hb (Nat.le_refl _), h.bel.trans (hb.mono (by have := h.le; have := h.o2; omega)), Nat.le_trans h.le hb.size, h.o1, h.o2, h.o3⟩
theorem KD.mark (h : KD w wr nb ib B q n L R rc f S X cc) {v : Nat} (hv : v < n) : KD w (wr.setCell ⟨ib, v, none⟩ (.bool true)) nb ib B q n L R rc (Rc.mark f v) S X cc := by
  have hg : wr.grownBy (wr.setCell ⟨ib, v, none⟩ (.bool true)) (some ib) := grown_setCell wr ⟨ib, v, none⟩ _
  have o1 := h.o1
  have o2 := h.o2
  refine ⟨⟨h.rows.low, h.rows.cel.kept hg (fun e => by have := Option.some.inj e; omega), fun i hi => ⟨(h.rows.own i hi).1.kept hg (fun a ha e => by have := h.o3 i hi a ha; have := Option.some.inj e; omega), (h.rows.own i hi).2⟩⟩, ?_, h.wait.kept hg (fun a ha e => by have := (h.wait.block ha).1; have := Option.some.inj e; omega),
    h.bel.setCell (p := ⟨ib, v, none⟩) (Nat.le_refl _) _, by simpa using h.le, o1, o2, h.o3⟩
  have h1 := h.marks.set (i := v) (by unfold bv; simpa using hv) (.bool true)
  unfold bv at h1
  rw [set_range] at h1
  have h2 : (fun i => if i = v then Value.bool true else .bool (f i)) = fun i => .bool (Rc.mark f v i) := by
    funext i
    unfold Rc.mark
    by_cases e : i = v <;> simp [e]
  rw [h2] at h1
  exact h1
theorem KD.app (h : KD w wr nb ib B q n L R rc f S X cc) {X' : Option Addr} {c' t : Nat} (hg : Grew wr w' (.slice X S.length cc) (.slice X' (S.length + 1) c')) (ho : OwnK iκ w' q 3 X' (S.length + 1) c' (S.map Int.ofNat ++ [(t : Int)])) :
    KD w w' nb ib B q n L R rc f (S ++ [t]) X' c' := by
  have o1 := h.o1
  have o2 := h.o2
  have hne : ∀ b, b < q → (Value.slice X S.length cc).ownBlock ≠ some b := fun b hb => own_ne fun a ha e => by have := (h.wait.block ha).1; omega
  refine ⟨h.rows.kept hg.grown (hne nb (by omega)) (fun g hh => .inr ?_), h.marks.kept hg.grown (hne ib o2), ?_, h.bel.trans ((hg.below h.wait.2 h.le).mono (by omega)), Nat.le_trans h.le hg.size, o1, o2, h.o3⟩
  · cases hx : X with
    | none => rw [hx] at hh; cases hh
    | some a =>
      rw [hx] at hh
      have := (h.wait.block hx).1
      have := Option.some.inj hh
      omega
  · rw [List.length_append, List.map_append]
    exact ho
theorem KD.pop {u : Nat} (h : KD w wr nb ib B q n L R rc f (S ++ [u]) X cc) : KD w wr nb ib B q n L R rc f S X cc := by
  refine ⟨h.rows, h.marks, ?_, h.bel, h.le, h.o1, h.o2, h.o3⟩
  have h1 := h.wait.cut (k := S.length) (by simp)
  rw [List.map_append, List.take_left' (by simp)] at h1
  exact h1
end
/-- The marks that come out: of each node, whether one comes there. -/
def Comes (n : Nat) (L : Nat → List Nat) (node : Int) (v : Nat) : Prop := ∃ a : Nat, node = a ∧ a < n ∧ Rc.Way L a v
def MarksOut (n : Nat) (Q : Nat → Prop) (w : World) (e : Ending) (w' : World) : Prop := (∃ (g : Nat) (f : Nat → Bool), e = .returned (.slice (some ⟨g, 0, none⟩) n n) ∧ Cel w' g (bv f n) ∧ w.heap.size ≤ g ∧ ∀ v, v < n → (f v = true ↔ Q v)) ∧ Below w.heap.size w w'
end Pr
end Go.Proofs.Ytnmlfjaagbhhoaa
