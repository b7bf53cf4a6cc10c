/- Package reach: ordered: its memory and its mathematics. -/
import Derived.Test.YtjdgloofdafebaaQkY
namespace Go.Proofs.Ytjdgloofdafebaa
open Go.RowKit

theorem Cel.of_block {w w' : World} {q : Nat} {cs : List Value} (h : Cel w q cs) (hb : w'.heap[q]? = w.heap[q]?) (hs : w.heap.size ≤ w'.heap.size) : Cel w' q cs :=
  ⟨fun i v hi => (World.cell?_of_block (a := ⟨q, i, none⟩) hb).trans (h.cell i v hi), fun i hi => (World.frozen?_of_block (a := ⟨q, i, none⟩) hb).trans (h.froz i hi), Nat.lt_of_lt_of_le h.lt hs⟩
theorem OwnK.of_block {α : Type} {κ : Cs α} {w w' : World} {base n c : Nat} {e : TypeId} {A : Option Addr} {l : List α} (h : OwnK κ w base e A n c l) (hb : ∀ a, A = some a → w'.heap[a.block]? = w.heap[a.block]?) : OwnK κ w' base e A n c l := by
  refine ⟨h.1, h.2.1, ?_⟩
  rcases h.2.2 with ⟨hv, h0⟩ | ⟨g, cap, cur, hv, hg, hh, rest⟩
  · exact .inl ⟨hv, h0⟩
  · have e1 := hv
    injection e1 with e1 e2 e3
    exact .inr ⟨g, cap, cur, hv, hg, by rw [hb _ e1]; exact hh, rest⟩
namespace Rc
/-- How many ways lead to v from the first j. -/
def cntN (L : Nat → List Nat) (j v : Nat) : Nat := ((List.range j).map fun u => (L u).count v).sum
theorem cntN_succ (L : Nat → List Nat) (j v : Nat) : cntN L (j + 1) v = cntN L j v + (L j).count v := by
  unfold cntN
  rw [List.range_succ, List.map_append, List.sum_append]
  simp
theorem pend_nil (n : Nat) (L : Nat → List Nat) : pend n L [] = cntN L n := by
  funext v
  unfold pend pendL cntN
  simp
def up1 (W : Nat → Nat) (x : Nat) : Nat → Nat := fun v => if v = x then W x + 1 else W v
theorem cnt_take {L : List Nat} {t x : Nat} (hx : L[t]? = some x) (v : Nat) : (L.take (t + 1)).count v = (L.take t).count v + (if v = x then 1 else 0) := by
  rw [take_more hx, List.count_append]
  by_cases e : v = x
  · subst e; simp
  · have e' : ¬ x = v := fun h => e h.symm
    simp [e, e']
theorem cntN_le {L : Nat → List Nat} (m : Nat) (hm : ∀ u, (L u).length ≤ m) (j v : Nat) : cntN L j v ≤ j * m := by
  induction j with
  | zero => simp [cntN]
  | succ j ih =>
    rw [cntN_succ, Nat.succ_mul]
    have : (L j).count v ≤ m := Nat.le_trans List.count_le_length (hm j)
    omega
theorem pendL_le {L : Nat → List Nat} {out : List Nat} {v : Nat} (m : Nat) (hm : ∀ u, (L u).length ≤ m) : ∀ l : List Nat, pendL L out v l ≤ l.length * m
  | [] => by simp [pendL]
  | x :: l => by
    have ih := pendL_le (L := L) (out := out) (v := v) m hm l
    unfold pendL at ih ⊢
    rw [List.map_cons, List.sum_cons, List.length_cons, Nat.succ_mul]
    have : (if x ∈ out then 0 else (L x).count v) ≤ m := by
      split
      · exact Nat.zero_le _
      · exact Nat.le_trans List.count_le_length (hm x)
    omega
theorem pend_le {n : Nat} {L : Nat → List Nat} {out : List Nat} {v : Nat} (m : Nat) (hm : ∀ u, (L u).length ≤ m) : pend n L out v ≤ n * m := by
  have := pendL_le (L := L) (out := out) (v := v) m hm (List.range n)
  rwa [List.length_range] at this
theorem Od.le {n : Nat} {L : Nat → List Nat} {out C R : List Nat} {W : Nat → Nat} (h : Od n L out C W R) (m : Nat) (hm : ∀ u, (L u).length ≤ m) {v : Nat} (hv : v < n) : W v ≤ n * m + R.length := by
  have h1 := h.wdef v hv
  have h2 := pend_le (n := n) (L := L) (out := out) (v := v) m hm
  have h3 : R.count v ≤ R.length := List.count_le_length
  omega
end Rc
namespace Pr
/-- The rows in nb, the counts in yb. -/
structure KO (w wr : World) (nb yb B n : Nat) (L : Nat → List Nat) (R : Nat → Option Addr) (rc : Nat → Nat) (W : Nat → Nat) : Prop where
  rows : NR wr nb B yb n L R rc
  ways : Cel wr yb (wv (fun v => (W v : Int)) n)
  bel : Below yb w wr
  o1 : nb < yb
  o2 : w.heap.size ≤ yb
section
variable {w wr w' : World} {nb yb B n : Nat} {L : Nat → List Nat} {R : Nat → Option Addr} {rc : Nat → Nat} {W : Nat → Nat}
theorem KO.same (h : KO w wr nb yb B n L R rc W) (hos : wr.os = w'.os) (ht : wr.tape = w'.tape) (ho : wr.output = w'.output) (hs : wr.heap.size ≤ w'.heap.size) (hb : ∀ b, b ≤ yb → w'.heap[b]? = wr.heap[b]?) : KO w w' nb yb B n L R rc W := by
  refine ⟨⟨h.rows.low, h.rows.cel.of_block (hb _ (Nat.le_of_lt h.o1)) hs, fun i hi => ⟨(h.rows.own i hi).1.of_block fun a ha => hb _ (Nat.le_of_lt ((h.rows.own i hi).2 a ha)), (h.rows.own i hi).2⟩⟩, h.ways.of_block (hb _ (Nat.le_refl _)) hs,
    h.bel.trans ⟨hos.symm, ht.symm, ho.symm, hs, fun k hk => hb k (Nat.le_of_lt hk)⟩, h.o1, h.o2⟩
theorem KO.below (h : KO w wr nb yb B n L R rc W) (hb : Below wr.heap.size wr w') : KO w w' nb yb B n L R rc W :=
  h.same hb.os.symm hb.tape.symm hb.output.symm hb.size fun b hbl => hb.block b (Nat.lt_of_le_of_lt hbl h.ways.lt)
theorem KO.mv (h : KO w wr nb yb B n L R rc W) {q : Nat} {A A' : Option Addr} (hm : Mv wr w' q A A') (hq : yb < q) (hA : ∀ a, A = some a → yb < a.block) : KO w w' nb yb B n L R rc W :=
  h.same hm.os.symm hm.tape.symm hm.output.symm hm.size fun b hbl => hm.block b (Nat.lt_of_le_of_lt hbl h.ways.lt) (by omega) fun a ha => by have := hA a ha; omega
theorem KO.set (h : KO w wr nb yb B n L R rc W) {v : Nat} (hv : v < n) (x : Nat) : KO w (wr.setCell ⟨yb, v, none⟩ (.int .i64 (x : Int))) nb yb B n L R rc (fun i => if i = v then x else W i) := by
  have hg : wr.grownBy (wr.setCell ⟨yb, v, none⟩ (.int .i64 (x : Int))) (some yb) := grown_setCell wr ⟨yb, v, none⟩ _
  have o1 := h.o1
  refine ⟨⟨h.rows.low, h.rows.cel.kept hg (fun e => by have := Option.some.inj e; omega), fun i hi => ⟨(h.rows.own i hi).1.kept hg (fun a ha e => by have := (h.rows.own i hi).2 a ha; have := Option.some.inj e; omega), (h.rows.own i hi).2⟩⟩, ?_, h.bel.setCell (p := ⟨yb, v, none⟩) (Nat.le_refl _) _, o1, h.o2⟩
  have h1 := h.ways.set (i := v) (by unfold wv; simpa using hv) (.int .i64 (x : Int))
  unfold wv at h1
  rw [set_range] at h1
  have h2 : (fun i => if i = v then Value.int .i64 (x : Int) else .int .i64 (W i : Int)) = fun i => .int .i64 (((if i = v then x else W i : Nat)) : Int) := by
    funext i
    by_cases e : i = v <;> simp [e]
  rw [h2] at h1
  exact h1
end
/-- All of ordered: besides, the heap in block hq, the order in a row of its own. -/
structure KP (w wr : World) (nb yb hq B n : Nat) (L : Nat → List Nat) (R : Nat → Option Addr) (rc : Nat → Nat) (W : Nat → Nat) (A : Option Addr) (m c : Nat) (C : List Nat) (X : Option Addr) (cc : Nat) (out : List Nat) : Prop where
  ko : KO w wr nb yb B n L R rc W
  pl : PL wr (hq + 1) hq A m c C
  ord : OwnK iκ wr (hq + 1) 3 X out.length cc (out.map Int.ofNat)
  ap : ∀ a b, A = some a → X = some b → a.block ≠ b.block
  o3 : yb < hq
section
variable {w wr w' : World} {nb yb hq B n m c cc : Nat} {L : Nat → List Nat} {R : Nat → Option Addr} {rc : Nat → Nat} {W : Nat → Nat} {A A' X : Option Addr} {C out : List Nat}
theorem KP.blockA (h : KP w wr nb yb hq B n L R rc W A m c C X cc out) : ∀ a, A = some a → yb < a.block := fun a ha => by have := (h.pl.own.block ha).1; have := h.o3; omega
theorem KP.below (h : KP w wr nb yb hq B n L R rc W A m c C X cc out) (hb : Below wr.heap.size wr w') : KP w w' nb yb hq B n L R rc W A m c C X cc out :=
  ⟨h.ko.below hb, h.pl.below hb, h.ord.below hb (Nat.le_refl _), h.ap, h.o3⟩
theorem KP.set (h : KP w wr nb yb hq B n L R rc W A m c C X cc out) {v : Nat} (hv : v < n) (x : Nat) : KP w (wr.setCell ⟨yb, v, none⟩ (.int .i64 (x : Int))) nb yb hq B n L R rc (fun i => if i = v then x else W i) A m c C X cc out := by
  have hg : wr.grownBy (wr.setCell ⟨yb, v, none⟩ (.int .i64 (x : Int))) (some yb) := grown_setCell wr ⟨yb, v, none⟩ _
  have o3 := h.o3
  exact ⟨h.ko.set hv x, ⟨h.pl.cel.kept hg (fun e => by have := Option.some.inj e; omega), h.pl.own.kept hg (fun a ha e => by have := (h.pl.own.block ha).1; have := Option.some.inj e; omega), h.pl.ne⟩, h.ord.kept hg (fun a ha e => by have := (h.ord.block ha).1; have := Option.some.inj e; omega), h.ap, o3⟩
theorem KP.mv (h : KP w wr nb yb hq B n L R rc W A m c C X cc out) (hm : Mv wr w' hq A A') {m' c' : Nat} {C' : List Nat} (hp : PL w' (hq + 1) hq A' m' c' C') : KP w w' nb yb hq B n L R rc W A' m' c' C' X cc out := by
  refine ⟨h.ko.mv hm h.o3 h.blockA, hp, h.ord.of_block fun a ha => hm.block _ (h.ord.block ha).2 (by have := (h.ord.block ha).1; omega) fun b hb e => h.ap b a hb ha e, fun a b ha hb => ?_, h.o3⟩
  rcases hm.new a ha with ⟨a0, h1, h2⟩ | h1
  · rw [← h2]; exact h.ap a0 b h1 hb
  · have := (h.ord.block hb).2; omega
theorem KP.app (h : KP w wr nb yb hq B n L R rc W A m c C X cc out) {X' : Option Addr} {c' t : Nat} (hg : Grew wr w' (.slice X out.length cc) (.slice X' (out.length + 1) c')) (ho : OwnK iκ w' (hq + 1) 3 X' (out.length + 1) c' (out.map Int.ofNat ++ [(t : Int)])) :
    KP w w' nb yb hq B n L R rc W A m c C X' c' (out ++ [t]) := by
  have o3 := h.o3
  have hne : ∀ b, (∀ a, X = some a → a.block ≠ b) → (Value.slice X out.length cc).ownBlock ≠ some b := fun b hb => own_ne hb
  have hlo : ∀ b, b ≤ hq → ∀ a, X = some a → a.block ≠ b := fun b hb a ha => by have := (h.ord.block ha).1; omega
  have hsame : ∀ b, b < wr.heap.size → (∀ a, X = some a → a.block ≠ b) → w'.heap[b]? = wr.heap[b]? := fun b hb hx => hg.grown.block b hb (fun e => hne b hx e.symm)
  refine ⟨h.ko.same hg.grown.os.symm hg.grown.tape.symm hg.grown.output.symm hg.grown.size fun b hb => hsame b (Nat.lt_of_le_of_lt hb h.ko.ways.lt) (hlo b (by omega)), ⟨h.pl.cel.of_block (hsame hq h.pl.cel.lt (hlo hq (Nat.le_refl _))) hg.grown.size, h.pl.own.of_block fun a ha => hsame _ (h.pl.own.block ha).2 fun b hb e => h.ap a b ha hb e.symm, h.pl.ne⟩, ?_, fun a b ha hb => ?_, o3⟩
  · rw [List.length_append, List.map_append]
    exact ho
  · rcases grew_block hg ho hb with ⟨b0, h1, h2⟩ | h1
    · rw [← h2]; exact h.ap a b0 ha h1
    · have := (h.pl.own.block ha).2; omega
end
end Pr
end Go.Proofs.Ytjdgloofdafebaa
