/- Rows of structs of one's own: what is appended; a cell that is written; beside others. -/
import Derived.Test.YtggplgmjonnliaaGreatDoorGk
import Derived.Test.YtggplgmjonnliaaGreatDoorCel
import Derived.Maps.AppendAt
namespace Go.Proofs.YtggplgmjonnliaaGreatDoor
open Go.RowKit

section
variable {α : Type} {κ : Cs α} {w w' : World} {base n c : Nat} {e : TypeId} {A : Option Addr} {l : List α}
theorem OwnK.block (h : OwnK κ w base e A n c l) {a : Addr} (ha : A = some a) : base ≤ a.block ∧ a.block < w.heap.size := by
  rcases h.2.2 with ⟨hv, h0⟩ | ⟨g, cap, cur, hv, hg, hh, _⟩
  · injection hv with h1; subst h1; cases ha
  · injection hv with h1
    subst h1
    obtain rfl := Option.some.inj ha
    exact ⟨hg, blk_lt hh⟩
/-- Kept, where what changes is another block. -/
theorem OwnK.kept (h : OwnK κ w base e A n c l) {row : Option Nat} (hg : w.grownBy w' row) (hne : ∀ a, A = some a → row ≠ some a.block) : OwnK κ w' base e A n c l :=
  ⟨h.1, World.ownsRow.kept h.2 hg (by
    rcases h.2.2 with ⟨hv, h0⟩ | ⟨g, cap, cur, hv, _⟩
    · injection hv with h1; subst h1; exact .inl rfl
    · injection hv with h1
      subst h1
      exact .inr (fun e => hne _ rfl e.symm))⟩
/-- Where an append goes: its block, or a new one. -/
theorem grew_block {A' : Option Addr} {n' c' : Nat} (h : Grew w w' (.slice A n c) (.slice A' n' c')) {κ' : Cs α} {l' : List α} {base' : Nat} (ho : OwnK κ' w' base' e A' n' c' l') {a' : Addr} (ha : A' = some a') :
    (∃ a, A = some a ∧ a.block = a'.block) ∨ w.heap.size ≤ a'.block := by
  have key : (Value.slice A' n' c').ownBlock = some a'.block := by
    rcases ho.2.2 with ⟨hv, h0⟩ | ⟨g, cap, cur, hv, _⟩
    · injection hv with h1; subst h1; cases ha
    · injection hv with h1; subst h1; obtain rfl := Option.some.inj ha; rfl
  rcases h.block _ key with h1 | h1
  · refine .inl ?_
    cases A with
    | none => cases h1
    | some a =>
      exact ⟨a, rfl, Option.some.inj h1⟩
  · exact .inr h1
end
section
variable {α : Type} {κ : Cs α} {P : Program}
theorem step_append_k {ops : Array Oper} {o : Oper} {a : Act} {K : Act → World → Prop} {Q : Exit → Act → World → Prop} {E : Prop} (hgd : o.guard = none) (s x : Operand) (t e : TypeId) (i : TypeInfo) (z : Value) (bytes : Nat)
    (ht : P.underlying t = some (.slice e)) (hi : P.info? e = some i) (hz : i.zero = some z) (hsize : i.size = κ.k) (hby : i.bytes = bytes) (hzs : z.cells.size = κ.k)
    (ho : o.op = .call { callee := .builtin .append, args := #[s, x], argTypes := #[t, t] })
    (w : World) (base B : Nat) (A : Option Addr) (n c : Nat) (l : List α) (ad : Addr) (v : α) (hs : a.eval s = .slice A n c) (hown : OwnK κ w base e A n c l)
    (hx : a.eval x = .slice (some ad) 1 1) (hr : KRow κ w B (some ad) 1 [v]) (hn : n ≤ 1000000) (hb : bytes ≤ 1000) (hbase : base ≤ w.heap.size)
    (h : ∀ A' c' w', OwnK κ w' base e A' (n + 1) c' (l ++ [v]) → Grew w w' (.slice A n c) (.slice A' (n + 1) c') → K (a.put o.dst (.slice A' (n + 1) c')) w') :
    if Region.wanted o (yielded ops a.tmps) = true then Oper.wp P o a w K Q else E := by
  have hw : Region.wanted o (yielded ops a.tmps) = true := by simp [Region.wanted, hgd]
  rw [if_pos hw]
  obtain ⟨b, off, he, _, hc⟩ := hr.2 (by omega)
  obtain rfl := Option.some.inj he
  have hbb : (n + 1) * bytes ≤ 140737488355328 := Nat.le_trans (Nat.mul_le_mul (Nat.succ_le_succ hn) hb) (by decide)
  obtain ⟨v', w', hrun, h1, h2, _, h3⟩ := Go.run_append_own_at (P := P) (w := w) base t o.type e i z κ.k bytes ht hi hz hsize hby hzs hown.1 (.slice A n c) n (l.flatMap κ.cs) hown.2 ⟨b, off, none⟩ 1 1 ([v].flatMap κ.cs) hr.1 (fun j u hu => (congrArg w.cell? (addr_add b off j)).trans (hc j u hu)) (Cs.flat_one κ [v]) (by unfold maxLen; omega) hbb hbase
  obtain ⟨A', c', rfl, _⟩ := own_form h1
  unfold Oper.wp execOp
  simp only [ho, resolve, invoke, builtin, Sem.run_bind, Sem.run_pure, Result.andThen_ok, List.map_toArray, List.map_cons, List.map_nil, hs, hx, hrun]
  refine h A' c' w' ⟨hown.1, by rw [List.flatMap_append]; exact h1⟩ ⟨h2, fun g hg => ?_⟩
  rcases h3 with h3 | h3
  · exact .inl (h3.symm.trans hg)
  · rw [h3] at hg
    obtain rfl := Option.some.inj hg
    exact .inr (Nat.le_refl _)
theorem append_k {ops : Array Oper} {rest : List Oper} {o : Oper} {a : Act} {Q : Exit → Act → World → Prop} (hgd : o.guard = none) (s x : Operand) (t e : TypeId) (i : TypeInfo) (z : Value) (bytes : Nat)
    (ht : P.underlying t = some (.slice e)) (hi : P.info? e = some i) (hz : i.zero = some z) (hsize : i.size = κ.k) (hby : i.bytes = bytes) (hzs : z.cells.size = κ.k)
    (ho : o.op = .call { callee := .builtin .append, args := #[s, x], argTypes := #[t, t] })
    (w : World) (base B : Nat) (A : Option Addr) (n c : Nat) (l : List α) (ad : Addr) (v : α) (hs : a.eval s = .slice A n c) (hown : OwnK κ w base e A n c l)
    (hx : a.eval x = .slice (some ad) 1 1) (hr : KRow κ w B (some ad) 1 [v]) (hn : n ≤ 1000000) (hb : bytes ≤ 1000) (hbase : base ≤ w.heap.size)
    (h : ∀ A' c' w', OwnK κ w' base e A' (n + 1) c' (l ++ [v]) → Grew w w' (.slice A n c) (.slice A' (n + 1) c') → wpList P ops Q rest (a.put o.dst (.slice A' (n + 1) c')) w') :
    wpList P ops Q (o :: rest) a w := by
  have hbb : (n + 1) * bytes ≤ 140737488355328 := Nat.le_trans (Nat.mul_le_mul (Nat.succ_le_succ hn) hb) (by decide)
  refine append_row hgd s x t ho e i z κ.k bytes ht hi hz hsize hby hzs hown.1 base _ n (l.flatMap κ.cs) hs hown.2 B (some ad) 1 1 ([v].flatMap κ.cs) hx (fun h => by cases h) hr (Cs.flat_one κ [v]) (by unfold maxLen; omega) hbb hbase fun v' w' h1 h2 h3 => ?_
  obtain ⟨A', c', rfl, _⟩ := own_form h1
  refine h A' c' w' ⟨hown.1, by rw [List.flatMap_append]; exact h1⟩ ⟨h2, fun g hg => ?_⟩
  rcases h3 with h3 | h3
  · exact .inl (h3.symm.trans hg)
  · rw [h3] at hg
    obtain rfl := Option.some.inj hg
    exact .inr (Nat.le_refl _)
end
end Go.Proofs.YtggplgmjonnliaaGreatDoor
