/- Rows of variables: what is appended from anywhere; their beginnings and ends. -/
import Derived.Test.YthkgjdhbibialaaDoorVh
namespace Go.Proofs.YthkgjdhbibialaaDoor
open Go.RowKit

theorem append_vars {ops : Array Oper} {rest : List Oper} {o : Oper} {a : Act} {Q : Exit → Act → World → Prop} (hgd : o.guard = none) (s x : Operand)
    (ho : o.op = .call { callee := .builtin .append, args := #[s, x], argTypes := #[22, 22] })
    (w : World) (base B : Nat) (A : Option Addr) (n c : Nat) (l : List Vr.V) (C : Option Addr) (m cc : Nat) (k : List Vr.V) (hs : a.eval s = .slice A n c) (hown : OwnVars w base 45 A n c l)
    (hx : a.eval x = .slice C m cc) (hC : C = none → m = 0 ∧ cc = 0) (hr : VRow w B C m k) (hn : n ≤ 1000000) (hm : m ≤ 1000000) (hbase : base ≤ w.heap.size)
    (h : ∀ A' c' w', OwnVars w' base 45 A' (n + m) c' (l ++ k) → Grew w w' (.slice A n c) (.slice A' (n + m) c') → wpList Tryd.prog ops Q rest (a.put o.dst (.slice A' (n + m) c')) w') :
    wpList Tryd.prog ops Q (o :: rest) a w := by
  obtain ⟨i0, hi0, hz0, hz1, hz2⟩ := info_parts info_var
  refine append_row hgd s x _ ho 45 i0 _ 4 48 Tryd.underlying22 hi0 hz0 hz1 hz2 rfl (by decide) base _ n (l.flatMap Vr.V.cells) hs hown B C m cc (k.flatMap Vr.V.cells) hx hC hr (flat4_one k) (by unfold maxLen; omega) (by omega) hbase fun v' w' h1 h2 h3 => ?_
  obtain ⟨A', c', rfl, _⟩ := own_form h1
  refine h A' c' w' (by unfold OwnVars; rw [List.flatMap_append]; exact h1) ⟨h2, fun g hg => ?_⟩
  rcases h3 with h3 | h3
  · exact .inl (h3.symm.trans hg)
  · rw [h3] at hg
    obtain rfl := Option.some.inj hg
    exact .inr (Nat.le_refl _)

theorem step_append_var {ops : Array Oper} {o : Oper} {a : Act} {K : Act → World → Prop} {Q : Exit → Act → World → Prop} {E : Prop} (hgd : o.guard = none) (s x : Operand)
    (ho : o.op = .call { callee := .builtin .append, args := #[s, x], argTypes := #[22, 22] })
    (w : World) (base B : Nat) (A : Option Addr) (n c : Nat) (l : List Vr.V) (ad : Addr) (v : Vr.V) (hs : a.eval s = .slice A n c) (hown : OwnVars w base 45 A n c l)
    (hx : a.eval x = .slice (some ad) 1 1) (hr : VRow w B (some ad) 1 [v]) (hn : n ≤ 1000000) (hbase : base ≤ w.heap.size)
    (h : ∀ A' c' w', OwnVars w' base 45 A' (n + 1) c' (l ++ [v]) → Below base w w' → K (a.put o.dst (.slice A' (n + 1) c')) w') :
    if Region.wanted o (yielded ops a.tmps) = true then Oper.wp Tryd.prog o a w K Q else E := by
  obtain ⟨i0, hi0, hz0, hz1, hz2⟩ := info_parts info_var
  have hw : Region.wanted o (yielded ops a.tmps) = true := by simp [Region.wanted, hgd]
  rw [if_pos hw]
  obtain ⟨b, off, he, _, hc⟩ := hr.2 (by omega)
  obtain rfl := Option.some.inj he
  obtain ⟨v', w', hrun, h1, h2, _, _⟩ := Go.run_append_own_at (P := Tryd.prog) (w := w) base 22 o.type 45 i0 _ 4 48 Tryd.underlying22 hi0 hz0 hz1 hz2 rfl (by decide) (.slice A n c) n (l.flatMap Vr.V.cells) hown ⟨b, off, none⟩ 1 1 ([v].flatMap Vr.V.cells) hr.1 (fun j u hu => (congrArg w.cell? (addr_add b off j)).trans (hc j u hu)) (flat4_one [v]) (by unfold maxLen; omega) (by omega) hbase
  obtain ⟨A', c', rfl, _⟩ := own_form h1
  unfold Oper.wp execOp
  simp only [ho, resolve, invoke, builtin, Sem.run_bind, Sem.run_pure, Result.andThen_ok, List.map_toArray, List.map_cons, List.map_nil, hs, hx, hrun]
  exact h A' c' w' (by unfold OwnVars; rw [List.flatMap_append]; exact h1) ((Below.refl _ _).grown h2 hbase fun k hk => (hown.lt k hk).1)

section
variable {w : World} {B n : Nat} {l : List Vr.V}
theorem VRow.take {A : Option Addr} (h : VRow w B A n l) {t : Nat} (ht : t ≤ n) : VRow w B A t (l.take t) := by
  have hl := h.len
  refine ⟨by rw [flat4_len, List.length_take]; omega, fun h0 => ?_⟩
  obtain ⟨b, off, rfl, hb, hc⟩ := h.2 (by omega)
  refine ⟨b, off, rfl, hb, fun k v hv => hc k v ?_⟩
  rw [Vr.flat_take, List.getElem?_take] at hv
  split at hv
  · exact hv
  · cases hv
theorem VRow.drop {b off : Nat} (h : VRow w B (some ⟨b, off, none⟩) n l) {t : Nat} (ht : t ≤ n) : VRow w B (some ⟨b, off + t * 4, none⟩) (n - t) (l.drop t) := by
  have hl := h.len
  refine ⟨by rw [flat4_len, List.length_drop]; omega, fun h0 => ?_⟩
  obtain ⟨b', off', he, hb, hc⟩ := h.2 (by omega)
  injection he with he
  injection he with e1 e2
  subst e1; subst e2
  refine ⟨_, _, rfl, hb, fun k v hv => ?_⟩
  rw [Vr.flat_drop, List.getElem?_drop] at hv
  rw [Nat.add_assoc]
  exact hc (t * 4 + k) v hv
end
theorem OwnVars.other {w : World} {base n c : Nat} {e : TypeId} {A : Option Addr} {l : List Vr.V} (h : OwnVars w base e A n c l) {p : Addr} (hp : p.block < base) (u : Value) : OwnVars (w.setCell p u) base e A n c l :=
  World.ownsRow.kept h (grown_setCell w p u) (by
    cases hb : (Value.slice A n c).ownBlock with
    | none => exact .inl rfl
    | some g =>
      refine .inr fun e => ?_
      have h1 := Option.some.inj e
      have h2 := (h.lt g hb).1
      omega)
end Go.Proofs.YthkgjdhbibialaaDoor
