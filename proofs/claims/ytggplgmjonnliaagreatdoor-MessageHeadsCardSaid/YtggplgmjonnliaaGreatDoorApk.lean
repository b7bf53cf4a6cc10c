/- A row appended to a row of one's own; a part of a row. -/
import Derived.Test.YtggplgmjonnliaaGreatDoorGq
namespace Go.Proofs.YtggplgmjonnliaaGreatDoor
open Go.RowKit

section
variable {P : Program} {α : Type} {κ : Cs α}
/-- A row appended to a row of one's own. -/
theorem append_kc {ops : Array Oper} {rest : List Oper} {o : Oper} {a : Act} {Q : Exit → Act → World → Prop} (hgd : o.guard = none) (s x : Operand) (t e : TypeId) (i : TypeInfo) (z : Value) (bytes : Nat)
    (ht : P.underlying t = some (.slice e)) (hi : P.info? e = some i) (hz : i.zero = some z) (hsize : i.size = κ.k) (hby : i.bytes = bytes) (hzs : z.cells.size = κ.k)
    (ho : o.op = .call { callee := .builtin .append, args := #[s, x], argTypes := #[t, t] })
    (w : World) (base B : Nat) (A : Option Addr) (n c : Nat) (l : List α) (A2 : Option Addr) (m c2 : Nat) (vs : List α) (hs : a.eval s = .slice A n c) (hown : OwnK κ w base e A n c l)
    (hx : a.eval x = .slice A2 m c2) (hA : A2 = none → m = 0 ∧ c2 = 0) (hr : KRow κ w B A2 m vs) (hn : n ≤ 1000000) (hm : m ≤ 1000000) (hb : bytes ≤ 1000) (hbase : base ≤ w.heap.size)
    (h : ∀ A' c' w', OwnK κ w' base e A' (n + m) c' (l ++ vs) → Grew w w' (.slice A n c) (.slice A' (n + m) c') → wpList P ops Q rest (a.put o.dst (.slice A' (n + m) c')) w') :
    wpList P ops Q (o :: rest) a w := by
  have hbb : (n + m) * bytes ≤ 140737488355328 := Nat.le_trans (Nat.mul_le_mul (show n + m ≤ 2000000 by omega) hb) (by decide)
  refine append_row hgd s x t ho e i z κ.k bytes ht hi hz hsize hby hzs hown.1 base _ n (l.flatMap κ.cs) hs hown.2 B A2 m c2 (vs.flatMap κ.cs) hx hA hr (Cs.flat_one κ vs) (by unfold maxLen; omega) hbb hbase fun v' w' h1 h2 h3 => ?_
  obtain ⟨A', c', rfl, _⟩ := own_form h1
  refine h A' c' w' ⟨hown.1, by rw [List.flatMap_append]; exact h1⟩ ⟨h2, fun g hg => ?_⟩
  rcases h3 with h3 | h3
  · exact .inl (h3.symm.trans hg)
  · rw [h3] at hg
    obtain rfl := Option.some.inj hg
    exact .inr (Nat.le_refl _)
/-- The run, of a row that has a place: what is not nil does not become nil. -/
theorem run_append_kd (t ty e : TypeId) (i : TypeInfo) (z : Value) (bytes : Nat)
    (ht : P.underlying t = some (.slice e)) (hi : P.info? e = some i) (hz : i.zero = some z) (hsize : i.size = κ.k) (hby : i.bytes = bytes) (hzs : z.cells.size = κ.k)
    (w : World) (base B : Nat) (A : Option Addr) (n c : Nat) (l : List α) (ad : Addr) (m c2 : Nat) (vs : List α) (hown : OwnK κ w base e A n c l)
    (hr : KRow κ w B (some ad) m vs) (hn : n ≤ 1000000) (hm : m ≤ 1000000) (hb : bytes ≤ 1000) (hbase : base ≤ w.heap.size) :
    ∃ A' c' w', (Builtin.append_ #[t, t] ty #[.slice A n c, .slice (some ad) m c2]).run P w = .ok (.slice A' (n + m) c') w' ∧ OwnK κ w' base e A' (n + m) c' (l ++ vs) ∧ Grew w w' (.slice A n c) (.slice A' (n + m) c') ∧ (A ≠ none → A' ≠ none) := by
  have hbb : (n + m) * bytes ≤ 140737488355328 := Nat.le_trans (Nat.mul_le_mul (show n + m ≤ 2000000 by omega) hb) (by decide)
  obtain ⟨v', w', hrun, h1, h2, h4, h3⟩ := Go.run_append_own_at (P := P) (w := w) base t ty e i z κ.k bytes ht hi hz hsize hby hzs hown.1 (.slice A n c) n (l.flatMap κ.cs) hown.2 ad m c2 (vs.flatMap κ.cs) hr.1 (fun j u hu => by
    rcases Nat.eq_zero_or_pos m with h0 | h0
    · have hn : vs.flatMap κ.cs = [] := List.eq_nil_of_length_eq_zero (by rw [hr.1, h0]; simp)
      rw [hn] at hu; simp at hu
    · obtain ⟨b, off, he, _, hc⟩ := hr.2 h0
      obtain rfl := Option.some.inj he
      exact (congrArg w.cell? (addr_add b off j)).trans (hc j u hu)) (Cs.flat_one κ vs) (by unfold maxLen; omega) hbb hbase
  obtain ⟨A', c', rfl, hz'⟩ := own_form h1
  refine ⟨A', c', w', hrun, ⟨hown.1, by rw [List.flatMap_append]; exact h1⟩, ⟨h2, fun g hg => ?_⟩, fun hA e => ?_⟩
  · rcases h3 with h3 | h3
    · exact .inl (h3.symm.trans hg)
    · rw [h3] at hg
      obtain rfl := Option.some.inj hg
      exact .inr (Nat.le_refl _)
  · subst e
    obtain ⟨e1, e2⟩ := hz' rfl
    rw [e1, e2] at h4
    have := (h4.1 rfl).1
    injection this with e3
    exact hA e3
theorem append_kd {ops : Array Oper} {rest : List Oper} {o : Oper} {a : Act} {Q : Exit → Act → World → Prop} (hgd : o.guard = none) (s x : Operand) (t e : TypeId) (i : TypeInfo) (z : Value) (bytes : Nat)
    (ht : P.underlying t = some (.slice e)) (hi : P.info? e = some i) (hz : i.zero = some z) (hsize : i.size = κ.k) (hby : i.bytes = bytes) (hzs : z.cells.size = κ.k)
    (ho : o.op = .call { callee := .builtin .append, args := #[s, x], argTypes := #[t, t] })
    (w : World) (base B : Nat) (A : Option Addr) (n c : Nat) (l : List α) (A2 : Option Addr) (m c2 : Nat) (vs : List α) (hs : a.eval s = .slice A n c) (hown : OwnK κ w base e A n c l)
    (hx : a.eval x = .slice A2 m c2) (hA : A2 = none → m = 0 ∧ c2 = 0) (hr : KRow κ w B A2 m vs) (hn : n ≤ 1000000) (hm : m ≤ 1000000) (hb : bytes ≤ 1000) (hbase : base ≤ w.heap.size)
    (h : ∀ A' c' w', OwnK κ w' base e A' (n + m) c' (l ++ vs) → Grew w w' (.slice A n c) (.slice A' (n + m) c') → (A ≠ none → A' ≠ none) → wpList P ops Q rest (a.put o.dst (.slice A' (n + m) c')) w') :
    wpList P ops Q (o :: rest) a w := by
  cases A2 with
  | none =>
    obtain ⟨rfl, rfl⟩ := hA rfl
    obtain rfl : vs = [] := List.eq_nil_of_length_eq_zero (hr.len hown.1)
    exact wpList_append_own_none hgd s x t ho base e i κ.k ht hi (.slice A n c) n (l.flatMap κ.cs) hs hown.2 hx (h A c w (by simpa using hown) (Grew.refl _ _) id)
  | some ad =>
    obtain ⟨A', c', w', hrun, h1, h2, h3⟩ := run_append_kd (P := P) t o.type e i z bytes ht hi hz hsize hby hzs w base B A n c l ad m c2 vs hown hr hn hm hb hbase
    refine wpList_plain hgd fun K hK => ?_
    unfold Oper.wp execOp
    simp only [ho, resolve, invoke, builtin, Sem.run_bind, Sem.run_pure, Result.andThen_ok, List.map_toArray, List.map_cons, List.map_nil, hs, hx, hrun]
    exact hK _ _ (h A' c' w' h1 h2 h3)
/-- The same at a step of a region of open order. -/
theorem step_append_kd {ops : Array Oper} {o : Oper} {a : Act} {K : Act → World → Prop} {Q : Exit → Act → World → Prop} {E : Prop} (hgd : o.guard = none) (s x : Operand) (t e : TypeId) (i : TypeInfo) (z : Value) (bytes : Nat)
    (ht : P.underlying t = some (.slice e)) (hi : P.info? e = some i) (hz : i.zero = some z) (hsize : i.size = κ.k) (hby : i.bytes = bytes) (hzs : z.cells.size = κ.k)
    (ho : o.op = .call { callee := .builtin .append, args := #[s, x], argTypes := #[t, t] })
    (w : World) (base B : Nat) (A : Option Addr) (n c : Nat) (l : List α) (ad : Addr) (m c2 : Nat) (vs : List α) (hs : a.eval s = .slice A n c) (hown : OwnK κ w base e A n c l)
    (hx : a.eval x = .slice (some ad) m c2) (hr : KRow κ w B (some ad) m vs) (hn : n ≤ 1000000) (hm : m ≤ 1000000) (hb : bytes ≤ 1000) (hbase : base ≤ w.heap.size)
    (h : ∀ A' c' w', OwnK κ w' base e A' (n + m) c' (l ++ vs) → Grew w w' (.slice A n c) (.slice A' (n + m) c') → (A ≠ none → A' ≠ none) → K (a.put o.dst (.slice A' (n + m) c')) w') :
    if Region.wanted o (yielded ops a.tmps) = true then Oper.wp P o a w K Q else E := by
  have hw : Region.wanted o (yielded ops a.tmps) = true := by simp [Region.wanted, hgd]
  rw [if_pos hw]
  obtain ⟨A', c', w', hrun, h1, h2, h3⟩ := run_append_kd (P := P) t o.type e i z bytes ht hi hz hsize hby hzs w base B A n c l ad m c2 vs hown hr hn hm hb hbase
  unfold Oper.wp execOp
  simp only [ho, resolve, invoke, builtin, Sem.run_bind, Sem.run_pure, Result.andThen_ok, List.map_toArray, List.map_cons, List.map_nil, hs, hx, hrun]
  exact h A' c' w' h1 h2 h3
/-- A part of a row. -/
theorem KRow.slice {w : World} {B n b off : Nat} {l : List α} (h : KRow κ w B (some ⟨b, off, none⟩) n l) (hk : 0 < κ.k) {i m : Nat} (hi : i + m ≤ n) : KRow κ w B (some ⟨b, off + i * κ.k, none⟩) m ((l.drop i).take m) := by
  have hl := h.len hk
  refine ⟨by rw [Cs.flat_len, List.length_take, List.length_drop]; congr 1; omega, fun hm => ?_⟩
  obtain ⟨b', off', he, hb, hc⟩ := h.2 (by omega)
  injection he with he
  injection he with e1 e2
  subst e1; subst e2
  refine ⟨b, off + i * κ.k, rfl, hb, fun k v hv => ?_⟩
  have h2 : (l.flatMap κ.cs)[i * κ.k + k]? = some v := by
    have e : l.flatMap κ.cs = (l.take i).flatMap κ.cs ++ (((l.drop i).take m).flatMap κ.cs ++ ((l.drop i).drop m).flatMap κ.cs) := by
      rw [← List.flatMap_append, List.take_append_drop, ← List.flatMap_append, List.take_append_drop]
    have ei : ((l.take i).flatMap κ.cs).length = i * κ.k := by rw [Cs.flat_len, List.length_take]; congr 1; omega
    rw [e, List.getElem?_append_right (by rw [ei]; omega), ei, Nat.add_sub_cancel_left]
    obtain ⟨hkl, _⟩ := List.getElem?_eq_some_iff.1 hv
    rw [List.getElem?_append_left hkl]
    exact hv
  rw [Nat.add_assoc]
  exact hc _ v h2
end
end Go.Proofs.YtggplgmjonnliaaGreatDoor
