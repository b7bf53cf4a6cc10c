/- Mathematics of processes: what is amiss with one; that those out of few numbers may be. -/
import Derived.Test.YtjdgloofdafebaaYReachSays2
namespace Go.Proofs.Ytjdgloofdafebaa
open Go.RowKit

namespace Pr
/-- The flows from, to a node. -/
def outsL (p : P) (i : Nat) : List Nat := (List.range p.m).filter fun j => (p.flows[j]!).frm == (i : Int)
def insL (p : P) (i : Nat) : List Nat := (List.range p.m).filter fun j => (p.flows[j]!).til == (i : Int)
def within (x lo hi : Int) : Bool := decide (lo ≤ x) && decide (x ≤ hi)
/-- What a text is amiss as a condition. -/
def condBad (c : ByteArray) : Int := match Co.parse c.data.toList with
  | some (_, some (e, _)) => e
  | some (_, none) => 0
  | none => -1
def flowBad (p : P) (f : Fl) : Int :=
  if (within f.frm 0 (p.n - 1) && within f.til 0 (p.n - 1)) = false then 107
  else if f.cond.size = 0 then 0
  else if (p.nodes[f.frm.toNat]!).kind ≠ 5 ∧ (p.nodes[f.frm.toNat]!).kind ≠ 7 then 102
  else condBad f.cond
def shaped (p : P) (i : Nat) : Bool :=
  let x := p.nodes[i]!
  let a := (insL p i).length
  let b := (outsL p i).length
  if (x.kind == 1) != (i == 0) then false
  else if x.kind = 1 then a == 0 && b == 1
  else if x.kind = 2 ∨ x.kind = 3 then decide (0 < a) && b == 0
  else if x.kind = 4 then decide (0 < a) && (b == 1 && x.caught.size == 0 || b == 2 && decide (0 < x.caught.size))
  else if x.kind = 5 ∨ x.kind = 6 ∨ x.kind = 7 then decide (0 < a) && decide (0 < b)
  else false
def nm (s : ByteArray) : Bool := Vr.name s.toList
def has (l : List Nat) (x : Int) : Bool := l.any fun j => (j : Int) == x
def nodeBad (p : P) (i : Nat) : Int :=
  let x := p.nodes[i]!
  let wk := x.kind == 4
  let gate := x.kind == 5 || x.kind == 7
  if shaped p i = false then 102
  else if (wk && !nm x.topic || !wk && decide (0 < x.topic.size) || x.kind == 3 && !nm x.code || !(x.kind == 3) && decide (0 < x.code.size) || decide (0 < x.caught.size) && (!wk || !nm x.caught)) = true then 106
  else if (wk && (!within x.prio 0 9 || !within x.retr 1 9) || !wk && (!(x.prio == 0) || !(x.retr == 0))) = true then 107
  else if (!(x.dflt == -1) && (!gate || !has (outsL p i) x.dflt) || x.caught.size == 0 && !(x.tgt == -1) || decide (0 < x.caught.size) && !has (outsL p i) x.tgt) = true then 102
  else 0
/-- What is amiss first, and where. -/
def check (p : P) : Int × Option Nat :=
  if nm p.name = false then (106, none)
  else if (within p.n 2 30 && decide (p.m ≤ 60)) = false then (104, none)
  else match (List.range p.m).find? (fun j => !(flowBad p p.flows[j]! == 0)) with
    | some j => (flowBad p p.flows[j]!, some (100 + j))
    | none => match (List.range p.n).find? (fun i => !(nodeBad p i == 0)) with
      | some i => (nodeBad p i, some i)
      | none => (0, none)

/-- How many flows lead from, to a node. -/
def cO (p : P) (i : Nat) : Nat := p.flows.countP fun f => f.frm == (i : Int)
def cI (p : P) (i : Nat) : Nat := p.flows.countP fun f => f.til == (i : Int)
theorem countP_range {α : Type} [Inhabited α] (l : List α) (q : α → Bool) : ((List.range l.length).filter fun j => q l[j]!).length = l.countP q := by
  have h : l = (List.range l.length).map fun j => l[j]! := by
    apply List.ext_getElem
    · simp
    · intro i h1 h2
      simp [h1]
  conv => rhs; rw [h]
  rw [List.countP_map, List.countP_eq_length_filter]
  rfl
theorem outs_len (p : P) (i : Nat) : (outsL p i).length = cO p i := countP_range p.flows fun f => f.frm == (i : Int)
theorem ins_len (p : P) (i : Nat) : (insL p i).length = cI p i := countP_range p.flows fun f => f.til == (i : Int)
theorem has_of {p : P} {i j : Nat} (hj : j < p.m) (h : (p.flows[j]!).frm = (i : Int)) : has (outsL p i) (j : Int) = true := by
  unfold has
  rw [List.any_eq_true]
  refine ⟨j, ?_, by simp⟩
  unfold outsL
  rw [List.mem_filter]
  exact ⟨List.mem_range.2 hj, beq_iff_eq.2 h⟩
/-- A node's own fields. -/
structure FieldOk (x : Nd) : Prop where
  kind : x.kind = 1 ∨ x.kind = 2 ∨ x.kind = 4 ∨ x.kind = 5 ∨ x.kind = 6 ∨ x.kind = 7
  wk : x.kind = 4 → nm x.topic = true ∧ within x.prio 0 9 = true ∧ within x.retr 1 9 = true
  nowk : x.kind ≠ 4 → x.topic = no ∧ x.prio = 0 ∧ x.retr = 0
  code : x.code = no
  caught : x.caught = no ∨ (x.kind = 4 ∧ x.caught = bs [99, 97, 117, 103, 104, 116])
/-- A node's flows: so many are owed. -/
structure OutOk (p : P) (i : Nat) (o : Nat) : Prop where
  start : (p.nodes[i]!).kind = 1 → cO p i + o = 1
  fin : (p.nodes[i]!).kind = 2 → cO p i = 0
  wk0 : (p.nodes[i]!).kind = 4 → (p.nodes[i]!).caught = no → cO p i + o = 1
  wk1 : (p.nodes[i]!).kind = 4 → (p.nodes[i]!).caught ≠ no → cO p i + o = 2 ∧ ∃ j : Nat, j < p.m ∧ (p.nodes[i]!).tgt = j ∧ (p.flows[j]!).frm = (i : Int)
  gate : ((p.nodes[i]!).kind = 5 ∨ (p.nodes[i]!).kind = 6 ∨ (p.nodes[i]!).kind = 7) → 0 < cO p i + o
  dflt : (p.nodes[i]!).dflt = -1 ∨ (((p.nodes[i]!).kind = 5 ∨ (p.nodes[i]!).kind = 7) ∧ ∃ j : Nat, j < p.m ∧ (p.nodes[i]!).dflt = j ∧ (p.flows[j]!).frm = (i : Int))
  tgt : (p.nodes[i]!).caught = no → (p.nodes[i]!).tgt = -1
structure FlowOk (p : P) (f : Fl) : Prop where
  ends : ∃ a b : Nat, f.frm = a ∧ f.til = b ∧ a < p.n ∧ b < p.n ∧ 0 < b
  cond : f.cond = no ∨ (((p.nodes[f.frm.toNat]!).kind = 5 ∨ (p.nodes[f.frm.toNat]!).kind = 7) ∧ ∃ k : Int, f.cond = bs (conds k))
/-- A process under way: o is owed, no way leads to I yet. -/
structure Inv (p : P) (o : Nat → Nat) (I : Nat → Prop) : Prop where
  pos : 0 < p.n
  start : ∀ i, i < p.n → ((p.nodes[i]!).kind = 1 ↔ i = 0)
  flow : ∀ f ∈ p.flows, FlowOk p f
  field : ∀ i, i < p.n → FieldOk (p.nodes[i]!)
  ins : ∀ i, 0 < i → i < p.n → ¬ I i → 0 < cI p i
  outs : ∀ i, i < p.n → OutOk p i (o i)
theorem Inv.mono {p : P} {o o' : Nat → Nat} {I I' : Nat → Prop} (h : Inv p o I) (ho : ∀ i, i < p.n → o i = o' i) (hI : ∀ i, i < p.n → I i → I' i) : Inv p o' I' :=
  ⟨h.pos, h.start, h.flow, h.field, fun i h0 hi hn => h.ins i h0 hi fun hh => hn (hI i hi hh), fun i hi => by rw [← ho i hi]; exact h.outs i hi⟩
section
variable {p : P} {o : Nat → Nat} {I : Nat → Prop}
theorem node_n (x : Nd) : (p.node x).n = p.n + 1 := by simp [P.node, P.n]
theorem node_old (x : Nd) {i : Nat} (h : i < p.n) : (p.node x).nodes[i]! = p.nodes[i]! := by
  have h' : i < p.nodes.length := h
  simp [P.node, List.getElem!_eq_getElem?_getD, List.getElem?_append_left h']
theorem node_new (x : Nd) : (p.node x).nodes[p.n]! = { x with dflt := -1, tgt := -1 } := by
  simp [P.node, P.n]
theorem cO_far (h : ∀ f ∈ p.flows, FlowOk p f) {i : Nat} (hi : p.n ≤ i) : cO p i = 0 := by
  unfold cO
  rw [List.countP_eq_zero]
  intro f hf
  obtain ⟨a, b, h1, _, h3, _⟩ := (h f hf).ends
  rw [h1]
  simp
  omega
theorem FlowOk.node {f : Fl} (h : FlowOk p f) (x : Nd) : FlowOk (p.node x) f := by
  obtain ⟨a, b, h1, h2, h3, h4, h5⟩ := h.ends
  refine ⟨⟨a, b, h1, h2, by rw [node_n]; omega, by rw [node_n]; omega, h5⟩, ?_⟩
  have : f.frm.toNat < p.n := by omega
  rw [node_old x this]
  exact h.cond
/-- How many flows a fresh node owes. -/
def need (x : Nd) : Nat := if x.kind = 2 then 0 else 1
theorem Inv.node (h : Inv p o I) (x : Nd) (hx : FieldOk x) (hk : x.kind ≠ 1) (hc : x.caught = no) :
    Inv (p.node x) (fun i => if i = p.n then need x else o i) (fun i => i = p.n ∨ I i) where
  pos := by rw [node_n]; omega
  start i hi := by
    rw [node_n] at hi
    by_cases he : i = p.n
    · subst he
      rw [node_new]
      have := h.pos
      constructor
      · intro h1; exact absurd h1 hk
      · intro h1; omega
    · rw [node_old x (by omega)]; exact h.start i (by omega)
  flow f hf := (h.flow f hf).node x
  field i hi := by
    rw [node_n] at hi
    by_cases he : i = p.n
    · subst he; rw [node_new]; exact ⟨hx.kind, hx.wk, hx.nowk, hx.code, hx.caught⟩
    · rw [node_old x (by omega)]; exact h.field i (by omega)
  ins i h0 hi hn := by
    rw [node_n] at hi
    have he : i ≠ p.n := fun e => hn (.inl e)
    exact h.ins i h0 (by omega) fun hh => hn (.inr hh)
  outs i hi := by
    rw [node_n] at hi
    by_cases he : i = p.n
    · subst he
      rw [if_pos rfl]
      have hz : cO (p.node x) p.n = 0 := cO_far (p := p) h.flow (Nat.le_refl _)
      have hnew : (p.node x).nodes[p.n]! = { x with dflt := -1, tgt := -1 } := node_new x
      refine ⟨?_, ?_, ?_, ?_, ?_, ?_, ?_⟩ <;> rw [hnew]
      · intro h1; exact absurd h1 hk
      · intro _; exact hz
      · intro h1 _; rw [hz]; unfold need; rw [if_neg (by rw [show x.kind = 4 from h1]; decide)]
      · intro _ h1; exact absurd hc h1
      · intro h1; rw [hz]; unfold need; rw [if_neg (by intro e; have h1 : x.kind = 5 ∨ x.kind = 6 ∨ x.kind = 7 := h1; omega)]; decide
      · exact .inl rfl
      · intro _; rfl
    · rw [if_neg he]
      have h1 := h.outs i (by omega)
      have hold : (p.node x).nodes[i]! = p.nodes[i]! := node_old x (by omega)
      refine ⟨?_, ?_, ?_, ?_, ?_, ?_, ?_⟩ <;> rw [hold]
      · exact h1.start
      · exact h1.fin
      · exact h1.wk0
      · exact h1.wk1
      · exact h1.gate
      · exact h1.dflt
      · exact h1.tgt
theorem join_old {a b : Int} (c : ByteArray) {j : Nat} (h : j < p.m) : (p.join a b c).flows[j]! = p.flows[j]! := by
  have h' : j < p.flows.length := h
  simp [P.join, List.getElem!_eq_getElem?_getD, List.getElem?_append_left h']
theorem join_new {a b : Int} (c : ByteArray) : (p.join a b c).flows[p.m]! = ⟨a, b, c⟩ := by
  simp [P.join, P.m]
theorem join_m {a b : Int} (c : ByteArray) : (p.join a b c).m = p.m + 1 := by simp [P.join, P.m]
theorem join_cO {a : Nat} {b : Int} (c : ByteArray) (i : Nat) : cO (p.join a b c) i = cO p i + if i = a then 1 else 0 := by
  unfold cO P.join
  rw [List.countP_append]
  by_cases h : i = a
  · subst h; simp
  · have : ((a : Int) == (i : Int)) = false := by rw [beq_eq_false_iff_ne]; omega
    simp [h, this]
theorem join_cI {a : Int} {b : Nat} (c : ByteArray) (i : Nat) : cI (p.join a b c) i = cI p i + if i = b then 1 else 0 := by
  unfold cI P.join
  rw [List.countP_append]
  by_cases h : i = b
  · subst h; simp
  · have : ((b : Int) == (i : Int)) = false := by rw [beq_eq_false_iff_ne]; omega
    simp [h, this]
theorem Inv.join (h : Inv p o I) {a b : Nat} (c : ByteArray) (ha : a < p.n) (hb : b < p.n) (hb0 : 0 < b)
    (hk : (p.nodes[a]!).kind = 5 ∨ (p.nodes[a]!).kind = 6 ∨ (p.nodes[a]!).kind = 7 ∨ ((p.nodes[a]!).kind ≠ 2 ∧ 0 < o a))
    (hc : c = no ∨ (((p.nodes[a]!).kind = 5 ∨ (p.nodes[a]!).kind = 7) ∧ ∃ k : Int, c = bs (conds k))) :
    Inv (p.join a b c) (fun i => if i = a then o a - 1 else o i) (fun i => I i ∧ i ≠ b) where
  pos := h.pos
  start := h.start
  flow f hf := by
    have hf' : f ∈ p.flows ++ [⟨a, b, c⟩] := hf
    rw [List.mem_append, List.mem_singleton] at hf'
    rcases hf' with hf' | rfl
    · obtain ⟨h1, h2⟩ := h.flow f hf'; exact ⟨h1, h2⟩
    · exact ⟨⟨a, b, rfl, rfl, ha, hb, hb0⟩, hc⟩
  field := h.field
  ins i h0 hi hn := by
    rw [join_cI]
    by_cases he : i = b
    · rw [if_pos he]; omega
    · have := h.ins i h0 hi fun hh => hn ⟨hh, he⟩
      omega
  outs i hi := by
    have h1 := h.outs i hi
    have hlift : ∀ x : Int, (∃ j : Nat, j < p.m ∧ x = j ∧ (p.flows[j]!).frm = (i : Int)) → ∃ j : Nat, j < (p.join a b c).m ∧ x = j ∧ ((p.join a b c).flows[j]!).frm = (i : Int) := by
      rintro x ⟨j, hj, h2, h3⟩
      exact ⟨j, by rw [join_m]; omega, h2, by rw [join_old c hj]; exact h3⟩
    by_cases he : i = a
    · subst he
      rw [if_pos rfl]
      have hcn : cO (p.join i b c) i = cO p i + 1 := by rw [join_cO, if_pos rfl]
      refine ⟨?_, ?_, ?_, ?_, ?_, ?_, h1.tgt⟩
      · intro hh; have hh : (p.nodes[i]!).kind = 1 := hh; have := h1.start hh; rw [hcn]; omega
      · intro hh; have hh : (p.nodes[i]!).kind = 2 := hh; omega
      · intro hh h2; have hh : (p.nodes[i]!).kind = 4 := hh; have := h1.wk0 hh h2; rw [hcn]; omega
      · intro hh h2; have hh : (p.nodes[i]!).kind = 4 := hh; have := h1.wk1 hh h2; exact ⟨by rw [hcn]; omega, hlift _ this.2⟩
      · intro _; rw [hcn]; omega
      · rcases h1.dflt with h2 | ⟨h2, h3⟩
        · exact .inl h2
        · exact .inr ⟨h2, hlift _ h3⟩
    · rw [if_neg he]
      have hcn : cO (p.join a b c) i = cO p i := by rw [join_cO, if_neg he]; rfl
      refine ⟨?_, ?_, ?_, ?_, ?_, ?_, h1.tgt⟩
      · rw [hcn]; exact h1.start
      · rw [hcn]; exact h1.fin
      · rw [hcn]; exact h1.wk0
      · rw [hcn]; intro hh h2; exact ⟨(h1.wk1 hh h2).1, hlift _ (h1.wk1 hh h2).2⟩
      · rw [hcn]; exact h1.gate
      · rcases h1.dflt with h2 | ⟨h2, h3⟩
        · exact .inl h2
        · exact .inr ⟨h2, hlift _ h3⟩
end
end Pr
end Go.Proofs.Ytjdgloofdafebaa
