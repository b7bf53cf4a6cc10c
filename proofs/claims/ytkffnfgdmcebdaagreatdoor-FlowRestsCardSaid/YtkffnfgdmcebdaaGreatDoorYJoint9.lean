/- Mathematics of processes out of few numbers: rows of Works, choices, forks, loops. Mathematics of processes: what is amiss with one; that those out of few numbers may be. Mathematics of processes: fields that are set; a Work, a choice, a fork, a loop behind a node. Mathematics of processes: pieces in a row, and that such a process may be. Mathematics of processes: those out of few numbers may be. Plain mathematics of package reach: who comes where. It names no program. -/
import Derived.Test.YtkffnfgdmcebdaaGreatDoorYJoint10
namespace Go.Proofs.YtkffnfgdmcebdaaGreatDoor
open Go.RowKit

namespace Pr
/-- A node, a flow, a process. -/
structure Nd where
  kind : Int
  topic : ByteArray
  prio : Int
  retr : Int
  dflt : Int
  code : ByteArray
  caught : ByteArray
  tgt : Int
structure Fl where
  frm : Int
  til : Int
  cond : ByteArray
structure P where
  name : ByteArray
  nodes : List Nd
  flows : List Fl
def no : ByteArray := ⟨#[]⟩
/-- A node of that Kind and nothing else. -/
def Nd.plain (k : Int) : Nd := ⟨k, no, 0, 0, -1, no, no, -1⟩
instance : Inhabited Nd := ⟨Nd.plain 0⟩
instance : Inhabited Fl := ⟨⟨0, 0, no⟩⟩
def Nd.work (t : ByteArray) (p r : Int) : Nd := ⟨4, t, p, r, -1, no, no, -1⟩
def nmb (x b : Int) : Int := x % b
def bs (l : List UInt8) : ByteArray := ⟨l.toArray⟩
def condL : List (List UInt8) := [[], [116, 114, 117, 101], [102, 97, 108, 115, 101], [97, 32, 62, 32, 50], [97, 32, 60, 32, 51, 32, 111, 114, 32, 98], [115, 32, 61, 61, 32, 34, 120, 34], [97, 32, 47, 32, 48, 32, 61, 61, 32, 49], [99], [110, 111, 116, 32, 98], [97, 32, 43, 32, 49, 32, 61, 61, 32, 51], [49], [98, 32, 97, 110, 100, 32, 97, 32, 62, 61, 32, 48]]
def topicL : List (List UInt8) := [[112, 97, 121], [115, 104, 105, 112], [97, 115, 107, 45, 49]]
def conds (n : Int) : List UInt8 := condL[(nmb n 12).toNat]!
def topics (n : Int) : List UInt8 := topicL[(nmb n 3).toNat]!
def pick (l : List Int) (i : Nat) : Int := if i < l.length then l[i]! else i
/-- One more node; one more flow. -/
def P.node (p : P) (x : Nd) : P := ⟨p.name, p.nodes ++ [{ x with dflt := -1, tgt := -1 }], p.flows⟩
def P.join (p : P) (f t : Int) (c : ByteArray) : P := ⟨p.name, p.nodes, p.flows ++ [⟨f, t, c⟩]⟩
def P.set (p : P) (k : Nat) (f : Nd → Nd) : P := ⟨p.name, p.nodes.modify k f, p.flows⟩
def P.n (p : P) : Nat := p.nodes.length
def P.m (p : P) : Nat := p.flows.length
/-- A Work behind a node. -/
def work (p : P) (at_ : Nat) (m : Int) : P × Nat :=
  let k := p.n
  let p1 := (p.node (Nd.work (bs (topics m)) (nmb (m.tdiv 3) 10) (1 + nmb (m.tdiv 7) 3))).join at_ k no
  if nmb (m.tdiv 5) 4 = 0 then
    let p2 := p1.node (Nd.plain 2)
    (((p2.set k fun x => { x with caught := bs [99, 97, 117, 103, 104, 116] }).join k p1.n no).set k fun x => { x with tgt := p2.m }, k)
  else (p1, k)
/-- A way of a gateway. -/
def way (a b : Nat) (m open_ : Int) (i : Nat) (p : P) : P :=
  let c := if open_ = 6 then no else bs (conds (wrap64 (m.tdiv 3 + i)))
  let q := if nmb (m / 2 ^ i) 2 = 0 then (p.node (Nd.work (bs (topics (wrap64 (m + i)))) i 2)).join p.n b no else p
  let t := if nmb (m / 2 ^ i) 2 = 0 then p.n else b
  let q2 := q.join a t c
  if open_ ≠ 6 ∧ i = 0 ∧ 0 < nmb (m.tdiv 11) 4 then q2.set a fun x => { x with dflt := q.m } else q2
def ways (a b : Nat) (m open_ : Int) : Nat → P → P
  | 0, p => p
  | i + 1, p => way a b m open_ i (ways a b m open_ i p)
/-- A gateway, two or three ways, a gateway again. -/
def parts (p : P) (at_ : Nat) (m open_ shut : Int) : P × Nat :=
  let a := p.n
  let p1 := ((p.node (Nd.plain open_)).join at_ a no).node (Nd.plain shut)
  (ways a (a + 1) m open_ (2 + nmb m 2).toNat p1, a + 1)
/-- A gateway that leads back by a Work. -/
def loop (p : P) (at_ : Nat) (m : Int) : P × Nat :=
  let a := p.n
  let p1 := (((p.node (Nd.plain 5)).join at_ a no).node (Nd.work (bs (topics m)) 0 1)).node (Nd.plain 5)
  let p2 := (p1.join a (a + 1 : Nat) (bs (conds (wrap64 (3 + m))))).join (a + 1 : Nat) a no
  ((p2.join a (a + 2 : Nat) no).set a fun x => { x with dflt := p2.m }, a + 2)
/-- A piece: which by a number. -/
def piece (rings : Bool) (kd m : Int) (p : P) (at_ : Nat) : P × Nat :=
  let w := nmb kd 7
  if w ≤ 2 then work p at_ m else if w = 3 then parts p at_ m 5 5 else if w = 4 then parts p at_ m 6 6 else if w = 5 then parts p at_ m 7 7
  else if rings = true then loop p at_ m else work p at_ m
def pieces (rings : Bool) (kinds more : List Int) : Nat → P × Nat
  | 0 => (⟨bs [112], [Nd.plain 1], []⟩, 0)
  | i + 1 =>
    let r := pieces rings kinds more i
    if r.1.n < 22 then piece rings (kinds[i]!) (pick more i) r.1 r.2 else r
/-- The whole. -/
def good (kinds more : List Int) (rings : Bool) : P :=
  let r := pieces rings kinds more kinds.length
  let p := r.1.node (Nd.plain 2)
  p.join r.2 r.1.n no
end Pr
end Go.Proofs.YtkffnfgdmcebdaaGreatDoor
namespace Go.Proofs.YtkffnfgdmcebdaaGreatDoor
open Go.RowKit

namespace Pr
/-- The flows from, to a node. -/
def outsL (p : P) (i : Nat) : List Nat := (List.range p.m).filter fun j => (p.flows[j]!).frm == (i : Int)
def insL (p : P) (i : Nat) : List Nat := (List.range p.m).filter fun j => (p.flows[j]!).til == (i : Int)
def within (x lo hi : Int) : Bool := decide (lo ≤ x) && decide (x ≤ hi)
/-- What a text is amiss as a condition. -/
def condBad (c : ByteArray) : Int := match Co.parse c.data.toList with
  | some (_, some (e, _)) => e
  | some (_, none) => 0
  | none => -1
def flowBad (p : P) (f : Fl) : Int :=
  if (within f.frm 0 (p.n - 1) && within f.til 0 (p.n - 1)) = false then 107
  else if f.cond.size = 0 then 0
  else if (p.nodes[f.frm.toNat]!).kind ≠ 5 ∧ (p.nodes[f.frm.toNat]!).kind ≠ 7 then 102
  else condBad f.cond
def shaped (p : P) (i : Nat) : Bool :=
  let x := p.nodes[i]!
  let a := (insL p i).length
  let b := (outsL p i).length
  if (x.kind == 1) != (i == 0) then false
  else if x.kind = 1 then a == 0 && b == 1
  else if x.kind = 2 ∨ x.kind = 3 then decide (0 < a) && b == 0
  else if x.kind = 4 then decide (0 < a) && (b == 1 && x.caught.size == 0 || b == 2 && decide (0 < x.caught.size))
  else if x.kind = 5 ∨ x.kind = 6 ∨ x.kind = 7 then decide (0 < a) && decide (0 < b)
  else false
def nm (s : ByteArray) : Bool := Vr.name s.toList
def has (l : List Nat) (x : Int) : Bool := l.any fun j => (j : Int) == x
def nodeBad (p : P) (i : Nat) : Int :=
  let x := p.nodes[i]!
  let wk := x.kind == 4
  let gate := x.kind == 5 || x.kind == 7
  if shaped p i = false then 102
  else if (wk && !nm x.topic || !wk && decide (0 < x.topic.size) || x.kind == 3 && !nm x.code || !(x.kind == 3) && decide (0 < x.code.size) || decide (0 < x.caught.size) && (!wk || !nm x.caught)) = true then 106
  else if (wk && (!within x.prio 0 9 || !within x.retr 1 9) || !wk && (!(x.prio == 0) || !(x.retr == 0))) = true then 107
  else if (!(x.dflt == -1) && (!gate || !has (outsL p i) x.dflt) || x.caught.size == 0 && !(x.tgt == -1) || decide (0 < x.caught.size) && !has (outsL p i) x.tgt) = true then 102
  else 0
/-- What is amiss first, and where. -/
def check (p : P) : Int × Option Nat :=
  if nm p.name = false then (106, none)
  else if (within p.n 2 30 && decide (p.m ≤ 60)) = false then (104, none)
  else match (List.range p.m).find? (fun j => !(flowBad p p.flows[j]! == 0)) with
    | some j => (flowBad p p.flows[j]!, some (100 + j))
    | none => match (List.range p.n).find? (fun i => !(nodeBad p i == 0)) with
      | some i => (nodeBad p i, some i)
      | none => (0, none)

/-- How many flows lead from, to a node. -/
def cO (p : P) (i : Nat) : Nat := p.flows.countP fun f => f.frm == (i : Int)
def cI (p : P) (i : Nat) : Nat := p.flows.countP fun f => f.til == (i : Int)
theorem countP_range {α : Type} [Inhabited α] (l : List α) (q : α → Bool) : ((List.range l.length).filter fun j => q l[j]!).length = l.countP q := by
  have h : l = (List.range l.length).map fun j => l[j]! := by
    apply List.ext_getElem
    · simp
    · intro i h1 h2
      simp [h1]
  conv => rhs; rw [h]
  rw [List.countP_map, List.countP_eq_length_filter]
  rfl
theorem outs_len (p : P) (i : Nat) : (outsL p i).length = cO p i := countP_range p.flows fun f => f.frm == (i : Int)
theorem ins_len (p : P) (i : Nat) : (insL p i).length = cI p i := countP_range p.flows fun f => f.til == (i : Int)
theorem has_of {p : P} {i j : Nat} (hj : j < p.m) (h : (p.flows[j]!).frm = (i : Int)) : has (outsL p i) (j : Int) = true := by
  unfold has
  rw [List.any_eq_true]
  refine ⟨j, ?_, by simp⟩
  unfold outsL
  rw [List.mem_filter]
  exact ⟨List.mem_range.2 hj, beq_iff_eq.2 h⟩
/-- A node's own fields. -/
structure FieldOk (x : Nd) : Prop where
  kind : x.kind = 1 ∨ x.kind = 2 ∨ x.kind = 4 ∨ x.kind = 5 ∨ x.kind = 6 ∨ x.kind = 7
  wk : x.kind = 4 → nm x.topic = true ∧ within x.prio 0 9 = true ∧ within x.retr 1 9 = true
  nowk : x.kind ≠ 4 → x.topic = no ∧ x.prio = 0 ∧ x.retr = 0
  code : x.code = no
  caught : x.caught = no ∨ (x.kind = 4 ∧ x.caught = bs [99, 97, 117, 103, 104, 116])
/-- A node's flows: so many are owed. -/
structure OutOk (p : P) (i : Nat) (o : Nat) : Prop where
  start : (p.nodes[i]!).kind = 1 → cO p i + o = 1
  fin : (p.nodes[i]!).kind = 2 → cO p i = 0
  wk0 : (p.nodes[i]!).kind = 4 → (p.nodes[i]!).caught = no → cO p i + o = 1
  wk1 : (p.nodes[i]!).kind = 4 → (p.nodes[i]!).caught ≠ no → cO p i + o = 2 ∧ ∃ j : Nat, j < p.m ∧ (p.nodes[i]!).tgt = j ∧ (p.flows[j]!).frm = (i : Int)
  gate : ((p.nodes[i]!).kind = 5 ∨ (p.nodes[i]!).kind = 6 ∨ (p.nodes[i]!).kind = 7) → 0 < cO p i + o
  dflt : (p.nodes[i]!).dflt = -1 ∨ (((p.nodes[i]!).kind = 5 ∨ (p.nodes[i]!).kind = 7) ∧ ∃ j : Nat, j < p.m ∧ (p.nodes[i]!).dflt = j ∧ (p.flows[j]!).frm = (i : Int))
  tgt : (p.nodes[i]!).caught = no → (p.nodes[i]!).tgt = -1
structure FlowOk (p : P) (f : Fl) : Prop where
  ends : ∃ a b : Nat, f.frm = a ∧ f.til = b ∧ a < p.n ∧ b < p.n ∧ 0 < b
  cond : f.cond = no ∨ (((p.nodes[f.frm.toNat]!).kind = 5 ∨ (p.nodes[f.frm.toNat]!).kind = 7) ∧ ∃ k : Int, f.cond = bs (conds k))
/-- A process under way: o is owed, no way leads to I yet. -/
structure Inv (p : P) (o : Nat → Nat) (I : Nat → Prop) : Prop where
  pos : 0 < p.n
  start : ∀ i, i < p.n → ((p.nodes[i]!).kind = 1 ↔ i = 0)
  flow : ∀ f ∈ p.flows, FlowOk p f
  field : ∀ i, i < p.n → FieldOk (p.nodes[i]!)
  ins : ∀ i, 0 < i → i < p.n → ¬ I i → 0 < cI p i
  outs : ∀ i, i < p.n → OutOk p i (o i)
theorem Inv.mono {p : P} {o o' : Nat → Nat} {I I' : Nat → Prop} (h : Inv p o I) (ho : ∀ i, i < p.n → o i = o' i) (hI : ∀ i, i < p.n → I i → I' i) : Inv p o' I' :=
  ⟨h.pos, h.start, h.flow, h.field, fun i h0 hi hn => h.ins i h0 hi fun hh => hn (hI i hi hh), fun i hi => by rw [← ho i hi]; exact h.outs i hi⟩
section
variable {p : P} {o : Nat → Nat} {I : Nat → Prop}
theorem node_n (x : Nd) : (p.node x).n = p.n + 1 := by simp [P.node, P.n]
theorem node_old (x : Nd) {i : Nat} (h : i < p.n) : (p.node x).nodes[i]! = p.nodes[i]! := by
  have h' : i < p.nodes.length := h
  simp [P.node, List.getElem!_eq_getElem?_getD, List.getElem?_append_left h']
theorem node_new (x : Nd) : (p.node x).nodes[p.n]! = { x with dflt := -1, tgt := -1 } := by
  simp [P.node, P.n]
theorem cO_far (h : ∀ f ∈ p.flows, FlowOk p f) {i : Nat} (hi : p.n ≤ i) : cO p i = 0 := by
  unfold cO
  rw [List.countP_eq_zero]
  intro f hf
  obtain ⟨a, b, h1, _, h3, _⟩ := (h f hf).ends
  rw [h1]
  simp
  omega
theorem FlowOk.node {f : Fl} (h : FlowOk p f) (x : Nd) : FlowOk (p.node x) f := by
  obtain ⟨a, b, h1, h2, h3, h4, h5⟩ := h.ends
  refine ⟨⟨a, b, h1, h2, by rw [node_n]; omega, by rw [node_n]; omega, h5⟩, ?_⟩
  have : f.frm.toNat < p.n := by omega
  rw [node_old x this]
  exact h.cond
/-- How many flows a fresh node owes. -/
def need (x : Nd) : Nat := if x.kind = 2 then 0 else 1
theorem Inv.node (h : Inv p o I) (x : Nd) (hx : FieldOk x) (hk : x.kind ≠ 1) (hc : x.caught = no) :
    Inv (p.node x) (fun i => if i = p.n then need x else o i) (fun i => i = p.n ∨ I i) where
  pos := by rw [node_n]; omega
  start i hi := by
    rw [node_n] at hi
    by_cases he : i = p.n
    · subst he
      rw [node_new]
      have := h.pos
      constructor
      · intro h1; exact absurd h1 hk
      · intro h1; omega
    · rw [node_old x (by omega)]; exact h.start i (by omega)
  flow f hf := (h.flow f hf).node x
  field i hi := by
    rw [node_n] at hi
    by_cases he : i = p.n
    · subst he; rw [node_new]; exact ⟨hx.kind, hx.wk, hx.nowk, hx.code, hx.caught⟩
    · rw [node_old x (by omega)]; exact h.field i (by omega)
  ins i h0 hi hn := by
    rw [node_n] at hi
    have he : i ≠ p.n := fun e => hn (.inl e)
    exact h.ins i h0 (by omega) fun hh => hn (.inr hh)
  outs i hi := by
    rw [node_n] at hi
    by_cases he : i = p.n
    · subst he
      rw [if_pos rfl]
      have hz : cO (p.node x) p.n = 0 := cO_far (p := p) h.flow (Nat.le_refl _)
      have hnew : (p.node x).nodes[p.n]! = { x with dflt := -1, tgt := -1 } := node_new x
      refine ⟨?_, ?_, ?_, ?_, ?_, ?_, ?_⟩ <;> rw [hnew]
      · intro h1; exact absurd h1 hk
      · intro _; exact hz
      · intro h1 _; rw [hz]; unfold need; rw [if_neg (by rw [show x.kind = 4 from h1]; decide)]
      · intro _ h1; exact absurd hc h1
      · intro h1; rw [hz]; unfold need; rw [if_neg (by intro e; have h1 : x.kind = 5 ∨ x.kind = 6 ∨ x.kind = 7 := h1; omega)]; decide
      · exact .inl rfl
      · intro _; rfl
    · rw [if_neg he]
      have h1 := h.outs i (by omega)
      have hold : (p.node x).nodes[i]! = p.nodes[i]! := node_old x (by omega)
      refine ⟨?_, ?_, ?_, ?_, ?_, ?_, ?_⟩ <;> rw [hold]
      · exact h1.start
      · exact h1.fin
      · exact h1.wk0
      · exact h1.wk1
      · exact h1.gate
      · exact h1.dflt
      · exact h1.tgt
theorem join_old {a b : Int} (c : ByteArray) {j : Nat} (h : j < p.m) : (p.join a b c).flows[j]! = p.flows[j]! := by
  have h' : j < p.flows.length := h
  simp [P.join, List.getElem!_eq_getElem?_getD, List.getElem?_append_left h']
theorem join_new {a b : Int} (c : ByteArray) : (p.join a b c).flows[p.m]! = ⟨a, b, c⟩ := by
  simp [P.join, P.m]
theorem join_m {a b : Int} (c : ByteArray) : (p.join a b c).m = p.m + 1 := by simp [P.join, P.m]
theorem join_cO {a : Nat} {b : Int} (c : ByteArray) (i : Nat) : cO (p.join a b c) i = cO p i + if i = a then 1 else 0 := by
  unfold cO P.join
  rw [List.countP_append]
  by_cases h : i = a
  · subst h; simp
  · have : ((a : Int) == (i : Int)) = false := by rw [beq_eq_false_iff_ne]; omega
    simp [h, this]
theorem join_cI {a : Int} {b : Nat} (c : ByteArray) (i : Nat) : cI (p.join a b c) i = cI p i + if i = b then 1 else 0 := by
  unfold cI P.join
  rw [List.countP_append]
  by_cases h : i = b
  · subst h; simp
  · have : ((b : Int) == (i : Int)) = false := by rw [beq_eq_false_iff_ne]; omega
    simp [h, this]
theorem Inv.join (h : Inv p o I) {a b : Nat} (c : ByteArray) (ha : a < p.n) (hb : b < p.n) (hb0 : 0 < b)
    (hk : (p.nodes[a]!).kind = 5 ∨ (p.nodes[a]!).kind = 6 ∨ (p.nodes[a]!).kind = 7 ∨ ((p.nodes[a]!).kind ≠ 2 ∧ 0 < o a))
    (hc : c = no ∨ (((p.nodes[a]!).kind = 5 ∨ (p.nodes[a]!).kind = 7) ∧ ∃ k : Int, c = bs (conds k))) :
    Inv (p.join a b c) (fun i => if i = a then o a - 1 else o i) (fun i => I i ∧ i ≠ b) where
  pos := h.pos
  start := h.start
  flow f hf := by
    have hf' : f ∈ p.flows ++ [⟨a, b, c⟩] := hf
    rw [List.mem_append, List.mem_singleton] at hf'
    rcases hf' with hf' | rfl
    · obtain ⟨h1, h2⟩ := h.flow f hf'; exact ⟨h1, h2⟩
    · exact ⟨⟨a, b, rfl, rfl, ha, hb, hb0⟩, hc⟩
  field := h.field
  ins i h0 hi hn := by
    rw [join_cI]
    by_cases he : i = b
    · rw [if_pos he]; omega
    · have := h.ins i h0 hi fun hh => hn ⟨hh, he⟩
      omega
  outs i hi := by
    have h1 := h.outs i hi
    have hlift : ∀ x : Int, (∃ j : Nat, j < p.m ∧ x = j ∧ (p.flows[j]!).frm = (i : Int)) → ∃ j : Nat, j < (p.join a b c).m ∧ x = j ∧ ((p.join a b c).flows[j]!).frm = (i : Int) := by
      rintro x ⟨j, hj, h2, h3⟩
      exact ⟨j, by rw [join_m]; omega, h2, by rw [join_old c hj]; exact h3⟩
    by_cases he : i = a
    · subst he
      rw [if_pos rfl]
      have hcn : cO (p.join i b c) i = cO p i + 1 := by rw [join_cO, if_pos rfl]
      refine ⟨?_, ?_, ?_, ?_, ?_, ?_, h1.tgt⟩
      · intro hh; have hh : (p.nodes[i]!).kind = 1 := hh; have := h1.start hh; rw [hcn]; omega
      · intro hh; have hh : (p.nodes[i]!).kind = 2 := hh; omega
      · intro hh h2; have hh : (p.nodes[i]!).kind = 4 := hh; have := h1.wk0 hh h2; rw [hcn]; omega
      · intro hh h2; have hh : (p.nodes[i]!).kind = 4 := hh; have := h1.wk1 hh h2; exact ⟨by rw [hcn]; omega, hlift _ this.2⟩
      · intro _; rw [hcn]; omega
      · rcases h1.dflt with h2 | ⟨h2, h3⟩
        · exact .inl h2
        · exact .inr ⟨h2, hlift _ h3⟩
    · rw [if_neg he]
      have hcn : cO (p.join a b c) i = cO p i := by rw [join_cO, if_neg he]; rfl
      refine ⟨?_, ?_, ?_, ?_, ?_, ?_, h1.tgt⟩
      · rw [hcn]; exact h1.start
      · rw [hcn]; exact h1.fin
      · rw [hcn]; exact h1.wk0
      · rw [hcn]; intro hh h2; exact ⟨(h1.wk1 hh h2).1, hlift _ (h1.wk1 hh h2).2⟩
      · rw [hcn]; exact h1.gate
      · rcases h1.dflt with h2 | ⟨h2, h3⟩
        · exact .inl h2
        · exact .inr ⟨h2, hlift _ h3⟩
end
end Pr
end Go.Proofs.YtkffnfgdmcebdaaGreatDoor
namespace Go.Proofs.YtkffnfgdmcebdaaGreatDoor
open Go.RowKit

namespace Pr
section
variable {p : P} {o : Nat → Nat} {I : Nat → Prop} {k : Nat} {f : Nd → Nd}
theorem set_n : (p.set k f).n = p.n := by simp [P.set, P.n]
theorem set_at (hk : k < p.n) : (p.set k f).nodes[k]! = f (p.nodes[k]!) := by
  have hk' : k < p.nodes.length := hk
  simp [P.set, hk']
theorem set_other {i : Nat} (h : i ≠ k) : (p.set k f).nodes[i]! = p.nodes[i]! := by
  simp [P.set, List.getElem!_eq_getElem?_getD, Ne.symm h]
theorem Inv.set (h : Inv p o I) (hk : k < p.n) (hkd : (f (p.nodes[k]!)).kind = (p.nodes[k]!).kind) (hf : FieldOk (f (p.nodes[k]!))) (v : Nat) (hout : OutOk (p.set k f) k v) :
    Inv (p.set k f) (fun i => if i = k then v else o i) I := by
  have hkind : ∀ i : Nat, ((p.set k f).nodes[i]!).kind = (p.nodes[i]!).kind := by
    intro i
    by_cases he : i = k
    · subst he; rw [set_at hk]; exact hkd
    · rw [set_other he]
  refine ⟨by rw [set_n]; exact h.pos, ?_, ?_, ?_, ?_, ?_⟩
  · intro i hi; rw [set_n] at hi; rw [hkind]; exact h.start i hi
  · intro g hg
    obtain ⟨⟨a, b, h1, h2, h3, h4, h5⟩, h6⟩ := h.flow g hg
    exact ⟨⟨a, b, h1, h2, by rw [set_n]; exact h3, by rw [set_n]; exact h4, h5⟩, by rw [hkind]; exact h6⟩
  · intro i hi
    rw [set_n] at hi
    by_cases he : i = k
    · subst he; rw [set_at hk]; exact hf
    · rw [set_other he]; exact h.field i hi
  · intro i h0 hi hn; rw [set_n] at hi; exact h.ins i h0 hi hn
  · intro i hi
    rw [set_n] at hi
    by_cases he : i = k
    · subst he; rw [if_pos rfl]; exact hout
    · rw [if_neg he]
      have h1 := h.outs i hi
      refine ⟨?_, ?_, ?_, ?_, ?_, ?_, ?_⟩ <;> rw [set_other he]
      · exact h1.start
      · exact h1.fin
      · exact h1.wk0
      · exact h1.wk1
      · exact h1.gate
      · exact h1.dflt
      · exact h1.tgt
theorem Inv.dflt (h : Inv p o I) {j : Nat} (hk : k < p.n) (hg : (p.nodes[k]!).kind = 5 ∨ (p.nodes[k]!).kind = 7) (hj : j < p.m) (hfr : (p.flows[j]!).frm = (k : Int)) :
    Inv (p.set k fun x => { x with dflt := j }) o I := by
  have hfk := h.field k hk
  have hok := h.outs k hk
  have := h.set (k := k) (f := fun x => { x with dflt := j }) hk rfl ⟨hfk.kind, hfk.wk, hfk.nowk, hfk.code, hfk.caught⟩ (o k) (by
    refine ⟨?_, ?_, ?_, ?_, ?_, ?_, ?_⟩ <;> rw [set_at hk]
    · exact hok.start
    · exact hok.fin
    · exact hok.wk0
    · exact hok.wk1
    · exact hok.gate
    · exact .inr ⟨hg, j, hj, rfl, hfr⟩
    · exact hok.tgt)
  exact this.mono (fun i _ => by by_cases he : i = k <;> simp [he]) (fun _ _ h => h)
def txC : ByteArray := bs [99, 97, 117, 103, 104, 116]
theorem txC_ne : txC ≠ no := by decide
theorem Inv.caught (h : Inv p o I) {e : Nat} (hk : k < p.n) (hkd : (p.nodes[k]!).kind = 4) (hc : (p.nodes[k]!).caught = no) (ho : o k = 1) (he : e < p.n) (he0 : 0 < e) :
    Inv ((p.join k e no).set k fun x => { x with caught := txC, tgt := p.m }) o (fun i => I i ∧ i ≠ e) := by
  have hcO := (h.outs k hk).wk0 hkd hc
  have h1 := h.join (a := k) (b := e) no hk he he0 (.inr (.inr (.inr ⟨by rw [hkd]; decide, by omega⟩))) (.inl rfl)
  have hfk := h.field k hk
  have hok := h.outs k hk
  have hkJ : k < (p.join k e no).n := hk
  have hnd : (p.join k e no).nodes[k]! = p.nodes[k]! := rfl
  have := h1.set (k := k) (f := fun x => { x with caught := txC, tgt := p.m }) hkJ rfl (by rw [hnd]; exact ⟨hfk.kind, hfk.wk, hfk.nowk, hfk.code, .inr ⟨hkd, rfl⟩⟩) 1 (by
    have hcn : cO ((p.join k e no).set k fun x => { x with caught := txC, tgt := p.m }) k = 1 := by
      show cO (p.join k e no) k = 1
      rw [join_cO, if_pos rfl]; omega
    refine ⟨?_, ?_, ?_, ?_, ?_, ?_, ?_⟩ <;> rw [set_at hkJ, hnd]
    · intro hh; have hh : (p.nodes[k]!).kind = 1 := hh; omega
    · intro hh; have hh : (p.nodes[k]!).kind = 2 := hh; omega
    · intro _ hh; exact absurd hh txC_ne
    · intro _ _; exact ⟨by rw [hcn], p.m, by show p.m < (p.join k e no).m; rw [join_m]; omega, rfl, by show ((p.join k e no).flows[p.m]!).frm = _; rw [join_new]⟩
    · intro hh; have hh : (p.nodes[k]!).kind = 5 ∨ (p.nodes[k]!).kind = 6 ∨ (p.nodes[k]!).kind = 7 := hh; omega
    · rcases hok.dflt with h2 | ⟨h2, _⟩
      · exact .inl h2
      · omega
    · intro hh; exact absurd hh txC_ne)
  exact this.mono (fun i _ => by by_cases he : i = k <;> simp [he, ho]) (fun _ _ h => h)
end
/-- All is as it may be but that the last one owes a flow. -/
structure St (p : P) (at_ : Nat) : Prop where
  inv : Inv p (fun i => if i = at_ then 1 else 0) (fun _ => False)
  lt : at_ < p.n
  kind : (p.nodes[at_]!).kind ≠ 2
theorem nm_topic (m : Int) : nm (bs (topics m)) = true := by
  unfold topics
  have h : (nmb m 3).toNat < 3 := by unfold nmb; omega
  have : ∀ k, k < 3 → nm (bs topicL[k]!) = true := by decide +kernel
  exact this _ h
theorem field_work {t : ByteArray} {pr r : Int} (ht : nm t = true) (hp : within pr 0 9 = true) (hr : within r 1 9 = true) : FieldOk (Nd.work t pr r) :=
  ⟨.inr (.inr (.inl rfl)), fun _ => ⟨ht, hp, hr⟩, fun h => absurd rfl h, rfl, .inl rfl⟩
theorem field_plain {k : Int} (h : k = 2 ∨ k = 5 ∨ k = 6 ∨ k = 7) : FieldOk (Nd.plain k) :=
  ⟨by show k = 1 ∨ k = 2 ∨ k = 4 ∨ k = 5 ∨ k = 6 ∨ k = 7; omega, fun hh => by have hh : k = 4 := hh; omega, fun _ => ⟨rfl, rfl, rfl⟩, rfl, .inl rfl⟩
theorem nmb_within (x : Int) : within (nmb x 10) 0 9 = true := by
  unfold within nmb
  rw [Bool.and_eq_true, decide_eq_true_eq, decide_eq_true_eq]
  omega
theorem nmb_retr (x : Int) : within (1 + nmb x 3) 1 9 = true := by
  unfold within nmb
  rw [Bool.and_eq_true, decide_eq_true_eq, decide_eq_true_eq]
  omega
section
variable {p : P} {at_ : Nat}
/-- A fresh node behind the last one. -/
theorem St.next (h : St p at_) (x : Nd) (hx : FieldOk x) (h1 : x.kind ≠ 1) (h2 : x.kind ≠ 2) (hc : x.caught = no) : St ((p.node x).join at_ p.n no) p.n := by
  have hp := h.inv.pos
  have hl := h.lt
  have i1 := h.inv.node x hx h1 hc
  have hold : (p.node x).nodes[at_]! = p.nodes[at_]! := node_old x hl
  have i2 := i1.join (a := at_) (b := p.n) no (by rw [node_n]; omega) (by rw [node_n]; omega) hp (.inr (.inr (.inr ⟨by rw [hold]; exact h.kind, by show 0 < (if at_ = p.n then need x else if at_ = at_ then 1 else 0); rw [if_neg (Nat.ne_of_lt hl), if_pos rfl]; decide⟩))) (.inl rfl)
  refine ⟨i2.mono ?_ ?_, by show p.n < (p.node x).n; rw [node_n]; omega, ?_⟩
  · intro i _
    by_cases h3 : i = at_
    · subst h3; simp [Nat.ne_of_lt hl]
    · by_cases h4 : i = p.n
      · subst h4; simp [h3, need, h2]
      · simp [h3, h4]
  · rintro i _ ⟨h3 | h3, h4⟩
    · exact h4 h3
    · exact h3
  · show ((p.node x).nodes[p.n]!).kind ≠ 2
    rw [node_new]
    exact h2
end
end Pr
end Go.Proofs.YtkffnfgdmcebdaaGreatDoor
namespace Go.Proofs.YtkffnfgdmcebdaaGreatDoor
open Go.RowKit

namespace Pr
/-- From p to q: nodes that were there keep their Kind; few more of nodes, of flows. -/
structure Up (p q : P) (k : Nat) : Prop where
  n0 : p.n ≤ q.n
  n1 : q.n ≤ p.n + k
  m : q.m + 2 * p.n ≤ p.m + 2 * q.n
  name : q.name = p.name
section
variable {p : P} {at_ : Nat}
theorem join_n {a b : Int} {c : ByteArray} : (p.join a b c).n = p.n := rfl
theorem node_m {x : Nd} : (p.node x).m = p.m := rfl
theorem set_m {k : Nat} {f : Nd → Nd} : (p.set k f).m = p.m := rfl
theorem set_join_set (k : Nat) (f g : Nd → Nd) (a b : Int) (c : ByteArray) : ((p.set k f).join a b c).set k g = (p.join a b c).set k (g ∘ f) := by
  unfold P.set P.join
  simp only [List.modify_modify_eq]
theorem work_st (h : St p at_) (m : Int) : St (work p at_ m).1 (work p at_ m).2 ∧ Up p (work p at_ m).1 2 := by
  have hl := h.lt
  have hW : FieldOk (Nd.work (bs (topics m)) (nmb (m.tdiv 3) 10) (1 + nmb (m.tdiv 7) 3)) := field_work (nm_topic m) (nmb_within _) (nmb_retr _)
  have s1 := h.next _ hW (by show (4 : Int) ≠ 1; decide) (by show (4 : Int) ≠ 2; decide) rfl
  unfold work
  by_cases hm : nmb (m.tdiv 5) 4 = 0
  · simp only [hm, if_true]
    rw [set_join_set]
    generalize hp1 : (p.node (Nd.work (bs (topics m)) (nmb (m.tdiv 3) 10) (1 + nmb (m.tdiv 7) 3))).join at_ p.n no = p1 at *
    have n1 : p1.n = p.n + 1 := by rw [← hp1, join_n, node_n]
    have m1 : p1.m = p.m + 1 := by rw [← hp1, join_m, node_m]
    have hk : p1.nodes[p.n]! = { (Nd.work (bs (topics m)) (nmb (m.tdiv 3) 10) (1 + nmb (m.tdiv 7) 3)) with dflt := -1, tgt := -1 } := by rw [← hp1]; exact node_new _
    have i2 := s1.inv.node (Nd.plain 2) (field_plain (.inl rfl)) (by show (2 : Int) ≠ 1; decide) rfl
    have hk2 : (p1.node (Nd.plain 2)).nodes[p.n]! = p1.nodes[p.n]! := node_old _ (by omega)
    have i3 := i2.caught (k := p.n) (e := p1.n) (by rw [node_n]; omega) (by rw [hk2, hk]; rfl) (by rw [hk2, hk]; rfl) (by simp; omega) (by rw [node_n]; omega) (by omega)
    have hkd : (((p1.node (Nd.plain 2)).join p.n p1.n no).set p.n ((fun x => { x with tgt := (p1.node (Nd.plain 2)).m }) ∘ fun x => { x with caught := txC })).nodes[p.n]!.kind = 4 := by
      rw [set_at (by rw [join_n, node_n]; omega)]
      show ((p1.node (Nd.plain 2)).nodes[p.n]!).kind = 4
      rw [hk2, hk]; rfl
    refine ⟨⟨i3.mono ?_ ?_, ?_, ?_⟩, ?_⟩
    · intro i _
      by_cases he : i = p1.n
      · subst he; simp [need, Nd.plain, n1]
      · simp [he]
    · rintro i _ ⟨h3 | h3, h4⟩
      · exact h4 h3
      · exact h3
    · rw [set_n, join_n, node_n]; omega
    · intro hh
      have : (4 : Int) = 2 := hkd.symm.trans hh
      omega
    · refine ⟨?_, ?_, ?_, ?_⟩
      · rw [set_n, join_n, node_n]; omega
      · rw [set_n, join_n, node_n]; omega
      · rw [set_n, set_m, join_n, node_n, join_m, node_m]; omega
      · rw [← hp1]; rfl
  · simp only [hm, if_false]
    exact ⟨s1, by rw [join_n, node_n]; omega, by rw [join_n, node_n]; omega, by rw [join_n, node_n, join_m, node_m]; omega, rfl⟩
/-- A gateway's ways under way. -/
structure Wy (p : P) (a b : Nat) (open_ : Int) (oa : Nat) (I : Nat → Prop) : Prop where
  inv : Inv p (fun i => if i = a then oa else if i = b then 1 else 0) I
  inb : ∀ i, I i → i = b
  la : a < p.n
  lb : b < p.n
  b0 : 0 < b
  ne : a ≠ b
  ka : (p.nodes[a]!).kind = open_
  kb : (p.nodes[b]!).kind ≠ 2
theorem Wy.way {a b : Nat} {open_ : Int} {oa : Nat} {I : Nat → Prop} (h : Wy p a b open_ oa I) (ho : open_ = 5 ∨ open_ = 6 ∨ open_ = 7) (m : Int) (j : Nat) (hj : j ≤ 9) :
    Wy (way a b m open_ j p) a b open_ (oa - 1) (fun _ => False) ∧ p.n ≤ (way a b m open_ j p).n ∧ (way a b m open_ j p).n ≤ p.n + 1 ∧ (way a b m open_ j p).m + p.n ≤ p.m + (way a b m open_ j p).n + 1 ∧ (way a b m open_ j p).name = p.name := by
  have hla := h.la
  have hlb := h.lb
  have hne := h.ne
  have hka : (p.nodes[a]!).kind = 5 ∨ (p.nodes[a]!).kind = 6 ∨ (p.nodes[a]!).kind = 7 := by rw [h.ka]; exact ho
  have hc : ∀ c, c = (if open_ = 6 then no else bs (conds (wrap64 (m.tdiv 3 + j)))) → c = no ∨ (open_ ≠ 6 ∧ ∃ k : Int, c = bs (conds k)) := by
    rintro c rfl
    by_cases h6 : open_ = 6
    · rw [if_pos h6]; exact .inl rfl
    · rw [if_neg h6]; exact .inr ⟨h6, _, rfl⟩
  -- the last step: a way, and perhaps the one that is taken as a rule
  have last : ∀ (q : P) (t : Nat) (I' : Nat → Prop), Inv q (fun i => if i = a then oa else if i = b then 1 else 0) I' → (∀ i, i < q.n → I' i → i = t) → p.n ≤ q.n → t < q.n → 0 < t → q.nodes[a]! = p.nodes[a]! → q.nodes[b]! = p.nodes[b]! → q.name = p.name →
      ∀ c, (c = no ∨ (open_ ≠ 6 ∧ ∃ k : Int, c = bs (conds k))) → ∀ (d : Prop) [Decidable d], (d → open_ ≠ 6) →
      Wy (if d then (q.join a t c).set a (fun x => { x with dflt := q.m }) else q.join a t c) a b open_ (oa - 1) (fun _ => False) ∧
        (if d then (q.join a t c).set a (fun x => { x with dflt := q.m }) else q.join a t c).n = q.n ∧ (if d then (q.join a t c).set a (fun x => { x with dflt := q.m }) else q.join a t c).m = q.m + 1 ∧
        (if d then (q.join a t c).set a (fun x => { x with dflt := q.m }) else q.join a t c).name = p.name := by
    intro q t I' hi hI hn ht h0 ha hb hnm c hcc d _ hd
    have hcc' : c = no ∨ (((q.nodes[a]!).kind = 5 ∨ (q.nodes[a]!).kind = 7) ∧ ∃ k : Int, c = bs (conds k)) := by
      rcases hcc with h1 | ⟨h1, h2⟩
      · exact .inl h1
      · exact .inr ⟨by rw [ha, h.ka]; omega, h2⟩
    have i3 := hi.join (a := a) (b := t) c (by omega) ht h0 (by rw [ha]; rcases hka with h1 | h1 | h1; exact .inl h1; exact .inr (.inl h1); exact .inr (.inr (.inl h1))) hcc'
    have i4 : Inv (q.join a t c) (fun i => if i = a then oa - 1 else if i = b then 1 else 0) (fun _ => False) := i3.mono (fun i _ => by by_cases he : i = a <;> simp [he]) (fun i hi' hh => hh.2 (hI i hi' hh.1))
    have hkJ : ((q.join a t c).nodes[a]!).kind = open_ := by show (q.nodes[a]!).kind = open_; rw [ha]; exact h.ka
    have hbJ : ((q.join a t c).nodes[b]!) = p.nodes[b]! := hb
    by_cases hdd : d
    · simp only [hdd, if_true]
      have i5 := i4.dflt (k := a) (j := q.m) (by rw [join_n]; omega) (by rw [hkJ]; have := hd hdd; omega) (by rw [join_m]; omega) (by rw [join_new])
      refine ⟨⟨i5, fun _ hh => hh.elim, by rw [set_n, join_n]; omega, by rw [set_n, join_n]; omega, h.b0, hne, ?_, ?_⟩, by rw [set_n, join_n], by rw [set_m, join_m], hnm⟩
      · rw [set_at (by rw [join_n]; omega)]; exact hkJ
      · rw [set_other (Ne.symm hne), hbJ]; exact h.kb
    · simp only [hdd, if_false]
      exact ⟨⟨i4, fun _ hh => hh.elim, by rw [join_n]; omega, by rw [join_n]; omega, h.b0, hne, hkJ, by rw [hbJ]; exact h.kb⟩, by rw [join_n], by rw [join_m], hnm⟩
  unfold Pr.way
  have hcc := hc _ rfl
  generalize (if open_ = 6 then no else bs (conds (wrap64 (m.tdiv 3 + j)))) = c at *
  by_cases hm : nmb (m / 2 ^ j) 2 = 0
  · simp only [hm, if_true]
    have hW : FieldOk (Nd.work (bs (topics (wrap64 (m + j)))) j 2) := field_work (nm_topic _) (by unfold within; rw [Bool.and_eq_true, decide_eq_true_eq, decide_eq_true_eq]; omega) rfl
    have i1 := h.inv.node _ hW (by show (4 : Int) ≠ 1; decide) rfl
    have hnw : (p.node (Nd.work (bs (topics (wrap64 (m + j)))) j 2)).nodes[p.n]! = { Nd.work (bs (topics (wrap64 (m + j)))) j 2 with dflt := -1, tgt := -1 } := node_new _
    have i2 := i1.join (a := p.n) (b := b) no (by rw [node_n]; omega) (by rw [node_n]; omega) h.b0 (.inr (.inr (.inr ⟨by rw [hnw]; show (4 : Int) ≠ 2; decide, by show 0 < (if p.n = p.n then need _ else _); rw [if_pos rfl]; unfold need; rw [if_neg (by show ¬ (4 : Int) = 2; decide)]; decide⟩))) (.inl rfl)
    have hoa : (p.node (Nd.work (bs (topics (wrap64 (m + j)))) j 2)).nodes[a]! = p.nodes[a]! := node_old _ hla
    have hob : (p.node (Nd.work (bs (topics (wrap64 (m + j)))) j 2)).nodes[b]! = p.nodes[b]! := node_old _ hlb
    obtain ⟨k1, k2, k3, k4⟩ := last _ p.n (fun i => (i = p.n ∨ I i) ∧ i ≠ b) (i2.mono (fun i _ => by
        by_cases he : i = p.n
        · subst he; have e1 : p.n ≠ a := by omega
          have e2 : p.n ≠ b := by omega
          simp [e1, e2, need, Nd.work]
        · simp [he]) (fun _ _ hh => hh)) (fun i _ hh => by
        rcases hh with ⟨hh | hh, h4⟩
        · exact hh
        · exact absurd (h.inb i hh) h4) (by rw [join_n, node_n]; omega) (by rw [join_n, node_n]; omega) (by omega) hoa hob rfl c hcc (open_ ≠ 6 ∧ j = 0 ∧ 0 < nmb (m.tdiv 11) 4) (fun hh => hh.1)
    refine ⟨k1, by rw [k2, join_n, node_n]; omega, by rw [k2, join_n, node_n]; omega, by rw [k2, k3, join_n, node_n, join_m, node_m]; omega, k4⟩
  · simp only [hm, if_false]
    obtain ⟨k1, k2, k3, k4⟩ := last p b I h.inv (fun i _ hh => h.inb i hh) (Nat.le_refl _) hlb h.b0 rfl rfl rfl c hcc (open_ ≠ 6 ∧ j = 0 ∧ 0 < nmb (m.tdiv 11) 4) (fun hh => hh.1)
    exact ⟨k1, by rw [k2]; omega, by rw [k2]; omega, by rw [k2, k3]; omega, k4⟩
end
end Pr
end Go.Proofs.YtkffnfgdmcebdaaGreatDoor
namespace Go.Proofs.YtkffnfgdmcebdaaGreatDoor
open Go.RowKit

namespace Pr
section
variable {p : P} {at_ : Nat}
theorem ways_st {a b : Nat} {open_ : Int} {oa : Nat} {I : Nat → Prop} (h : Wy p a b open_ oa I) (ho : open_ = 5 ∨ open_ = 6 ∨ open_ = 7) (m : Int) : ∀ j, 0 < j → j ≤ 9 →
    Wy (ways a b m open_ j p) a b open_ (oa - j) (fun _ => False) ∧ p.n ≤ (ways a b m open_ j p).n ∧ (ways a b m open_ j p).n ≤ p.n + j ∧ (ways a b m open_ j p).m + p.n ≤ p.m + (ways a b m open_ j p).n + j ∧ (ways a b m open_ j p).name = p.name
  | 0, h0, _ => absurd h0 (Nat.lt_irrefl 0)
  | 1, _, _ => by
    obtain ⟨k1, k2, k3, k4, k5⟩ := h.way ho m 0 (by decide)
    exact ⟨k1, k2, k3, k4, k5⟩
  | j + 2, _, h9 => by
    obtain ⟨k1, k2, k3, k4, k5⟩ := ways_st h ho m (j + 1) (by omega) (by omega)
    obtain ⟨l1, l2, l3, l4, l5⟩ := k1.way ho m (j + 1) (by omega)
    have hw : ways a b m open_ (j + 2) p = way a b m open_ (j + 1) (ways a b m open_ (j + 1) p) := rfl
    rw [hw]
    clear hw
    generalize ways a b m open_ (j + 1) p = q at *
    refine ⟨?_, ?_, ?_, ?_, ?_⟩
    · rwa [show oa - (j + 2) = oa - (j + 1) - 1 from by omega]
    · omega
    · omega
    · omega
    · exact l5.trans k5
theorem parts_st (h : St p at_) (m open_ shut : Int) (ho : open_ = 5 ∨ open_ = 6 ∨ open_ = 7) (hs : shut = 5 ∨ shut = 6 ∨ shut = 7) : St (parts p at_ m open_ shut).1 (parts p at_ m open_ shut).2 ∧ Up p (parts p at_ m open_ shut).1 5 := by
  have hl := h.lt
  have s1 := h.next (Nd.plain open_) (field_plain (by omega)) (by show open_ ≠ 1; omega) (by show open_ ≠ 2; omega) rfl
  unfold parts
  have hka : (((p.node (Nd.plain open_)).join at_ p.n no).nodes[p.n]!).kind = open_ := by
    show ((p.node (Nd.plain open_)).nodes[p.n]!).kind = open_
    rw [node_new]; rfl
  have n1 : ((p.node (Nd.plain open_)).join at_ p.n no).n = p.n + 1 := by rw [join_n, node_n]
  have m1 : ((p.node (Nd.plain open_)).join at_ p.n no).m = p.m + 1 := by rw [join_m, node_m]
  have nm1 : ((p.node (Nd.plain open_)).join at_ p.n no).name = p.name := rfl
  simp only []
  generalize (p.node (Nd.plain open_)).join at_ p.n no = p1 at *
  have i2 := s1.inv.node (Nd.plain shut) (field_plain (by omega)) (by show shut ≠ 1; omega) rfl
  have hw : Wy (p1.node (Nd.plain shut)) p.n (p.n + 1) open_ 1 (fun i => i = p1.n ∨ False) := by
    refine ⟨i2.mono ?_ (fun _ _ h => h), ?_, by rw [node_n]; omega, by rw [node_n]; omega, by omega, by omega, ?_, ?_⟩
    · intro i _
      have hnd : need (Nd.plain shut) = 1 := by unfold need; rw [if_neg (by show ¬ shut = 2; omega)]
      by_cases he : i = p.n + 1
      · subst he; simp [n1, hnd]
      · simp [he, n1]
    · intro i hi; rcases hi with hi | hi
      · omega
      · exact hi.elim
    · rw [node_old _ (by omega)]; exact hka
    · rw [← n1, node_new]; show shut ≠ 2; omega
  have hn : 2 ≤ (2 + nmb m 2).toNat ∧ (2 + nmb m 2).toNat ≤ 3 := by unfold nmb; omega
  obtain ⟨k1, k2, k3, k4, k5⟩ := ways_st hw ho m (2 + nmb m 2).toNat (by omega) (by omega)
  rw [node_n, node_m] at k4
  rw [node_n] at k2 k3
  generalize ways p.n (p.n + 1) m open_ (2 + nmb m 2).toNat (p1.node (Nd.plain shut)) = q at *
  refine ⟨⟨k1.inv.mono ?_ (fun _ _ h => h), k1.lb, k1.kb⟩, by omega, by omega, by omega, k5.trans nm1⟩
  intro i _
  by_cases he : i = p.n
  · subst he; simp; omega
  · simp [he]
theorem loop_st (h : St p at_) (m : Int) : St (loop p at_ m).1 (loop p at_ m).2 ∧ Up p (loop p at_ m).1 3 := by
  have hl := h.lt
  have s1 := h.next (Nd.plain 5) (field_plain (.inr (.inl rfl))) (by show (5 : Int) ≠ 1; decide) (by show (5 : Int) ≠ 2; decide) rfl
  unfold loop
  have hka : (((p.node (Nd.plain 5)).join at_ p.n no).nodes[p.n]!).kind = 5 := by
    show ((p.node (Nd.plain 5)).nodes[p.n]!).kind = 5
    rw [node_new]; rfl
  have n1 : ((p.node (Nd.plain 5)).join at_ p.n no).n = p.n + 1 := by rw [join_n, node_n]
  have m1 : ((p.node (Nd.plain 5)).join at_ p.n no).m = p.m + 1 := by rw [join_m, node_m]
  have nm1 : ((p.node (Nd.plain 5)).join at_ p.n no).name = p.name := rfl
  simp only []
  generalize (p.node (Nd.plain 5)).join at_ p.n no = p1 at *
  have hW : FieldOk (Nd.work (bs (topics m)) 0 1) := field_work (nm_topic m) rfl rfl
  have i2 := s1.inv.node _ hW (by show (4 : Int) ≠ 1; decide) rfl
  have w2 : (p1.node (Nd.work (bs (topics m)) 0 1)).nodes[p.n + 1]! = { Nd.work (bs (topics m)) 0 1 with dflt := -1, tgt := -1 } := by rw [← n1]; exact node_new _
  have a2 : ((p1.node (Nd.work (bs (topics m)) 0 1)).nodes[p.n]!).kind = 5 := by rw [node_old _ (by omega)]; exact hka
  have n2 : (p1.node (Nd.work (bs (topics m)) 0 1)).n = p.n + 2 := by rw [node_n]; omega
  have m2 : (p1.node (Nd.work (bs (topics m)) 0 1)).m = p.m + 1 := by rw [node_m]; exact m1
  have nm2 : (p1.node (Nd.work (bs (topics m)) 0 1)).name = p.name := nm1
  have hnW : need (Nd.work (bs (topics m)) 0 1) = 1 := by unfold need; rw [if_neg (by show ¬ (4 : Int) = 2; decide)]
  rw [hnW] at i2
  generalize p1.node (Nd.work (bs (topics m)) 0 1) = p2 at *
  have i3 := i2.node (Nd.plain 5) (field_plain (.inr (.inl rfl))) (by show (5 : Int) ≠ 1; decide) rfl
  have w3 : ((p2.node (Nd.plain 5)).nodes[p.n + 1]!).kind = 4 := by rw [node_old _ (by omega), w2]; rfl
  have a3 : ((p2.node (Nd.plain 5)).nodes[p.n]!).kind = 5 := by rw [node_old _ (by omega)]; exact a2
  have b3 : ((p2.node (Nd.plain 5)).nodes[p.n + 2]!).kind = 5 := by rw [← n2, node_new]; rfl
  have n3 : (p2.node (Nd.plain 5)).n = p.n + 3 := by rw [node_n]; omega
  have m3 : (p2.node (Nd.plain 5)).m = p.m + 1 := by rw [node_m]; exact m2
  have nm3 : (p2.node (Nd.plain 5)).name = p.name := nm2
  have hn5 : need (Nd.plain 5) = 1 := by unfold need; rw [if_neg (by show ¬ (5 : Int) = 2; decide)]
  rw [hn5, n1, n2] at i3
  generalize p2.node (Nd.plain 5) = p3 at *
  have i4 := i3.join (a := p.n) (b := p.n + 1) (bs (conds (wrap64 (3 + m)))) (by omega) (by omega) (by omega) (.inl a3) (.inr ⟨.inl a3, _, rfl⟩)
  have i5 := i4.join (a := p.n + 1) (b := p.n) no (by rw [join_n]; omega) (by rw [join_n]; omega) (by omega) (.inr (.inr (.inr ⟨by show (p3.nodes[p.n + 1]!).kind ≠ 2; rw [w3]; decide, by simp⟩))) (.inl rfl)
  have a5 : ((((p3.join p.n (p.n + 1 : Nat) (bs (conds (wrap64 (3 + m))))).join (p.n + 1 : Nat) p.n no).nodes[p.n]!).kind) = 5 := a3
  have b5 : ((((p3.join p.n (p.n + 1 : Nat) (bs (conds (wrap64 (3 + m))))).join (p.n + 1 : Nat) p.n no).nodes[p.n + 2]!).kind) = 5 := b3
  have n5 : ((p3.join p.n (p.n + 1 : Nat) (bs (conds (wrap64 (3 + m))))).join (p.n + 1 : Nat) p.n no).n = p.n + 3 := n3
  have m5 : ((p3.join p.n (p.n + 1 : Nat) (bs (conds (wrap64 (3 + m))))).join (p.n + 1 : Nat) p.n no).m = p.m + 3 := by rw [join_m, join_m]; omega
  have nm5 : ((p3.join p.n (p.n + 1 : Nat) (bs (conds (wrap64 (3 + m))))).join (p.n + 1 : Nat) p.n no).name = p.name := nm3
  generalize (p3.join p.n (p.n + 1 : Nat) (bs (conds (wrap64 (3 + m))))).join (p.n + 1 : Nat) p.n no = p5 at *
  have i6 := i5.join (a := p.n) (b := p.n + 2) no (by omega) (by omega) (by omega) (.inl a5) (.inl rfl)
  have i7 := i6.dflt (k := p.n) (j := p5.m) (by rw [join_n]; omega) (.inl a5) (by rw [join_m]; omega) (by rw [join_new])
  refine ⟨⟨i7.mono ?_ ?_, ?_, ?_⟩, ?_, ?_, ?_, nm5⟩
  · intro i _
    by_cases h1 : i = p.n
    · subst h1; simp
    · by_cases h2 : i = p.n + 1
      · subst h2; simp
      · by_cases h3 : i = p.n + 2
        · subst h3; simp
        · simp [h1, h2, h3]
  · rintro i _ ⟨⟨⟨h1 | h1 | h1, h2⟩, h3⟩, h4⟩
    · exact h4 h1
    · exact h2 h1
    · exact h1
  · rw [set_n, join_n]; omega
  · rw [set_other (by omega)]
    show (p5.nodes[p.n + 2]!).kind ≠ 2
    rw [b5]; decide
  · rw [set_n, join_n]; omega
  · rw [set_n, join_n]; omega
  · rw [set_n, set_m, join_n, join_m]; omega
theorem piece_st (h : St p at_) (rings : Bool) (kd m : Int) : St (piece rings kd m p at_).1 (piece rings kd m p at_).2 ∧ Up p (piece rings kd m p at_).1 5 := by
  have hw : ∀ {q : P} {k : Nat}, Up p q k → k ≤ 5 → Up p q 5 := fun h hk => ⟨h.n0, Nat.le_trans h.n1 (by omega), h.m, h.name⟩
  unfold piece
  simp only []
  split
  · exact ⟨(work_st h m).1, hw (work_st h m).2 (by decide)⟩
  split
  · exact parts_st h m 5 5 (by decide) (by decide)
  split
  · exact parts_st h m 6 6 (by decide) (by decide)
  split
  · exact parts_st h m 7 7 (by decide) (by decide)
  split
  · exact ⟨(loop_st h m).1, hw (loop_st h m).2 (by decide)⟩
  · exact ⟨(work_st h m).1, hw (work_st h m).2 (by decide)⟩
theorem start_st : St ⟨bs [112], [Nd.plain 1], []⟩ 0 := by
  refine ⟨⟨by decide, ?_, ?_, ?_, ?_, ?_⟩, by decide, by decide⟩
  · intro i hi
    obtain rfl : i = 0 := by have hi : i < 1 := hi; omega
    exact ⟨fun _ => rfl, fun _ => rfl⟩
  · intro f hf; cases hf
  · intro i hi
    obtain rfl : i = 0 := by have hi : i < 1 := hi; omega
    exact ⟨.inl rfl, fun h => absurd h (by decide), fun _ => ⟨rfl, rfl, rfl⟩, rfl, .inl rfl⟩
  · intro i h0 hi; have hi : i < 1 := hi; omega
  · intro i hi
    obtain rfl : i = 0 := by have hi : i < 1 := hi; omega
    refine ⟨fun _ => rfl, fun h => absurd h (by decide), fun h => absurd h (by decide), fun h => absurd h (by decide), fun h => absurd h (by decide), .inl rfl, fun _ => rfl⟩
theorem pieces_st (rings : Bool) (kinds more : List Int) : ∀ i, St (pieces rings kinds more i).1 (pieces rings kinds more i).2 ∧ (pieces rings kinds more i).1.n ≤ 26 ∧ (pieces rings kinds more i).1.m + 2 ≤ 2 * (pieces rings kinds more i).1.n ∧ (pieces rings kinds more i).1.name = bs [112]
  | 0 => ⟨start_st, by show 1 ≤ 26; decide, by show 0 + 2 ≤ 2 * 1; decide, rfl⟩
  | i + 1 => by
    obtain ⟨h1, h2, h3, h4⟩ := pieces_st rings kinds more i
    unfold pieces
    simp only []
    split
    · rename_i hlt
      obtain ⟨k1, k2⟩ := piece_st h1 rings kinds[i]! (pick more i)
      have := k2.n1
      have := k2.m
      exact ⟨k1, by omega, by omega, k2.name.trans h4⟩
    · exact ⟨h1, h2, h3, h4⟩
/-- Nothing is owed. -/
theorem good_inv (kinds more : List Int) (rings : Bool) : Inv (good kinds more rings) (fun _ => 0) (fun _ => False) ∧ 2 ≤ (good kinds more rings).n ∧ (good kinds more rings).n ≤ 27 ∧ (good kinds more rings).m ≤ 52 ∧ (good kinds more rings).name = bs [112] := by
  obtain ⟨h1, h2, h3, h4⟩ := pieces_st rings kinds more kinds.length
  unfold good
  generalize pieces rings kinds more kinds.length = r at *
  obtain ⟨q, at_⟩ := r
  dsimp only at *
  have hl := h1.lt
  have i1 := h1.inv.node (Nd.plain 2) (field_plain (.inl rfl)) (by show (2 : Int) ≠ 1; decide) rfl
  have hold : (q.node (Nd.plain 2)).nodes[at_]! = q.nodes[at_]! := node_old _ hl
  have i2 := i1.join (a := at_) (b := q.n) no (by rw [node_n]; omega) (by rw [node_n]; omega) h1.inv.pos (.inr (.inr (.inr ⟨by rw [hold]; exact h1.kind, by show 0 < (if at_ = q.n then need _ else if at_ = at_ then 1 else 0); rw [if_neg (Nat.ne_of_lt hl), if_pos rfl]; decide⟩))) (.inl rfl)
  refine ⟨i2.mono ?_ ?_, ?_, ?_, ?_, h4⟩
  · intro i _
    by_cases he : i = at_
    · subst he; simp [need, Nd.plain]; split <;> rfl
    · by_cases h5 : i = q.n
      · subst h5; simp [he, need, Nd.plain]
      · simp [he, h5]
  · rintro i _ ⟨h5 | h5, h6⟩
    · exact h6 h5
    · exact h5
  · have := h1.inv.pos; rw [join_n, node_n]; omega
  · rw [join_n, node_n]; omega
  · rw [join_m, node_m]; omega
end
end Pr
end Go.Proofs.YtkffnfgdmcebdaaGreatDoor
namespace Go.Proofs.YtkffnfgdmcebdaaGreatDoor.Rc

/-- One comes from a to b, by one step or more. -/
inductive Way (L : Nat → List Nat) (a : Nat) : Nat → Prop
  | one {b : Nat} (h : b ∈ L a) : Way L a b
  | more {b c : Nat} (h : Way L a b) (hc : c ∈ L b) : Way L a c
theorem Way.trans {L : Nat → List Nat} {a b c : Nat} (h : Way L a b) (h2 : Way L b c) : Way L a c := by
  induction h2 with
  | one h3 => exact .more h h3
  | more _ h4 ih => exact .more ih h4
theorem Way.less {L : Nat → List Nat} {a b c : Nat} (hb : b ∈ L a) (h : Way L b c) : Way L a c := (Way.one hb).trans h
theorem Way.turn {L M : Nat → List Nat} (hm : ∀ a b, b ∈ L a → a ∈ M b) {a b : Nat} (h : Way L a b) : Way M b a := by
  induction h with
  | one h => exact .one (hm _ _ h)
  | more _ h2 ih => exact Way.less (hm _ _ h2) ih
theorem Way.rank {L : Nat → List Nat} {r : Nat → Nat} (hr : ∀ a b, b ∈ L a → r a < r b) {a b : Nat} (h : Way L a b) : r a < r b := by
  induction h with
  | one h => exact hr _ _ h
  | more _ h2 ih => exact Nat.lt_trans ih (hr _ _ h2)

/-- How many are not marked. -/
def unm (f : Nat → Bool) (n : Nat) : Nat := (List.range n).countP fun v => !f v
def mark (f : Nat → Bool) (x : Nat) : Nat → Bool := fun v => if v = x then true else f v
theorem mark_at (f : Nat → Bool) (x : Nat) : mark f x x = true := if_pos rfl
theorem mark_up {f : Nat → Bool} {v : Nat} (x : Nat) (h : f v = true) : mark f x v = true := by
  unfold mark; split
  · rfl
  · exact h
theorem mark_or {f : Nat → Bool} {x v : Nat} (h : mark f x v = true) : v = x ∨ f v = true := by
  unfold mark at h
  by_cases e : v = x
  · exact .inl e
  · rw [if_neg e] at h; exact .inr h
theorem countP_mark (f : Nat → Bool) (x : Nat) (hf : f x = false) : ∀ l : List Nat, l.Nodup → x ∈ l → l.countP (fun v => !mark f x v) + 1 = l.countP fun v => !f v
  | [], _, h => by cases h
  | y :: l, hn, h => by
    rw [List.nodup_cons] at hn
    rw [List.countP_cons, List.countP_cons]
    by_cases e : y = x
    · subst e
      have h1 : l.countP (fun v => !mark f y v) = l.countP fun v => !f v := by
        apply List.countP_congr
        intro v hv
        have : v ≠ y := fun e => hn.1 (e ▸ hv)
        unfold mark; rw [if_neg this]
      rw [h1, mark_at, hf]; rfl
    · have hx : x ∈ l := by
        cases h with
        | head => exact absurd rfl e
        | tail _ h => exact h
      have h1 := countP_mark f x hf l hn.2 hx
      have h2 : mark f x y = f y := by unfold mark; rw [if_neg e]
      rw [h2]; omega
theorem unm_mark {f : Nat → Bool} {x n : Nat} (hf : f x = false) (hx : x < n) : unm (mark f x) n + 1 = unm f n :=
  countP_mark f x hf _ List.nodup_range (List.mem_range.2 hx)

theorem unm_le (f : Nat → Bool) (n : Nat) : unm f n ≤ n := Nat.le_trans List.countP_le_length (by rw [List.length_range]; exact Nat.le_refl _)
/-- Between two places: all that are come to are right; of each that does not wait all that follow are come to. -/
structure Do (n : Nat) (L : Nat → List Nat) (a : Nat) (f : Nat → Bool) (S : List Nat) : Prop where
  sound : ∀ v, f v = true → v < n ∧ Way L a v
  stk : ∀ v ∈ S, v < n ∧ (v = a ∨ f v = true)
  done : ∀ v, (v = a ∨ f v = true) → v ∈ S ∨ ∀ x ∈ L v, f x = true
/-- In the midst of one. -/
structure Df (n : Nat) (L : Nat → List Nat) (a : Nat) (f : Nat → Bool) (S : List Nat) (u t : Nat) : Prop where
  sound : ∀ v, f v = true → v < n ∧ Way L a v
  stk : ∀ v ∈ S, v < n ∧ (v = a ∨ f v = true)
  cur : u < n ∧ (u = a ∨ f u = true)
  part : ∀ x ∈ (L u).take t, f x = true
  done : ∀ v, v ≠ u → (v = a ∨ f v = true) → v ∈ S ∨ ∀ x ∈ L v, f x = true
section
variable {n : Nat} {L : Nat → List Nat} {a : Nat} {f : Nat → Bool} {S : List Nat} {u t : Nat}
theorem Do.start (ha : a < n) : Do n L a (fun _ => false) [a] where
  sound := fun v h => by cases h
  stk := fun v h => by obtain rfl := List.mem_singleton.1 h; exact ⟨ha, .inl rfl⟩
  done := fun v h => by
    rcases h with rfl | h
    · exact .inl (List.mem_singleton.2 rfl)
    · cases h
theorem Do.pop (h : Do n L a f (S ++ [u])) : Df n L a f S u 0 where
  sound := h.sound
  stk := fun v hv => h.stk v (List.mem_append_left _ hv)
  cur := h.stk u (List.mem_append_right _ (List.mem_singleton.2 rfl))
  part := fun x hx => by simp at hx
  done := fun v hv hc => by
    rcases h.done v hc with h1 | h1
    · rcases List.mem_append.1 h1 with h2 | h2
      · exact .inl h2
      · exact absurd (List.mem_singleton.1 h2) hv
    · exact .inr h1
theorem take_more {α : Type} {l : List α} {t : Nat} {x : α} (hx : l[t]? = some x) : l.take (t + 1) = l.take t ++ [x] := by
  rw [List.take_add_one, hx]; rfl
theorem Df.old (h : Df n L a f S u t) {x : Nat} (hx : (L u)[t]? = some x) (hf : f x = true) : Df n L a f S u (t + 1) where
  sound := h.sound
  stk := h.stk
  cur := h.cur
  part := fun y hy => by
    rw [take_more hx] at hy
    rcases List.mem_append.1 hy with h1 | h1
    · exact h.part y h1
    · rw [List.mem_singleton.1 h1]; exact hf
  done := h.done
theorem Df.new (h : Df n L a f S u t) {x : Nat} (hx : (L u)[t]? = some x) (hxn : x < n) : Df n L a (mark f x) (S ++ [x]) u (t + 1) where
  sound := fun v hv => by
    rcases mark_or hv with rfl | h1
    · refine ⟨hxn, ?_⟩
      have hm : v ∈ L u := List.mem_of_getElem? hx
      rcases h.cur.2 with e | e
      · exact .one (e ▸ hm)
      · exact .more (h.sound u e).2 hm
    · exact h.sound v h1
  stk := fun v hv => by
    rcases List.mem_append.1 hv with h1 | h1
    · obtain ⟨h2, h3⟩ := h.stk v h1
      exact ⟨h2, h3.imp id (mark_up x)⟩
    · rw [List.mem_singleton.1 h1]; exact ⟨hxn, .inr (mark_at f x)⟩
  cur := ⟨h.cur.1, h.cur.2.imp id (mark_up x)⟩
  part := fun y hy => by
    rw [take_more hx] at hy
    rcases List.mem_append.1 hy with h1 | h1
    · exact mark_up x (h.part y h1)
    · rw [List.mem_singleton.1 h1]; exact mark_at f x
  done := fun v hv hc => by
    have hc' : v = x ∨ (v = a ∨ f v = true) := by
      rcases hc with e | e
      · exact .inr (.inl e)
      · exact (mark_or e).imp id .inr
    rcases hc' with rfl | hc'
    · exact .inl (List.mem_append_right _ (List.mem_singleton.2 rfl))
    · rcases h.done v hv hc' with h1 | h1
      · exact .inl (List.mem_append_left _ h1)
      · exact .inr fun y hy => mark_up x (h1 y hy)
theorem Df.fin (h : Df n L a f S u t) (ht : (L u).length ≤ t) : Do n L a f S where
  sound := h.sound
  stk := h.stk
  done := fun v hc => by
    by_cases e : v = u
    · subst e
      refine .inr fun x hx => h.part x ?_
      rw [List.take_of_length_le ht]; exact hx
    · exact h.done v e hc
/-- Closed: all that are come to, and no other. -/
theorem closed (hs : ∀ v, f v = true → v < n ∧ Way L a v) (hd : ∀ v, (v = a ∨ f v = true) → ∀ x ∈ L v, f x = true) (v : Nat) : f v = true ↔ Way L a v := by
  refine ⟨fun h => (hs v h).2, fun h => ?_⟩
  induction h with
  | one h => exact hd a (.inl rfl) _ h
  | more _ h2 ih => exact hd _ (.inr ih) _ h2
theorem Do.fin (h : Do n L a f []) (v : Nat) : f v = true ↔ Way L a v :=
  closed h.sound (fun v hc => (h.done v hc).resolve_left (by simp)) v
end
end Go.Proofs.YtkffnfgdmcebdaaGreatDoor.Rc
