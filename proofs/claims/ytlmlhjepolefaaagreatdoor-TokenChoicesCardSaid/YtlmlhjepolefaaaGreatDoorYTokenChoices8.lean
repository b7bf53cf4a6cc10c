/- A block's cells, which may be written. Mathematics of processes out of few numbers: rows of Works, choices, forks, loops. Mathematics of processes: what is amiss with one; that those out of few numbers may be. Mathematics of processes: fields that are set; a Work, a choice, a fork, a loop behind a node. Mathematics of processes: pieces in a row, and that such a process may be. Walks of package vars: Check. -/
import Derived.Test.YtlmlhjepolefaaaGreatDoorYTokenChoices1
import Derived.KernelRfl
import Derived.Test.YtlmlhjepolefaaaGreatDoorYTokenChoices14
import Derived.Deep.QuietTactic
import Derived.BigQuiet
namespace Go.Proofs.YtlmlhjepolefaaaGreatDoor
open Go.RowKit

theorem grown_trans {a w w' : World} {row : Option Nat} (h : a.grownBy w row) (k : w.grownBy w' row) : a.grownBy w' row :=
  ⟨k.os.trans h.os, k.tape.trans h.tape, k.output.trans h.output, Nat.le_trans h.size k.size, fun b hb hne => (k.block b (Nat.lt_of_lt_of_le hb h.size) hne).trans (h.block b hb hne)⟩
theorem grown_of {B : Nat} {a w w' : World} {row : Option Nat} (h : a.grownBy w row) (k : Below B w w') (hB : w.heap.size ≤ B) : a.grownBy w' row :=
  grown_trans h ⟨k.os, k.tape, k.output, k.size, fun b hb _ => k.block b (Nat.lt_of_lt_of_le hb hB)⟩

theorem below_cells {w w' : World} {b o : Nat} {v : Value} (hb : Below w.heap.size w w') (h : w.cell? ⟨b, o, none⟩ = some v) : w'.cell? ⟨b, o, none⟩ = some v :=
  (hb.cell (p := ⟨b, o, none⟩) (cell_lt h)).trans h
theorem below_drewN {B : Nat} {w w' : World} (hb : Below B w w') (n : Nat) : Below B w (w'.drewN n) := ⟨hb.os, hb.tape, hb.output, hb.size, hb.block⟩
theorem blk_lt {w : World} {b : Nat} {o : Obj} (h : w.heap[b]? = some o) : b < w.heap.size := by
  rcases Nat.lt_or_ge b w.heap.size with h' | h'
  · exact h'
  · rw [Array.getElem?_eq_none h'] at h; cases h
theorem grown_none {B : Nat} {w w' : World} (hb : Below B w w') (hB : w.heap.size ≤ B) : w.grownBy w' none :=
  ⟨hb.os, hb.tape, hb.output, hb.size, fun k hk _ => hb.block k (Nat.lt_of_lt_of_le hk hB)⟩
theorem set_grown {w w' : World} {q : Nat} (hg : w.grownBy w' (some q)) (i : Nat) (v : Value) : w.grownBy (w'.setCell ⟨q, i, none⟩ v) (some q) := grown_trans hg (grown_setCell _ ⟨q, i, none⟩ _)
/-- A block's cells, which may be written. -/
structure Cel (w : World) (q : Nat) (cs : List Value) : Prop where
  cell : ∀ (i : Nat) v, cs[i]? = some v → w.cell? ⟨q, i, none⟩ = some v
  froz : ∀ i : Nat, i < cs.length → w.frozen? ⟨q, i, none⟩ = false
  lt : q < w.heap.size
section
variable {w w' : World} {q : Nat} {cs : List Value} {row : Option Nat}
theorem Cel.set (h : Cel w q cs) {i : Nat} (hi : i < cs.length) (v : Value) : Cel (w.setCell ⟨q, i, none⟩ v) q (cs.set i v) := by
  refine ⟨fun j u hj => ?_, fun j hj => by simpa using h.froz j (by simpa using hj), by simpa using h.lt⟩
  by_cases e : i = j
  · subst e
    rw [List.getElem?_set_self hi] at hj
    obtain rfl := Option.some.inj hj
    exact World.cell?_setCell_same _ _ _ (h.cell i _ (List.getElem?_eq_getElem hi))
  · rw [List.getElem?_set_ne e] at hj
    exact (World.cell?_setCell_other _ _ _ _ (by intro h; cases h; exact e rfl)).trans (h.cell j u hj)
theorem Cel.kept (h : Cel w q cs) (hg : w.grownBy w' row) (hne : row ≠ some q) : Cel w' q cs := by
  have hb := hg.block q h.lt (fun e => hne e.symm)
  exact ⟨fun i v hi => (World.cell?_of_block (a := ⟨q, i, none⟩) hb).trans (h.cell i v hi), fun i hi => (World.frozen?_of_block (a := ⟨q, i, none⟩) hb).trans (h.froz i hi), Nat.lt_of_lt_of_le h.lt hg.size⟩
theorem Cel.below (h : Cel w q cs) {B : Nat} (hb : Below B w w') (hB : w.heap.size ≤ B) : Cel w' q cs :=
  h.kept (row := none) ⟨hb.os, hb.tape, hb.output, hb.size, fun k hk _ => hb.block k (Nat.lt_of_lt_of_le hk hB)⟩ (by simp)
theorem Cel.alloc (h : Cel w q cs) (o : Obj) : Cel (w.alloc o) q cs := h.kept (grown_alloc w o none) (by simp)
theorem Cel.drewN (h : Cel w q cs) (n : Nat) : Cel (w.drewN n) q cs := h.below (below_drewN (Below.refl w.heap.size w) n) (Nat.le_refl _)
end

theorem Cel.lit (w : World) (cs : Array Value) (t : TypeId) : Cel (w.alloc (.cells cs t)) w.heap.size cs.toList := by
  have hh := heap_alloc_new w (.cells cs t)
  refine ⟨fun i v hi => ?_, fun i hi => ?_, by simp⟩
  · have := cell_of_row (w.alloc (.cells cs t)) w.heap.size i cs t (0, 0) hh
    rw [this]; simpa using hi
  · simp
theorem grown_past {w w1 w2 : World} {row : Option Nat} {z : Nat} (h : w.grownBy w1 row) (k : w1.grownBy w2 (some z)) (hz : w.heap.size ≤ z) : w.grownBy w2 row :=
  ⟨k.os.trans h.os, k.tape.trans h.tape, k.output.trans h.output, Nat.le_trans h.size k.size, fun b hb hne => (k.block b (Nat.lt_of_lt_of_le hb h.size) (fun e => by have := Option.some.inj e; omega)).trans (h.block b hb hne)⟩
end Go.Proofs.YtlmlhjepolefaaaGreatDoor
namespace Go.Proofs.YtlmlhjepolefaaaGreatDoor
open Go.RowKit

namespace Pr
/-- A node, a flow, a process. -/
structure Nd where
  kind : Int
  topic : ByteArray
  prio : Int
  retr : Int
  dflt : Int
  code : ByteArray
  caught : ByteArray
  tgt : Int
structure Fl where
  frm : Int
  til : Int
  cond : ByteArray
structure P where
  name : ByteArray
  nodes : List Nd
  flows : List Fl
def no : ByteArray := ⟨#[]⟩
/-- A node of that Kind and nothing else. -/
def Nd.plain (k : Int) : Nd := ⟨k, no, 0, 0, -1, no, no, -1⟩
instance : Inhabited Nd := ⟨Nd.plain 0⟩
instance : Inhabited Fl := ⟨⟨0, 0, no⟩⟩
def Nd.work (t : ByteArray) (p r : Int) : Nd := ⟨4, t, p, r, -1, no, no, -1⟩
def nmb (x b : Int) : Int := x % b
def bs (l : List UInt8) : ByteArray := ⟨l.toArray⟩
def condL : List (List UInt8) := [[], [116, 114, 117, 101], [102, 97, 108, 115, 101], [97, 32, 62, 32, 50], [97, 32, 60, 32, 51, 32, 111, 114, 32, 98], [115, 32, 61, 61, 32, 34, 120, 34], [97, 32, 47, 32, 48, 32, 61, 61, 32, 49], [99], [110, 111, 116, 32, 98], [97, 32, 43, 32, 49, 32, 61, 61, 32, 51], [49], [98, 32, 97, 110, 100, 32, 97, 32, 62, 61, 32, 48]]
def topicL : List (List UInt8) := [[112, 97, 121], [115, 104, 105, 112], [97, 115, 107, 45, 49]]
def conds (n : Int) : List UInt8 := condL[(nmb n 12).toNat]!
def topics (n : Int) : List UInt8 := topicL[(nmb n 3).toNat]!
def pick (l : List Int) (i : Nat) : Int := if i < l.length then l[i]! else i
/-- One more node; one more flow. -/
def P.node (p : P) (x : Nd) : P := ⟨p.name, p.nodes ++ [{ x with dflt := -1, tgt := -1 }], p.flows⟩
def P.join (p : P) (f t : Int) (c : ByteArray) : P := ⟨p.name, p.nodes, p.flows ++ [⟨f, t, c⟩]⟩
def P.set (p : P) (k : Nat) (f : Nd → Nd) : P := ⟨p.name, p.nodes.modify k f, p.flows⟩
def P.n (p : P) : Nat := p.nodes.length
def P.m (p : P) : Nat := p.flows.length
/-- A Work behind a node. -/
def work (p : P) (at_ : Nat) (m : Int) : P × Nat :=
  let k := p.n
  let p1 := (p.node (Nd.work (bs (topics m)) (nmb (m.tdiv 3) 10) (1 + nmb (m.tdiv 7) 3))).join at_ k no
  if nmb (m.tdiv 5) 4 = 0 then
    let p2 := p1.node (Nd.plain 2)
    (((p2.set k fun x => { x with caught := bs [99, 97, 117, 103, 104, 116] }).join k p1.n no).set k fun x => { x with tgt := p2.m }, k)
  else (p1, k)
/-- A way of a gateway. -/
def way (a b : Nat) (m open_ : Int) (i : Nat) (p : P) : P :=
  let c := if open_ = 6 then no else bs (conds (wrap64 (m.tdiv 3 + i)))
  let q := if nmb (m / 2 ^ i) 2 = 0 then (p.node (Nd.work (bs (topics (wrap64 (m + i)))) i 2)).join p.n b no else p
  let t := if nmb (m / 2 ^ i) 2 = 0 then p.n else b
  let q2 := q.join a t c
  if open_ ≠ 6 ∧ i = 0 ∧ 0 < nmb (m.tdiv 11) 4 then q2.set a fun x => { x with dflt := q.m } else q2
def ways (a b : Nat) (m open_ : Int) : Nat → P → P
  | 0, p => p
  | i + 1, p => way a b m open_ i (ways a b m open_ i p)
/-- A gateway, two or three ways, a gateway again. -/
def parts (p : P) (at_ : Nat) (m open_ shut : Int) : P × Nat :=
  let a := p.n
  let p1 := ((p.node (Nd.plain open_)).join at_ a no).node (Nd.plain shut)
  (ways a (a + 1) m open_ (2 + nmb m 2).toNat p1, a + 1)
/-- A gateway that leads back by a Work. -/
def loop (p : P) (at_ : Nat) (m : Int) : P × Nat :=
  let a := p.n
  let p1 := (((p.node (Nd.plain 5)).join at_ a no).node (Nd.work (bs (topics m)) 0 1)).node (Nd.plain 5)
  let p2 := (p1.join a (a + 1 : Nat) (bs (conds (wrap64 (3 + m))))).join (a + 1 : Nat) a no
  ((p2.join a (a + 2 : Nat) no).set a fun x => { x with dflt := p2.m }, a + 2)
/-- A piece: which by a number. -/
def piece (rings : Bool) (kd m : Int) (p : P) (at_ : Nat) : P × Nat :=
  let w := nmb kd 7
  if w ≤ 2 then work p at_ m else if w = 3 then parts p at_ m 5 5 else if w = 4 then parts p at_ m 6 6 else if w = 5 then parts p at_ m 7 7
  else if rings = true then loop p at_ m else work p at_ m
def pieces (rings : Bool) (kinds more : List Int) : Nat → P × Nat
  | 0 => (⟨bs [112], [Nd.plain 1], []⟩, 0)
  | i + 1 =>
    let r := pieces rings kinds more i
    if r.1.n < 22 then piece rings (kinds[i]!) (pick more i) r.1 r.2 else r
/-- The whole. -/
def good (kinds more : List Int) (rings : Bool) : P :=
  let r := pieces rings kinds more kinds.length
  let p := r.1.node (Nd.plain 2)
  p.join r.2 r.1.n no
end Pr
end Go.Proofs.YtlmlhjepolefaaaGreatDoor
namespace Go.Proofs.YtlmlhjepolefaaaGreatDoor
open Go.RowKit

namespace Pr
/-- The flows from, to a node. -/
def outsL (p : P) (i : Nat) : List Nat := (List.range p.m).filter fun j => (p.flows[j]!).frm == (i : Int)
def insL (p : P) (i : Nat) : List Nat := (List.range p.m).filter fun j => (p.flows[j]!).til == (i : Int)
def within (x lo hi : Int) : Bool := decide (lo ≤ x) && decide (x ≤ hi)
/-- What a text is amiss as a condition. -/
def condBad (c : ByteArray) : Int := match Co.parse c.data.toList with
  | some (_, some (e, _)) => e
  | some (_, none) => 0
  | none => -1
def flowBad (p : P) (f : Fl) : Int :=
  if (within f.frm 0 (p.n - 1) && within f.til 0 (p.n - 1)) = false then 107
  else if f.cond.size = 0 then 0
  else if (p.nodes[f.frm.toNat]!).kind ≠ 5 ∧ (p.nodes[f.frm.toNat]!).kind ≠ 7 then 102
  else condBad f.cond
def shaped (p : P) (i : Nat) : Bool :=
  let x := p.nodes[i]!
  let a := (insL p i).length
  let b := (outsL p i).length
  if (x.kind == 1) != (i == 0) then false
  else if x.kind = 1 then a == 0 && b == 1
  else if x.kind = 2 ∨ x.kind = 3 then decide (0 < a) && b == 0
  else if x.kind = 4 then decide (0 < a) && (b == 1 && x.caught.size == 0 || b == 2 && decide (0 < x.caught.size))
  else if x.kind = 5 ∨ x.kind = 6 ∨ x.kind = 7 then decide (0 < a) && decide (0 < b)
  else false
def nm (s : ByteArray) : Bool := Vr.name s.toList
def has (l : List Nat) (x : Int) : Bool := l.any fun j => (j : Int) == x
def nodeBad (p : P) (i : Nat) : Int :=
  let x := p.nodes[i]!
  let wk := x.kind == 4
  let gate := x.kind == 5 || x.kind == 7
  if shaped p i = false then 102
  else if (wk && !nm x.topic || !wk && decide (0 < x.topic.size) || x.kind == 3 && !nm x.code || !(x.kind == 3) && decide (0 < x.code.size) || decide (0 < x.caught.size) && (!wk || !nm x.caught)) = true then 106
  else if (wk && (!within x.prio 0 9 || !within x.retr 1 9) || !wk && (!(x.prio == 0) || !(x.retr == 0))) = true then 107
  else if (!(x.dflt == -1) && (!gate || !has (outsL p i) x.dflt) || x.caught.size == 0 && !(x.tgt == -1) || decide (0 < x.caught.size) && !has (outsL p i) x.tgt) = true then 102
  else 0
/-- What is amiss first, and where. -/
def check (p : P) : Int × Option Nat :=
  if nm p.name = false then (106, none)
  else if (within p.n 2 30 && decide (p.m ≤ 60)) = false then (104, none)
  else match (List.range p.m).find? (fun j => !(flowBad p p.flows[j]! == 0)) with
    | some j => (flowBad p p.flows[j]!, some (100 + j))
    | none => match (List.range p.n).find? (fun i => !(nodeBad p i == 0)) with
      | some i => (nodeBad p i, some i)
      | none => (0, none)

/-- How many flows lead from, to a node. -/
def cO (p : P) (i : Nat) : Nat := p.flows.countP fun f => f.frm == (i : Int)
def cI (p : P) (i : Nat) : Nat := p.flows.countP fun f => f.til == (i : Int)
theorem countP_range {α : Type} [Inhabited α] (l : List α) (q : α → Bool) : ((List.range l.length).filter fun j => q l[j]!).length = l.countP q := by
  have h : l = (List.range l.length).map fun j => l[j]! := by
    apply List.ext_getElem
    · simp
    · intro i h1 h2
      simp [h1]
  conv => rhs; rw [h]
  rw [List.countP_map, List.countP_eq_length_filter]
  rfl
theorem outs_len (p : P) (i : Nat) : (outsL p i).length = cO p i := countP_range p.flows fun f => f.frm == (i : Int)
theorem ins_len (p : P) (i : Nat) : (insL p i).length = cI p i := countP_range p.flows fun f => f.til == (i : Int)
theorem has_of {p : P} {i j : Nat} (hj : j < p.m) (h : (p.flows[j]!).frm = (i : Int)) : has (outsL p i) (j : Int) = true := by
  unfold has
  rw [List.any_eq_true]
  refine ⟨j, ?_, by simp⟩
  unfold outsL
  rw [List.mem_filter]
  exact ⟨List.mem_range.2 hj, beq_iff_eq.2 h⟩
/-- A node's own fields. -/
structure FieldOk (x : Nd) : Prop where
  kind : x.kind = 1 ∨ x.kind = 2 ∨ x.kind = 4 ∨ x.kind = 5 ∨ x.kind = 6 ∨ x.kind = 7
  wk : x.kind = 4 → nm x.topic = true ∧ within x.prio 0 9 = true ∧ within x.retr 1 9 = true
  nowk : x.kind ≠ 4 → x.topic = no ∧ x.prio = 0 ∧ x.retr = 0
  code : x.code = no
  caught : x.caught = no ∨ (x.kind = 4 ∧ x.caught = bs [99, 97, 117, 103, 104, 116])
/-- A node's flows: so many are owed. -/
structure OutOk (p : P) (i : Nat) (o : Nat) : Prop where
  start : (p.nodes[i]!).kind = 1 → cO p i + o = 1
  fin : (p.nodes[i]!).kind = 2 → cO p i = 0
  wk0 : (p.nodes[i]!).kind = 4 → (p.nodes[i]!).caught = no → cO p i + o = 1
  wk1 : (p.nodes[i]!).kind = 4 → (p.nodes[i]!).caught ≠ no → cO p i + o = 2 ∧ ∃ j : Nat, j < p.m ∧ (p.nodes[i]!).tgt = j ∧ (p.flows[j]!).frm = (i : Int)
  gate : ((p.nodes[i]!).kind = 5 ∨ (p.nodes[i]!).kind = 6 ∨ (p.nodes[i]!).kind = 7) → 0 < cO p i + o
  dflt : (p.nodes[i]!).dflt = -1 ∨ (((p.nodes[i]!).kind = 5 ∨ (p.nodes[i]!).kind = 7) ∧ ∃ j : Nat, j < p.m ∧ (p.nodes[i]!).dflt = j ∧ (p.flows[j]!).frm = (i : Int))
  tgt : (p.nodes[i]!).caught = no → (p.nodes[i]!).tgt = -1
structure FlowOk (p : P) (f : Fl) : Prop where
  ends : ∃ a b : Nat, f.frm = a ∧ f.til = b ∧ a < p.n ∧ b < p.n ∧ 0 < b
  cond : f.cond = no ∨ (((p.nodes[f.frm.toNat]!).kind = 5 ∨ (p.nodes[f.frm.toNat]!).kind = 7) ∧ ∃ k : Int, f.cond = bs (conds k))
/-- A process under way: o is owed, no way leads to I yet. -/
structure Inv (p : P) (o : Nat → Nat) (I : Nat → Prop) : Prop where
  pos : 0 < p.n
  start : ∀ i, i < p.n → ((p.nodes[i]!).kind = 1 ↔ i = 0)
  flow : ∀ f ∈ p.flows, FlowOk p f
  field : ∀ i, i < p.n → FieldOk (p.nodes[i]!)
  ins : ∀ i, 0 < i → i < p.n → ¬ I i → 0 < cI p i
  outs : ∀ i, i < p.n → OutOk p i (o i)
theorem Inv.mono {p : P} {o o' : Nat → Nat} {I I' : Nat → Prop} (h : Inv p o I) (ho : ∀ i, i < p.n → o i = o' i) (hI : ∀ i, i < p.n → I i → I' i) : Inv p o' I' :=
  ⟨h.pos, h.start, h.flow, h.field, fun i h0 hi hn => h.ins i h0 hi fun hh => hn (hI i hi hh), fun i hi => by rw [← ho i hi]; exact h.outs i hi⟩
section
variable {p : P} {o : Nat → Nat} {I : Nat → Prop}
theorem node_n (x : Nd) : (p.node x).n = p.n + 1 := by simp [P.node, P.n]
theorem node_old (x : Nd) {i : Nat} (h : i < p.n) : (p.node x).nodes[i]! = p.nodes[i]! := by
  have h' : i < p.nodes.length := h
  simp [P.node, List.getElem!_eq_getElem?_getD, List.getElem?_append_left h']
theorem node_new (x : Nd) : (p.node x).nodes[p.n]! = { x with dflt := -1, tgt := -1 } := by
  simp [P.node, P.n]
theorem cO_far (h : ∀ f ∈ p.flows, FlowOk p f) {i : Nat} (hi : p.n ≤ i) : cO p i = 0 := by
  unfold cO
  rw [List.countP_eq_zero]
  intro f hf
  obtain ⟨a, b, h1, _, h3, _⟩ := (h f hf).ends
  rw [h1]
  simp
  omega
theorem FlowOk.node {f : Fl} (h : FlowOk p f) (x : Nd) : FlowOk (p.node x) f := by
  obtain ⟨a, b, h1, h2, h3, h4, h5⟩ := h.ends
  refine ⟨⟨a, b, h1, h2, by rw [node_n]; omega, by rw [node_n]; omega, h5⟩, ?_⟩
  have : f.frm.toNat < p.n := by omega
  rw [node_old x this]
  exact h.cond
/-- How many flows a fresh node owes. -/
def need (x : Nd) : Nat := if x.kind = 2 then 0 else 1
theorem Inv.node (h : Inv p o I) (x : Nd) (hx : FieldOk x) (hk : x.kind ≠ 1) (hc : x.caught = no) :
    Inv (p.node x) (fun i => if i = p.n then need x else o i) (fun i => i = p.n ∨ I i) where
  pos := by rw [node_n]; omega
  start i hi := by
    rw [node_n] at hi
    by_cases he : i = p.n
    · subst he
      rw [node_new]
      have := h.pos
      constructor
      · intro h1; exact absurd h1 hk
      · intro h1; omega
    · rw [node_old x (by omega)]; exact h.start i (by omega)
  flow f hf := (h.flow f hf).node x
  field i hi := by
    rw [node_n] at hi
    by_cases he : i = p.n
    · subst he; rw [node_new]; exact ⟨hx.kind, hx.wk, hx.nowk, hx.code, hx.caught⟩
    · rw [node_old x (by omega)]; exact h.field i (by omega)
  ins i h0 hi hn := by
    rw [node_n] at hi
    have he : i ≠ p.n := fun e => hn (.inl e)
    exact h.ins i h0 (by omega) fun hh => hn (.inr hh)
  outs i hi := by
    rw [node_n] at hi
    by_cases he : i = p.n
    · subst he
      rw [if_pos rfl]
      have hz : cO (p.node x) p.n = 0 := cO_far (p := p) h.flow (Nat.le_refl _)
      have hnew : (p.node x).nodes[p.n]! = { x with dflt := -1, tgt := -1 } := node_new x
      refine ⟨?_, ?_, ?_, ?_, ?_, ?_, ?_⟩ <;> rw [hnew]
      · intro h1; exact absurd h1 hk
      · intro _; exact hz
      · intro h1 _; rw [hz]; unfold need; rw [if_neg (by rw [show x.kind = 4 from h1]; decide)]
      · intro _ h1; exact absurd hc h1
      · intro h1; rw [hz]; unfold need; rw [if_neg (by intro e; have h1 : x.kind = 5 ∨ x.kind = 6 ∨ x.kind = 7 := h1; omega)]; decide
      · exact .inl rfl
      · intro _; rfl
    · rw [if_neg he]
      have h1 := h.outs i (by omega)
      have hold : (p.node x).nodes[i]! = p.nodes[i]! := node_old x (by omega)
      refine ⟨?_, ?_, ?_, ?_, ?_, ?_, ?_⟩ <;> rw [hold]
      · exact h1.start
      · exact h1.fin
      · exact h1.wk0
      · exact h1.wk1
      · exact h1.gate
      · exact h1.dflt
      · exact h1.tgt
theorem join_old {a b : Int} (c : ByteArray) {j : Nat} (h : j < p.m) : (p.join a b c).flows[j]! = p.flows[j]! := by
  have h' : j < p.flows.length := h
  simp [P.join, List.getElem!_eq_getElem?_getD, List.getElem?_append_left h']
theorem join_new {a b : Int} (c : ByteArray) : (p.join a b c).flows[p.m]! = ⟨a, b, c⟩ := by
  simp [P.join, P.m]
theorem join_m {a b : Int} (c : ByteArray) : (p.join a b c).m = p.m + 1 := by simp [P.join, P.m]
theorem join_cO {a : Nat} {b : Int} (c : ByteArray) (i : Nat) : cO (p.join a b c) i = cO p i + if i = a then 1 else 0 := by
  unfold cO P.join
  rw [List.countP_append]
  by_cases h : i = a
  · subst h; simp
  · have : ((a : Int) == (i : Int)) = false := by rw [beq_eq_false_iff_ne]; omega
    simp [h, this]
theorem join_cI {a : Int} {b : Nat} (c : ByteArray) (i : Nat) : cI (p.join a b c) i = cI p i + if i = b then 1 else 0 := by
  unfold cI P.join
  rw [List.countP_append]
  by_cases h : i = b
  · subst h; simp
  · have : ((b : Int) == (i : Int)) = false := by rw [beq_eq_false_iff_ne]; omega
    simp [h, this]
theorem Inv.join (h : Inv p o I) {a b : Nat} (c : ByteArray) (ha : a < p.n) (hb : b < p.n) (hb0 : 0 < b)
    (hk : (p.nodes[a]!).kind = 5 ∨ (p.nodes[a]!).kind = 6 ∨ (p.nodes[a]!).kind = 7 ∨ ((p.nodes[a]!).kind ≠ 2 ∧ 0 < o a))
    (hc : c = no ∨ (((p.nodes[a]!).kind = 5 ∨ (p.nodes[a]!).kind = 7) ∧ ∃ k : Int, c = bs (conds k))) :
    Inv (p.join a b c) (fun i => if i = a then o a - 1 else o i) (fun i => I i ∧ i ≠ b) where
  pos := h.pos
  start := h.start
  flow f hf := by
    have hf' : f ∈ p.flows ++ [⟨a, b, c⟩] := hf
    rw [List.mem_append, List.mem_singleton] at hf'
    rcases hf' with hf' | rfl
    · obtain ⟨h1, h2⟩ := h.flow f hf'; exact ⟨h1, h2⟩
    · exact ⟨⟨a, b, rfl, rfl, ha, hb, hb0⟩, hc⟩
  field := h.field
  ins i h0 hi hn := by
    rw [join_cI]
    by_cases he : i = b
    · rw [if_pos he]; omega
    · have := h.ins i h0 hi fun hh => hn ⟨hh, he⟩
      omega
  outs i hi := by
    have h1 := h.outs i hi
    have hlift : ∀ x : Int, (∃ j : Nat, j < p.m ∧ x = j ∧ (p.flows[j]!).frm = (i : Int)) → ∃ j : Nat, j < (p.join a b c).m ∧ x = j ∧ ((p.join a b c).flows[j]!).frm = (i : Int) := by
      rintro x ⟨j, hj, h2, h3⟩
      exact ⟨j, by rw [join_m]; omega, h2, by rw [join_old c hj]; exact h3⟩
    by_cases he : i = a
    · subst he
      rw [if_pos rfl]
      have hcn : cO (p.join i b c) i = cO p i + 1 := by rw [join_cO, if_pos rfl]
      refine ⟨?_, ?_, ?_, ?_, ?_, ?_, h1.tgt⟩
      · intro hh; have hh : (p.nodes[i]!).kind = 1 := hh; have := h1.start hh; rw [hcn]; omega
      · intro hh; have hh : (p.nodes[i]!).kind = 2 := hh; omega
      · intro hh h2; have hh : (p.nodes[i]!).kind = 4 := hh; have := h1.wk0 hh h2; rw [hcn]; omega
      · intro hh h2; have hh : (p.nodes[i]!).kind = 4 := hh; have := h1.wk1 hh h2; exact ⟨by rw [hcn]; omega, hlift _ this.2⟩
      · intro _; rw [hcn]; omega
      · rcases h1.dflt with h2 | ⟨h2, h3⟩
        · exact .inl h2
        · exact .inr ⟨h2, hlift _ h3⟩
    · rw [if_neg he]
      have hcn : cO (p.join a b c) i = cO p i := by rw [join_cO, if_neg he]; rfl
      refine ⟨?_, ?_, ?_, ?_, ?_, ?_, h1.tgt⟩
      · rw [hcn]; exact h1.start
      · rw [hcn]; exact h1.fin
      · rw [hcn]; exact h1.wk0
      · rw [hcn]; intro hh h2; exact ⟨(h1.wk1 hh h2).1, hlift _ (h1.wk1 hh h2).2⟩
      · rw [hcn]; exact h1.gate
      · rcases h1.dflt with h2 | ⟨h2, h3⟩
        · exact .inl h2
        · exact .inr ⟨h2, hlift _ h3⟩
end
end Pr
end Go.Proofs.YtlmlhjepolefaaaGreatDoor
namespace Go.Proofs.YtlmlhjepolefaaaGreatDoor
open Go.RowKit

namespace Pr
section
variable {p : P} {o : Nat → Nat} {I : Nat → Prop} {k : Nat} {f : Nd → Nd}
theorem set_n : (p.set k f).n = p.n := by simp [P.set, P.n]
theorem set_at (hk : k < p.n) : (p.set k f).nodes[k]! = f (p.nodes[k]!) := by
  have hk' : k < p.nodes.length := hk
  simp [P.set, hk']
theorem set_other {i : Nat} (h : i ≠ k) : (p.set k f).nodes[i]! = p.nodes[i]! := by
  simp [P.set, List.getElem!_eq_getElem?_getD, Ne.symm h]
theorem Inv.set (h : Inv p o I) (hk : k < p.n) (hkd : (f (p.nodes[k]!)).kind = (p.nodes[k]!).kind) (hf : FieldOk (f (p.nodes[k]!))) (v : Nat) (hout : OutOk (p.set k f) k v) :
    Inv (p.set k f) (fun i => if i = k then v else o i) I := by
  have hkind : ∀ i : Nat, ((p.set k f).nodes[i]!).kind = (p.nodes[i]!).kind := by
    intro i
    by_cases he : i = k
    · subst he; rw [set_at hk]; exact hkd
    · rw [set_other he]
  refine ⟨by rw [set_n]; exact h.pos, ?_, ?_, ?_, ?_, ?_⟩
  · intro i hi; rw [set_n] at hi; rw [hkind]; exact h.start i hi
  · intro g hg
    obtain ⟨⟨a, b, h1, h2, h3, h4, h5⟩, h6⟩ := h.flow g hg
    exact ⟨⟨a, b, h1, h2, by rw [set_n]; exact h3, by rw [set_n]; exact h4, h5⟩, by rw [hkind]; exact h6⟩
  · intro i hi
    rw [set_n] at hi
    by_cases he : i = k
    · subst he; rw [set_at hk]; exact hf
    · rw [set_other he]; exact h.field i hi
  · intro i h0 hi hn; rw [set_n] at hi; exact h.ins i h0 hi hn
  · intro i hi
    rw [set_n] at hi
    by_cases he : i = k
    · subst he; rw [if_pos rfl]; exact hout
    · rw [if_neg he]
      have h1 := h.outs i hi
      refine ⟨?_, ?_, ?_, ?_, ?_, ?_, ?_⟩ <;> rw [set_other he]
      · exact h1.start
      · exact h1.fin
      · exact h1.wk0
      · exact h1.wk1
      · exact h1.gate
      · exact h1.dflt
      · exact h1.tgt
theorem Inv.dflt (h : Inv p o I) {j : Nat} (hk : k < p.n) (hg : (p.nodes[k]!).kind = 5 ∨ (p.nodes[k]!).kind = 7) (hj : j < p.m) (hfr : (p.flows[j]!).frm = (k : Int)) :
    Inv (p.set k fun x => { x with dflt := j }) o I := by
  have hfk := h.field k hk
  have hok := h.outs k hk
  have := h.set (k := k) (f := fun x => { x with dflt := j }) hk rfl ⟨hfk.kind, hfk.wk, hfk.nowk, hfk.code, hfk.caught⟩ (o k) (by
    refine ⟨?_, ?_, ?_, ?_, ?_, ?_, ?_⟩ <;> rw [set_at hk]
    · exact hok.start
    · exact hok.fin
    · exact hok.wk0
    · exact hok.wk1
    · exact hok.gate
    · exact .inr ⟨hg, j, hj, rfl, hfr⟩
    · exact hok.tgt)
  exact this.mono (fun i _ => by by_cases he : i = k <;> simp [he]) (fun _ _ h => h)
def txC : ByteArray := bs [99, 97, 117, 103, 104, 116]
theorem txC_ne : txC ≠ no := by decide
theorem Inv.caught (h : Inv p o I) {e : Nat} (hk : k < p.n) (hkd : (p.nodes[k]!).kind = 4) (hc : (p.nodes[k]!).caught = no) (ho : o k = 1) (he : e < p.n) (he0 : 0 < e) :
    Inv ((p.join k e no).set k fun x => { x with caught := txC, tgt := p.m }) o (fun i => I i ∧ i ≠ e) := by
  have hcO := (h.outs k hk).wk0 hkd hc
  have h1 := h.join (a := k) (b := e) no hk he he0 (.inr (.inr (.inr ⟨by rw [hkd]; decide, by omega⟩))) (.inl rfl)
  have hfk := h.field k hk
  have hok := h.outs k hk
  have hkJ : k < (p.join k e no).n := hk
  have hnd : (p.join k e no).nodes[k]! = p.nodes[k]! := rfl
  have := h1.set (k := k) (f := fun x => { x with caught := txC, tgt := p.m }) hkJ rfl (by rw [hnd]; exact ⟨hfk.kind, hfk.wk, hfk.nowk, hfk.code, .inr ⟨hkd, rfl⟩⟩) 1 (by
    have hcn : cO ((p.join k e no).set k fun x => { x with caught := txC, tgt := p.m }) k = 1 := by
      show cO (p.join k e no) k = 1
      rw [join_cO, if_pos rfl]; omega
    refine ⟨?_, ?_, ?_, ?_, ?_, ?_, ?_⟩ <;> rw [set_at hkJ, hnd]
    · intro hh; have hh : (p.nodes[k]!).kind = 1 := hh; omega
    · intro hh; have hh : (p.nodes[k]!).kind = 2 := hh; omega
    · intro _ hh; exact absurd hh txC_ne
    · intro _ _; exact ⟨by rw [hcn], p.m, by show p.m < (p.join k e no).m; rw [join_m]; omega, rfl, by show ((p.join k e no).flows[p.m]!).frm = _; rw [join_new]⟩
    · intro hh; have hh : (p.nodes[k]!).kind = 5 ∨ (p.nodes[k]!).kind = 6 ∨ (p.nodes[k]!).kind = 7 := hh; omega
    · rcases hok.dflt with h2 | ⟨h2, _⟩
      · exact .inl h2
      · omega
    · intro hh; exact absurd hh txC_ne)
  exact this.mono (fun i _ => by by_cases he : i = k <;> simp [he, ho]) (fun _ _ h => h)
end
/-- All is as it may be but that the last one owes a flow. -/
structure St (p : P) (at_ : Nat) : Prop where
  inv : Inv p (fun i => if i = at_ then 1 else 0) (fun _ => False)
  lt : at_ < p.n
  kind : (p.nodes[at_]!).kind ≠ 2
theorem nm_topic (m : Int) : nm (bs (topics m)) = true := by
  unfold topics
  have h : (nmb m 3).toNat < 3 := by unfold nmb; omega
  have : ∀ k, k < 3 → nm (bs topicL[k]!) = true := by decide +kernel
  exact this _ h
theorem field_work {t : ByteArray} {pr r : Int} (ht : nm t = true) (hp : within pr 0 9 = true) (hr : within r 1 9 = true) : FieldOk (Nd.work t pr r) :=
  ⟨.inr (.inr (.inl rfl)), fun _ => ⟨ht, hp, hr⟩, fun h => absurd rfl h, rfl, .inl rfl⟩
theorem field_plain {k : Int} (h : k = 2 ∨ k = 5 ∨ k = 6 ∨ k = 7) : FieldOk (Nd.plain k) :=
  ⟨by show k = 1 ∨ k = 2 ∨ k = 4 ∨ k = 5 ∨ k = 6 ∨ k = 7; omega, fun hh => by have hh : k = 4 := hh; omega, fun _ => ⟨rfl, rfl, rfl⟩, rfl, .inl rfl⟩
theorem nmb_within (x : Int) : within (nmb x 10) 0 9 = true := by
  unfold within nmb
  rw [Bool.and_eq_true, decide_eq_true_eq, decide_eq_true_eq]
  omega
theorem nmb_retr (x : Int) : within (1 + nmb x 3) 1 9 = true := by
  unfold within nmb
  rw [Bool.and_eq_true, decide_eq_true_eq, decide_eq_true_eq]
  omega
section
variable {p : P} {at_ : Nat}
/-- A fresh node behind the last one. -/
theorem St.next (h : St p at_) (x : Nd) (hx : FieldOk x) (h1 : x.kind ≠ 1) (h2 : x.kind ≠ 2) (hc : x.caught = no) : St ((p.node x).join at_ p.n no) p.n := by
  have hp := h.inv.pos
  have hl := h.lt
  have i1 := h.inv.node x hx h1 hc
  have hold : (p.node x).nodes[at_]! = p.nodes[at_]! := node_old x hl
  have i2 := i1.join (a := at_) (b := p.n) no (by rw [node_n]; omega) (by rw [node_n]; omega) hp (.inr (.inr (.inr ⟨by rw [hold]; exact h.kind, by show 0 < (if at_ = p.n then need x else if at_ = at_ then 1 else 0); rw [if_neg (Nat.ne_of_lt hl), if_pos rfl]; decide⟩))) (.inl rfl)
  refine ⟨i2.mono ?_ ?_, by show p.n < (p.node x).n; rw [node_n]; omega, ?_⟩
  · intro i _
    by_cases h3 : i = at_
    · subst h3; simp [Nat.ne_of_lt hl]
    · by_cases h4 : i = p.n
      · subst h4; simp [h3, need, h2]
      · simp [h3, h4]
  · rintro i _ ⟨h3 | h3, h4⟩
    · exact h4 h3
    · exact h3
  · show ((p.node x).nodes[p.n]!).kind ≠ 2
    rw [node_new]
    exact h2
end
end Pr
end Go.Proofs.YtlmlhjepolefaaaGreatDoor
namespace Go.Proofs.YtlmlhjepolefaaaGreatDoor
open Go.RowKit

namespace Pr
/-- From p to q: nodes that were there keep their Kind; few more of nodes, of flows. -/
structure Up (p q : P) (k : Nat) : Prop where
  n0 : p.n ≤ q.n
  n1 : q.n ≤ p.n + k
  m : q.m + 2 * p.n ≤ p.m + 2 * q.n
  name : q.name = p.name
section
variable {p : P} {at_ : Nat}
theorem join_n {a b : Int} {c : ByteArray} : (p.join a b c).n = p.n := rfl
theorem node_m {x : Nd} : (p.node x).m = p.m := rfl
theorem set_m {k : Nat} {f : Nd → Nd} : (p.set k f).m = p.m := rfl
theorem set_join_set (k : Nat) (f g : Nd → Nd) (a b : Int) (c : ByteArray) : ((p.set k f).join a b c).set k g = (p.join a b c).set k (g ∘ f) := by
  unfold P.set P.join
  simp only [List.modify_modify_eq]
theorem work_st (h : St p at_) (m : Int) : St (work p at_ m).1 (work p at_ m).2 ∧ Up p (work p at_ m).1 2 := by
  have hl := h.lt
  have hW : FieldOk (Nd.work (bs (topics m)) (nmb (m.tdiv 3) 10) (1 + nmb (m.tdiv 7) 3)) := field_work (nm_topic m) (nmb_within _) (nmb_retr _)
  have s1 := h.next _ hW (by show (4 : Int) ≠ 1; decide) (by show (4 : Int) ≠ 2; decide) rfl
  unfold work
  by_cases hm : nmb (m.tdiv 5) 4 = 0
  · simp only [hm, if_true]
    rw [set_join_set]
    generalize hp1 : (p.node (Nd.work (bs (topics m)) (nmb (m.tdiv 3) 10) (1 + nmb (m.tdiv 7) 3))).join at_ p.n no = p1 at *
    have n1 : p1.n = p.n + 1 := by rw [← hp1, join_n, node_n]
    have m1 : p1.m = p.m + 1 := by rw [← hp1, join_m, node_m]
    have hk : p1.nodes[p.n]! = { (Nd.work (bs (topics m)) (nmb (m.tdiv 3) 10) (1 + nmb (m.tdiv 7) 3)) with dflt := -1, tgt := -1 } := by rw [← hp1]; exact node_new _
    have i2 := s1.inv.node (Nd.plain 2) (field_plain (.inl rfl)) (by show (2 : Int) ≠ 1; decide) rfl
    have hk2 : (p1.node (Nd.plain 2)).nodes[p.n]! = p1.nodes[p.n]! := node_old _ (by omega)
    have i3 := i2.caught (k := p.n) (e := p1.n) (by rw [node_n]; omega) (by rw [hk2, hk]; rfl) (by rw [hk2, hk]; rfl) (by simp; omega) (by rw [node_n]; omega) (by omega)
    have hkd : (((p1.node (Nd.plain 2)).join p.n p1.n no).set p.n ((fun x => { x with tgt := (p1.node (Nd.plain 2)).m }) ∘ fun x => { x with caught := txC })).nodes[p.n]!.kind = 4 := by
      rw [set_at (by rw [join_n, node_n]; omega)]
      show ((p1.node (Nd.plain 2)).nodes[p.n]!).kind = 4
      rw [hk2, hk]; rfl
    refine ⟨⟨i3.mono ?_ ?_, ?_, ?_⟩, ?_⟩
    · intro i _
      by_cases he : i = p1.n
      · subst he; simp [need, Nd.plain, n1]
      · simp [he]
    · rintro i _ ⟨h3 | h3, h4⟩
      · exact h4 h3
      · exact h3
    · rw [set_n, join_n, node_n]; omega
    · intro hh
      have : (4 : Int) = 2 := hkd.symm.trans hh
      omega
    · refine ⟨?_, ?_, ?_, ?_⟩
      · rw [set_n, join_n, node_n]; omega
      · rw [set_n, join_n, node_n]; omega
      · rw [set_n, set_m, join_n, node_n, join_m, node_m]; omega
      · rw [← hp1]; rfl
  · simp only [hm, if_false]
    exact ⟨s1, by rw [join_n, node_n]; omega, by rw [join_n, node_n]; omega, by rw [join_n, node_n, join_m, node_m]; omega, rfl⟩
/-- A gateway's ways under way. -/
structure Wy (p : P) (a b : Nat) (open_ : Int) (oa : Nat) (I : Nat → Prop) : Prop where
  inv : Inv p (fun i => if i = a then oa else if i = b then 1 else 0) I
  inb : ∀ i, I i → i = b
  la : a < p.n
  lb : b < p.n
  b0 : 0 < b
  ne : a ≠ b
  ka : (p.nodes[a]!).kind = open_
  kb : (p.nodes[b]!).kind ≠ 2
theorem Wy.way {a b : Nat} {open_ : Int} {oa : Nat} {I : Nat → Prop} (h : Wy p a b open_ oa I) (ho : open_ = 5 ∨ open_ = 6 ∨ open_ = 7) (m : Int) (j : Nat) (hj : j ≤ 9) :
    Wy (way a b m open_ j p) a b open_ (oa - 1) (fun _ => False) ∧ p.n ≤ (way a b m open_ j p).n ∧ (way a b m open_ j p).n ≤ p.n + 1 ∧ (way a b m open_ j p).m + p.n ≤ p.m + (way a b m open_ j p).n + 1 ∧ (way a b m open_ j p).name = p.name := by
  have hla := h.la
  have hlb := h.lb
  have hne := h.ne
  have hka : (p.nodes[a]!).kind = 5 ∨ (p.nodes[a]!).kind = 6 ∨ (p.nodes[a]!).kind = 7 := by rw [h.ka]; exact ho
  have hc : ∀ c, c = (if open_ = 6 then no else bs (conds (wrap64 (m.tdiv 3 + j)))) → c = no ∨ (open_ ≠ 6 ∧ ∃ k : Int, c = bs (conds k)) := by
    rintro c rfl
    by_cases h6 : open_ = 6
    · rw [if_pos h6]; exact .inl rfl
    · rw [if_neg h6]; exact .inr ⟨h6, _, rfl⟩
  -- the last step: a way, and perhaps the one that is taken as a rule
  have last : ∀ (q : P) (t : Nat) (I' : Nat → Prop), Inv q (fun i => if i = a then oa else if i = b then 1 else 0) I' → (∀ i, i < q.n → I' i → i = t) → p.n ≤ q.n → t < q.n → 0 < t → q.nodes[a]! = p.nodes[a]! → q.nodes[b]! = p.nodes[b]! → q.name = p.name →
      ∀ c, (c = no ∨ (open_ ≠ 6 ∧ ∃ k : Int, c = bs (conds k))) → ∀ (d : Prop) [Decidable d], (d → open_ ≠ 6) →
      Wy (if d then (q.join a t c).set a (fun x => { x with dflt := q.m }) else q.join a t c) a b open_ (oa - 1) (fun _ => False) ∧
        (if d then (q.join a t c).set a (fun x => { x with dflt := q.m }) else q.join a t c).n = q.n ∧ (if d then (q.join a t c).set a (fun x => { x with dflt := q.m }) else q.join a t c).m = q.m + 1 ∧
        (if d then (q.join a t c).set a (fun x => { x with dflt := q.m }) else q.join a t c).name = p.name := by
    intro q t I' hi hI hn ht h0 ha hb hnm c hcc d _ hd
    have hcc' : c = no ∨ (((q.nodes[a]!).kind = 5 ∨ (q.nodes[a]!).kind = 7) ∧ ∃ k : Int, c = bs (conds k)) := by
      rcases hcc with h1 | ⟨h1, h2⟩
      · exact .inl h1
      · exact .inr ⟨by rw [ha, h.ka]; omega, h2⟩
    have i3 := hi.join (a := a) (b := t) c (by omega) ht h0 (by rw [ha]; rcases hka with h1 | h1 | h1; exact .inl h1; exact .inr (.inl h1); exact .inr (.inr (.inl h1))) hcc'
    have i4 : Inv (q.join a t c) (fun i => if i = a then oa - 1 else if i = b then 1 else 0) (fun _ => False) := i3.mono (fun i _ => by by_cases he : i = a <;> simp [he]) (fun i hi' hh => hh.2 (hI i hi' hh.1))
    have hkJ : ((q.join a t c).nodes[a]!).kind = open_ := by show (q.nodes[a]!).kind = open_; rw [ha]; exact h.ka
    have hbJ : ((q.join a t c).nodes[b]!) = p.nodes[b]! := hb
    by_cases hdd : d
    · simp only [hdd, if_true]
      have i5 := i4.dflt (k := a) (j := q.m) (by rw [join_n]; omega) (by rw [hkJ]; have := hd hdd; omega) (by rw [join_m]; omega) (by rw [join_new])
      refine ⟨⟨i5, fun _ hh => hh.elim, by rw [set_n, join_n]; omega, by rw [set_n, join_n]; omega, h.b0, hne, ?_, ?_⟩, by rw [set_n, join_n], by rw [set_m, join_m], hnm⟩
      · rw [set_at (by rw [join_n]; omega)]; exact hkJ
      · rw [set_other (Ne.symm hne), hbJ]; exact h.kb
    · simp only [hdd, if_false]
      exact ⟨⟨i4, fun _ hh => hh.elim, by rw [join_n]; omega, by rw [join_n]; omega, h.b0, hne, hkJ, by rw [hbJ]; exact h.kb⟩, by rw [join_n], by rw [join_m], hnm⟩
  unfold Pr.way
  have hcc := hc _ rfl
  generalize (if open_ = 6 then no else bs (conds (wrap64 (m.tdiv 3 + j)))) = c at *
  by_cases hm : nmb (m / 2 ^ j) 2 = 0
  · simp only [hm, if_true]
    have hW : FieldOk (Nd.work (bs (topics (wrap64 (m + j)))) j 2) := field_work (nm_topic _) (by unfold within; rw [Bool.and_eq_true, decide_eq_true_eq, decide_eq_true_eq]; omega) rfl
    have i1 := h.inv.node _ hW (by show (4 : Int) ≠ 1; decide) rfl
    have hnw : (p.node (Nd.work (bs (topics (wrap64 (m + j)))) j 2)).nodes[p.n]! = { Nd.work (bs (topics (wrap64 (m + j)))) j 2 with dflt := -1, tgt := -1 } := node_new _
    have i2 := i1.join (a := p.n) (b := b) no (by rw [node_n]; omega) (by rw [node_n]; omega) h.b0 (.inr (.inr (.inr ⟨by rw [hnw]; show (4 : Int) ≠ 2; decide, by show 0 < (if p.n = p.n then need _ else _); rw [if_pos rfl]; unfold need; rw [if_neg (by show ¬ (4 : Int) = 2; decide)]; decide⟩))) (.inl rfl)
    have hoa : (p.node (Nd.work (bs (topics (wrap64 (m + j)))) j 2)).nodes[a]! = p.nodes[a]! := node_old _ hla
    have hob : (p.node (Nd.work (bs (topics (wrap64 (m + j)))) j 2)).nodes[b]! = p.nodes[b]! := node_old _ hlb
    obtain ⟨k1, k2, k3, k4⟩ := last _ p.n (fun i => (i = p.n ∨ I i) ∧ i ≠ b) (i2.mono (fun i _ => by
        by_cases he : i = p.n
        · subst he; have e1 : p.n ≠ a := by omega
          have e2 : p.n ≠ b := by omega
          simp [e1, e2, need, Nd.work]
        · simp [he]) (fun _ _ hh => hh)) (fun i _ hh => by
        rcases hh with ⟨hh | hh, h4⟩
        · exact hh
        · exact absurd (h.inb i hh) h4) (by rw [join_n, node_n]; omega) (by rw [join_n, node_n]; omega) (by omega) hoa hob rfl c hcc (open_ ≠ 6 ∧ j = 0 ∧ 0 < nmb (m.tdiv 11) 4) (fun hh => hh.1)
    refine ⟨k1, by rw [k2, join_n, node_n]; omega, by rw [k2, join_n, node_n]; omega, by rw [k2, k3, join_n, node_n, join_m, node_m]; omega, k4⟩
  · simp only [hm, if_false]
    obtain ⟨k1, k2, k3, k4⟩ := last p b I h.inv (fun i _ hh => h.inb i hh) (Nat.le_refl _) hlb h.b0 rfl rfl rfl c hcc (open_ ≠ 6 ∧ j = 0 ∧ 0 < nmb (m.tdiv 11) 4) (fun hh => hh.1)
    exact ⟨k1, by rw [k2]; omega, by rw [k2]; omega, by rw [k2, k3]; omega, k4⟩
end
end Pr
end Go.Proofs.YtlmlhjepolefaaaGreatDoor
namespace Go.Proofs.YtlmlhjepolefaaaGreatDoor
open Go.RowKit

theorem seen_at_new {E : Int → Option Addr} (w : World) (c : Int) (a : Addr) (x : Int) (k : Nat) (hx : x = k) (h : E c = some a) (hc : c ≠ 0) : SeenF E (w.alloc (.cells #[.int .i64 x, .iface 185 (.pointer (some a))] 100)) (atV w.heap.size) c (some k) := by
  subst hx
  refine .at_ _ c a k h hc ?_ ?_
  · exact cell_of_row _ w.heap.size 0 _ _ (0, 0) (heap_alloc_new w _)
  · exact cell_of_row _ w.heap.size 1 _ _ (0, 0) (heap_alloc_new w _)
theorem faultAt_first {l : List Vr.V} {k : Nat} {x : Int} (hx : x ≠ 0) (h : Vr.fault l[k]! = x) : Vr.faultAt l k = x := by
  unfold Vr.faultAt
  rw [h, if_pos hx]
theorem faultAt_zero {l : List Vr.V} (h : Vr.fault l[0]! = 0) : Vr.faultAt l 0 = 0 := by
  unfold Vr.faultAt
  rw [h, if_neg (by simp), if_neg (by simp)]
theorem faultAt_twice {l : List Vr.V} {j : Nat} (h : Vr.fault l[j + 1]! = 0) (h2 : Vr.lss l[j]!.name l[j + 1]!.name = false) : Vr.faultAt l (j + 1) = 109 := by
  unfold Vr.faultAt
  rw [h, if_neg (by simp), if_pos ⟨by omega, by simpa using h2⟩]
theorem faultAt_fine {l : List Vr.V} {j : Nat} (h : Vr.fault l[j + 1]! = 0) (h2 : Vr.lss l[j]!.name l[j + 1]!.name = true) : Vr.faultAt l (j + 1) = 0 := by
  unfold Vr.faultAt
  rw [h, if_neg (by simp), if_neg (fun hh => by rw [show j + 1 - 1 = j from rfl, h2] at hh; cases hh.2)]
theorem all_next {l : List Vr.V} {k : Nat} (h : ∀ j, j < k → Vr.faultAt l j = 0) (hk : Vr.faultAt l k = 0) : ∀ j, j < k + 1 → Vr.faultAt l j = 0 := by
  intro j hj
  by_cases e : j = k
  · subst e; exact hk
  · exact h j (by omega)

end Go.Proofs.YtlmlhjepolefaaaGreatDoor
