/- Mathematics of package cond: the words of a text, the condition that they tell, what it comes to. Mathematics of processes out of few numbers: rows of Works, choices, forks, loops. Mathematics of processes: what is amiss with one; that those out of few numbers may be. Rows of structs of one's own: what is appended; a cell that is written; beside others. A process in memory under way: one node more, one flow more. -/
import Derived.Test.YtddedbpbenkdoaaGreatDoorYProcessOne2
import Derived.Maps.AppendAt
import Derived.Test.YtddedbpbenkdoaaGreatDoorProg
import Derived.Deep.RegionLaw
namespace Go.Proofs.YtddedbpbenkdoaaGreatDoor
open Go.RowKit

namespace Co
/-- Where a parser stands: its word, from where till where; its first error, and the place. -/
structure St where
  kind : Nat
  frm : Nat
  till : Nat
  err : Option (Int × Nat)

def digit (c : UInt8) : Bool := decide (48 ≤ c.toNat) && decide (c.toNat ≤ 57)
def ofWord (c : UInt8) : Bool := (decide (97 ≤ c.toNat) && decide (c.toNat ≤ 122)) || digit c || decide (c.toNat = 95)
def blank (c : UInt8) : Bool := decide (c.toNat = 32)
def inText (c : UInt8) : Bool := decide (32 ≤ c.toNat) && decide (c.toNat ≤ 126) && !decide (c.toNat = 34)
/-- The first place from k on that is not so. -/
def ends (p : UInt8 → Bool) (l : List UInt8) (k : Nat) : Nat := k + ((l.drop k).takeWhile p).length
theorem takeWhile_len {p : UInt8 → Bool} : ∀ (l : List UInt8) (n : Nat), n ≤ l.length → (∀ j, j < n → p l[j]! = true) → (n = l.length ∨ p l[n]! = false) → (l.takeWhile p).length = n
  | [], n, hn, _, _ => by simp at hn; simp [hn]
  | c :: l, 0, _, _, h => by
    rcases h with h | h
    · simp at h
    · simp only [List.getElem!_cons_zero] at h
      simp [h]
  | c :: l, n + 1, hn, ha, h => by
    have h0 : p c = true := by simpa using ha 0 (by omega)
    have := takeWhile_len l n (by simpa using hn) (fun j hj => by simpa using ha (j + 1) (by omega)) (by simpa using h)
    simp [h0, this]
theorem ends_eq {p : UInt8 → Bool} {l : List UInt8} {k m : Nat} (hk : k ≤ m) (hm : m ≤ l.length) (ha : ∀ j, k ≤ j → j < m → p l[j]! = true) (h : m = l.length ∨ p l[m]! = false) : ends p l k = m := by
  unfold ends
  have hd : ∀ j, (l.drop k)[j]! = l[k + j]! := fun j => by simp [List.getElem!_eq_getElem?_getD]
  rw [takeWhile_len (l.drop k) (m - k) (by simp; omega) (fun j hj => by rw [hd]; exact ha _ (by omega) (by omega))
    (by rcases h with h | h
        · left; simp; omega
        · right; rw [hd, show k + (m - k) = m from by omega]; exact h)]
  omega

/-- What a word of letters, digits and _ is. -/
def kindOf (t : List UInt8) : Nat :=
  if t = [111, 114] ∨ t = [97, 110, 100] ∨ t = [110, 111, 116] then 6
  else if t = [116, 114, 117, 101] ∨ t = [102, 97, 108, 115, 101] then 4
  else if t.length ≤ 9 ∧ t.all digit = true then 2
  else if digit t[0]! = false ∧ t[0]! ≠ 95 ∧ Vr.name t = true then 5 else 0
def marks : List UInt8 := [40, 41, 60, 62, 43, 45, 42, 47, 37]
def markLen (t : List UInt8) : Nat :=
  if 1 < t.length ∧ t[1]! = 61 ∧ ([61, 33, 60, 62] : List UInt8).contains (t[0]!) = true then 2
  else if marks.contains (t[0]!) = true then 1 else 0
/-- The word that begins there: what it is, from where till where. -/
def textAt (l : List UInt8) (k : Nat) : Nat × Nat × Nat :=
  if ends inText l (k + 1) < l.length ∧ l[ends inText l (k + 1)]! = 34 then (3, k, ends inText l (k + 1) + 1) else (0, k, k)
def wordAt (l : List UInt8) (k : Nat) : Nat × Nat × Nat :=
  if k = l.length then (1, k, k)
  else if ofWord l[k]! = true then (kindOf ((l.drop k).take (ends ofWord l k - k)), k, ends ofWord l k)
  else if l[k]! = 34 then textAt l k
  else if markLen (l.drop k) = 0 then (0, k, k) else (6, k, k + markLen (l.drop k))

def next (l : List UInt8) (st : St) : St :=
  if st.err.isSome = true then st else ⟨(wordAt l (ends blank l st.till)).1, (wordAt l (ends blank l st.till)).2.1, (wordAt l (ends blank l st.till)).2.2, none⟩
def fail (c : Int) (st : St) : St := if st.err.isSome = true then st else ⟨0, st.frm, st.till, some (c, st.frm)⟩
def text (l : List UInt8) (st : St) : List UInt8 := (l.drop st.frm).take (st.till - st.frm)
def isM (l : List UInt8) (st : St) (m : List UInt8) : Bool := decide (st.kind = 6) && decide (text l st = m)
def words : List (List UInt8) := [[], [], [], [111, 114], [97, 110, 100], [110, 111, 116], [61, 61], [33, 61], [60], [60, 61], [62], [62, 61], [43], [45], [42], [47], [37], [45]]
def opGo (l : List UInt8) (st : St) : Nat → Nat → Nat
  | 0, _ => 0
  | n + 1, a => if isM l st (words[a]!) = true then a else opGo l st n (a + 1)
/-- Which of the operators a to b stands there; 0: none. -/
def op (l : List UInt8) (st : St) (a b : Nat) : Nat := opGo l st (b + 1 - a) a

/-- A number's value. -/
def numOf (t : List UInt8) : Int := ((t.foldl (fun a c => a * 10 + (c.toNat - 48)) 0 : Nat) : Int)

/-- A condition. -/
inductive Tr where
  | leaf (op kind num : Int) (txt name : List UInt8)
  | one (op : Int) (a : Tr)
  | two (op : Int) (a b : Tr)
def Tr.none : Tr := .leaf 0 0 0 [] []
abbrev Out := Option (Tr × St)
def row (l : List UInt8) (part : St → Out) (a b : Nat) : Nat → Tr → St → Out
  | 0, _, _ => .none
  | f + 1, e, st => if op l st a b = 0 then some (e, st) else match part (next l st) with
    | .none => .none
    | some (r, st2) => row l part a b f (.two (op l st a b) e r) st2
def rowAll (l : List UInt8) (part : St → Out) (a b : Nat) (st : St) : Out := match part st with
  | .none => .none
  | some (e, st1) => row l part a b 60 e st1
def deeper (l : List UInt8) (part : Nat → St → Out) (d : Nat) (st : St) : Out :=
  if d = 12 then some (.none, fail 112 st) else part (d + 1) (next l st)
def compared (l : List UInt8) (part : St → Out) (st : St) : Out := match part st with
  | .none => .none
  | some (e, st1) => if op l st1 6 11 = 0 then some (e, st1) else match part (next l st1) with
    | .none => .none
    | some (r, st2) => some (.two (op l st1 6 11) e r, st2)
def under (l : List UInt8) (m : List UInt8) (o : Int) (part : Nat → St → Out) (other : St → Out) (d : Nat) (st : St) : Out :=
  if isM l st m = true then match deeper l part d st with
    | .none => .none
    | some (e, st1) => some (.one o e, st1)
  else other st
def behind (part : St → Out) (st : St) : Out := part (if st.kind = 3 ∨ st.kind = 4 then fail 111 st else st)
def single (l : List UInt8) (bracket : St → Out) (st : St) : Out :=
  if isM l st [40] = true then bracket st
  else if st.kind = 2 then if 1 ≤ (text l st).length ∧ (text l st).length ≤ 9 ∧ (text l st).all digit = true then some (.leaf 1 1 (numOf (text l st)) [] [], next l st) else .none
  else if st.kind = 3 then if 2 ≤ (text l st).length then some (.leaf 1 3 0 (((text l st).drop 1).take ((text l st).length - 2)) [], next l st) else .none
  else if st.kind = 4 then some (.leaf 1 2 (if text l st = [116, 114, 117, 101] then 1 else 0) [] [], next l st)
  else if st.kind = 5 then some (.leaf 2 0 0 [] (text l st), next l st)
  else some (.leaf 1 0 0 [] [], next l (fail 111 st))
def bracket (l : List UInt8) (part : Nat → St → Out) (d : Nat) (st : St) : Out := match deeper l part d st with
  | .none => .none
  | some (e, st1) => some (e, next l (if isM l st1 [41] = true then st1 else fail 111 st1))
/-- One part of the parser (0 to 9), by those beneath. -/
def step (l : List UInt8) (ih : Nat → Nat → St → Out) (which d : Nat) (st : St) : Out :=
  match which with
  | 0 => rowAll l (ih 1 d) 3 3 st
  | 1 => rowAll l (ih 2 d) 4 4 st
  | 2 => under l [110, 111, 116] 5 (ih 2) (ih 3 d) d st
  | 3 => compared l (ih 4 d) st
  | 4 => rowAll l (ih 5 d) 12 13 st
  | 5 => rowAll l (ih 6 d) 14 16 st
  | 6 => under l [45] 17 (ih 7) (ih 8 d) d st
  | 7 => behind (ih 6 d) st
  | 8 => single l (ih 9 d) st
  | _ => bracket l (ih 0) d st
def parts (l : List UInt8) : Nat → Nat → Nat → St → Out
  | 0 => fun _ _ _ => .none
  | f + 1 => step l (parts l f)
def parse (l : List UInt8) : Option (Tr × Option (Int × Nat)) :=
  if 80 < l.length then some (.none, some (105, 80))
  else match parts l 140 0 0 (next l ⟨0, 0, 0, .none⟩) with
    | .none => .none
    | some (e, st) => match (if st.kind = 1 then st else fail 111 st).err with
      | some x => some (.none, some x)
      | .none => some (e, .none)
end Co
end Go.Proofs.YtddedbpbenkdoaaGreatDoor
namespace Go.Proofs.YtddedbpbenkdoaaGreatDoor
open Go.RowKit

namespace Pr
/-- A node, a flow, a process. -/
structure Nd where
  kind : Int
  topic : ByteArray
  prio : Int
  retr : Int
  dflt : Int
  code : ByteArray
  caught : ByteArray
  tgt : Int
structure Fl where
  frm : Int
  til : Int
  cond : ByteArray
structure P where
  name : ByteArray
  nodes : List Nd
  flows : List Fl
def no : ByteArray := ⟨#[]⟩
/-- A node of that Kind and nothing else. -/
def Nd.plain (k : Int) : Nd := ⟨k, no, 0, 0, -1, no, no, -1⟩
instance : Inhabited Nd := ⟨Nd.plain 0⟩
instance : Inhabited Fl := ⟨⟨0, 0, no⟩⟩
def Nd.work (t : ByteArray) (p r : Int) : Nd := ⟨4, t, p, r, -1, no, no, -1⟩
def nmb (x b : Int) : Int := x % b
def bs (l : List UInt8) : ByteArray := ⟨l.toArray⟩
def condL : List (List UInt8) := [[], [116, 114, 117, 101], [102, 97, 108, 115, 101], [97, 32, 62, 32, 50], [97, 32, 60, 32, 51, 32, 111, 114, 32, 98], [115, 32, 61, 61, 32, 34, 120, 34], [97, 32, 47, 32, 48, 32, 61, 61, 32, 49], [99], [110, 111, 116, 32, 98], [97, 32, 43, 32, 49, 32, 61, 61, 32, 51], [49], [98, 32, 97, 110, 100, 32, 97, 32, 62, 61, 32, 48]]
def topicL : List (List UInt8) := [[112, 97, 121], [115, 104, 105, 112], [97, 115, 107, 45, 49]]
def conds (n : Int) : List UInt8 := condL[(nmb n 12).toNat]!
def topics (n : Int) : List UInt8 := topicL[(nmb n 3).toNat]!
def pick (l : List Int) (i : Nat) : Int := if i < l.length then l[i]! else i
/-- One more node; one more flow. -/
def P.node (p : P) (x : Nd) : P := ⟨p.name, p.nodes ++ [{ x with dflt := -1, tgt := -1 }], p.flows⟩
def P.join (p : P) (f t : Int) (c : ByteArray) : P := ⟨p.name, p.nodes, p.flows ++ [⟨f, t, c⟩]⟩
def P.set (p : P) (k : Nat) (f : Nd → Nd) : P := ⟨p.name, p.nodes.modify k f, p.flows⟩
def P.n (p : P) : Nat := p.nodes.length
def P.m (p : P) : Nat := p.flows.length
/-- A Work behind a node. -/
def work (p : P) (at_ : Nat) (m : Int) : P × Nat :=
  let k := p.n
  let p1 := (p.node (Nd.work (bs (topics m)) (nmb (m.tdiv 3) 10) (1 + nmb (m.tdiv 7) 3))).join at_ k no
  if nmb (m.tdiv 5) 4 = 0 then
    let p2 := p1.node (Nd.plain 2)
    (((p2.set k fun x => { x with caught := bs [99, 97, 117, 103, 104, 116] }).join k p1.n no).set k fun x => { x with tgt := p2.m }, k)
  else (p1, k)
/-- A way of a gateway. -/
def way (a b : Nat) (m open_ : Int) (i : Nat) (p : P) : P :=
  let c := if open_ = 6 then no else bs (conds (wrap64 (m.tdiv 3 + i)))
  let q := if nmb (m / 2 ^ i) 2 = 0 then (p.node (Nd.work (bs (topics (wrap64 (m + i)))) i 2)).join p.n b no else p
  let t := if nmb (m / 2 ^ i) 2 = 0 then p.n else b
  let q2 := q.join a t c
  if open_ ≠ 6 ∧ i = 0 ∧ 0 < nmb (m.tdiv 11) 4 then q2.set a fun x => { x with dflt := q.m } else q2
def ways (a b : Nat) (m open_ : Int) : Nat → P → P
  | 0, p => p
  | i + 1, p => way a b m open_ i (ways a b m open_ i p)
/-- A gateway, two or three ways, a gateway again. -/
def parts (p : P) (at_ : Nat) (m open_ shut : Int) : P × Nat :=
  let a := p.n
  let p1 := ((p.node (Nd.plain open_)).join at_ a no).node (Nd.plain shut)
  (ways a (a + 1) m open_ (2 + nmb m 2).toNat p1, a + 1)
/-- A gateway that leads back by a Work. -/
def loop (p : P) (at_ : Nat) (m : Int) : P × Nat :=
  let a := p.n
  let p1 := (((p.node (Nd.plain 5)).join at_ a no).node (Nd.work (bs (topics m)) 0 1)).node (Nd.plain 5)
  let p2 := (p1.join a (a + 1 : Nat) (bs (conds (wrap64 (3 + m))))).join (a + 1 : Nat) a no
  ((p2.join a (a + 2 : Nat) no).set a fun x => { x with dflt := p2.m }, a + 2)
/-- A piece: which by a number. -/
def piece (rings : Bool) (kd m : Int) (p : P) (at_ : Nat) : P × Nat :=
  let w := nmb kd 7
  if w ≤ 2 then work p at_ m else if w = 3 then parts p at_ m 5 5 else if w = 4 then parts p at_ m 6 6 else if w = 5 then parts p at_ m 7 7
  else if rings = true then loop p at_ m else work p at_ m
def pieces (rings : Bool) (kinds more : List Int) : Nat → P × Nat
  | 0 => (⟨bs [112], [Nd.plain 1], []⟩, 0)
  | i + 1 =>
    let r := pieces rings kinds more i
    if r.1.n < 22 then piece rings (kinds[i]!) (pick more i) r.1 r.2 else r
/-- The whole. -/
def good (kinds more : List Int) (rings : Bool) : P :=
  let r := pieces rings kinds more kinds.length
  let p := r.1.node (Nd.plain 2)
  p.join r.2 r.1.n no
end Pr
end Go.Proofs.YtddedbpbenkdoaaGreatDoor
namespace Go.Proofs.YtddedbpbenkdoaaGreatDoor
open Go.RowKit

namespace Pr
/-- The flows from, to a node. -/
def outsL (p : P) (i : Nat) : List Nat := (List.range p.m).filter fun j => (p.flows[j]!).frm == (i : Int)
def insL (p : P) (i : Nat) : List Nat := (List.range p.m).filter fun j => (p.flows[j]!).til == (i : Int)
def within (x lo hi : Int) : Bool := decide (lo ≤ x) && decide (x ≤ hi)
/-- What a text is amiss as a condition. -/
def condBad (c : ByteArray) : Int := match Co.parse c.data.toList with
  | some (_, some (e, _)) => e
  | some (_, none) => 0
  | none => -1
def flowBad (p : P) (f : Fl) : Int :=
  if (within f.frm 0 (p.n - 1) && within f.til 0 (p.n - 1)) = false then 107
  else if f.cond.size = 0 then 0
  else if (p.nodes[f.frm.toNat]!).kind ≠ 5 ∧ (p.nodes[f.frm.toNat]!).kind ≠ 7 then 102
  else condBad f.cond
def shaped (p : P) (i : Nat) : Bool :=
  let x := p.nodes[i]!
  let a := (insL p i).length
  let b := (outsL p i).length
  if (x.kind == 1) != (i == 0) then false
  else if x.kind = 1 then a == 0 && b == 1
  else if x.kind = 2 ∨ x.kind = 3 then decide (0 < a) && b == 0
  else if x.kind = 4 then decide (0 < a) && (b == 1 && x.caught.size == 0 || b == 2 && decide (0 < x.caught.size))
  else if x.kind = 5 ∨ x.kind = 6 ∨ x.kind = 7 then decide (0 < a) && decide (0 < b)
  else false
def nm (s : ByteArray) : Bool := Vr.name s.toList
def has (l : List Nat) (x : Int) : Bool := l.any fun j => (j : Int) == x
def nodeBad (p : P) (i : Nat) : Int :=
  let x := p.nodes[i]!
  let wk := x.kind == 4
  let gate := x.kind == 5 || x.kind == 7
  if shaped p i = false then 102
  else if (wk && !nm x.topic || !wk && decide (0 < x.topic.size) || x.kind == 3 && !nm x.code || !(x.kind == 3) && decide (0 < x.code.size) || decide (0 < x.caught.size) && (!wk || !nm x.caught)) = true then 106
  else if (wk && (!within x.prio 0 9 || !within x.retr 1 9) || !wk && (!(x.prio == 0) || !(x.retr == 0))) = true then 107
  else if (!(x.dflt == -1) && (!gate || !has (outsL p i) x.dflt) || x.caught.size == 0 && !(x.tgt == -1) || decide (0 < x.caught.size) && !has (outsL p i) x.tgt) = true then 102
  else 0
/-- What is amiss first, and where. -/
def check (p : P) : Int × Option Nat :=
  if nm p.name = false then (106, none)
  else if (within p.n 2 30 && decide (p.m ≤ 60)) = false then (104, none)
  else match (List.range p.m).find? (fun j => !(flowBad p p.flows[j]! == 0)) with
    | some j => (flowBad p p.flows[j]!, some (100 + j))
    | none => match (List.range p.n).find? (fun i => !(nodeBad p i == 0)) with
      | some i => (nodeBad p i, some i)
      | none => (0, none)

/-- How many flows lead from, to a node. -/
def cO (p : P) (i : Nat) : Nat := p.flows.countP fun f => f.frm == (i : Int)
def cI (p : P) (i : Nat) : Nat := p.flows.countP fun f => f.til == (i : Int)
theorem countP_range {α : Type} [Inhabited α] (l : List α) (q : α → Bool) : ((List.range l.length).filter fun j => q l[j]!).length = l.countP q := by
  have h : l = (List.range l.length).map fun j => l[j]! := by
    apply List.ext_getElem
    · simp
    · intro i h1 h2
      simp [h1]
  conv => rhs; rw [h]
  rw [List.countP_map, List.countP_eq_length_filter]
  rfl
theorem outs_len (p : P) (i : Nat) : (outsL p i).length = cO p i := countP_range p.flows fun f => f.frm == (i : Int)
theorem ins_len (p : P) (i : Nat) : (insL p i).length = cI p i := countP_range p.flows fun f => f.til == (i : Int)
theorem has_of {p : P} {i j : Nat} (hj : j < p.m) (h : (p.flows[j]!).frm = (i : Int)) : has (outsL p i) (j : Int) = true := by
  unfold has
  rw [List.any_eq_true]
  refine ⟨j, ?_, by simp⟩
  unfold outsL
  rw [List.mem_filter]
  exact ⟨List.mem_range.2 hj, beq_iff_eq.2 h⟩
/-- A node's own fields. -/
structure FieldOk (x : Nd) : Prop where
  kind : x.kind = 1 ∨ x.kind = 2 ∨ x.kind = 4 ∨ x.kind = 5 ∨ x.kind = 6 ∨ x.kind = 7
  wk : x.kind = 4 → nm x.topic = true ∧ within x.prio 0 9 = true ∧ within x.retr 1 9 = true
  nowk : x.kind ≠ 4 → x.topic = no ∧ x.prio = 0 ∧ x.retr = 0
  code : x.code = no
  caught : x.caught = no ∨ (x.kind = 4 ∧ x.caught = bs [99, 97, 117, 103, 104, 116])
/-- A node's flows: so many are owed. -/
structure OutOk (p : P) (i : Nat) (o : Nat) : Prop where
  start : (p.nodes[i]!).kind = 1 → cO p i + o = 1
  fin : (p.nodes[i]!).kind = 2 → cO p i = 0
  wk0 : (p.nodes[i]!).kind = 4 → (p.nodes[i]!).caught = no → cO p i + o = 1
  wk1 : (p.nodes[i]!).kind = 4 → (p.nodes[i]!).caught ≠ no → cO p i + o = 2 ∧ ∃ j : Nat, j < p.m ∧ (p.nodes[i]!).tgt = j ∧ (p.flows[j]!).frm = (i : Int)
  gate : ((p.nodes[i]!).kind = 5 ∨ (p.nodes[i]!).kind = 6 ∨ (p.nodes[i]!).kind = 7) → 0 < cO p i + o
  dflt : (p.nodes[i]!).dflt = -1 ∨ (((p.nodes[i]!).kind = 5 ∨ (p.nodes[i]!).kind = 7) ∧ ∃ j : Nat, j < p.m ∧ (p.nodes[i]!).dflt = j ∧ (p.flows[j]!).frm = (i : Int))
  tgt : (p.nodes[i]!).caught = no → (p.nodes[i]!).tgt = -1
structure FlowOk (p : P) (f : Fl) : Prop where
  ends : ∃ a b : Nat, f.frm = a ∧ f.til = b ∧ a < p.n ∧ b < p.n ∧ 0 < b
  cond : f.cond = no ∨ (((p.nodes[f.frm.toNat]!).kind = 5 ∨ (p.nodes[f.frm.toNat]!).kind = 7) ∧ ∃ k : Int, f.cond = bs (conds k))
/-- A process under way: o is owed, no way leads to I yet. -/
structure Inv (p : P) (o : Nat → Nat) (I : Nat → Prop) : Prop where
  pos : 0 < p.n
  start : ∀ i, i < p.n → ((p.nodes[i]!).kind = 1 ↔ i = 0)
  flow : ∀ f ∈ p.flows, FlowOk p f
  field : ∀ i, i < p.n → FieldOk (p.nodes[i]!)
  ins : ∀ i, 0 < i → i < p.n → ¬ I i → 0 < cI p i
  outs : ∀ i, i < p.n → OutOk p i (o i)
theorem Inv.mono {p : P} {o o' : Nat → Nat} {I I' : Nat → Prop} (h : Inv p o I) (ho : ∀ i, i < p.n → o i = o' i) (hI : ∀ i, i < p.n → I i → I' i) : Inv p o' I' :=
  ⟨h.pos, h.start, h.flow, h.field, fun i h0 hi hn => h.ins i h0 hi fun hh => hn (hI i hi hh), fun i hi => by rw [← ho i hi]; exact h.outs i hi⟩
section
variable {p : P} {o : Nat → Nat} {I : Nat → Prop}
theorem node_n (x : Nd) : (p.node x).n = p.n + 1 := by simp [P.node, P.n]
theorem node_old (x : Nd) {i : Nat} (h : i < p.n) : (p.node x).nodes[i]! = p.nodes[i]! := by
  have h' : i < p.nodes.length := h
  simp [P.node, List.getElem!_eq_getElem?_getD, List.getElem?_append_left h']
theorem node_new (x : Nd) : (p.node x).nodes[p.n]! = { x with dflt := -1, tgt := -1 } := by
  simp [P.node, P.n]
theorem cO_far (h : ∀ f ∈ p.flows, FlowOk p f) {i : Nat} (hi : p.n ≤ i) : cO p i = 0 := by
  unfold cO
  rw [List.countP_eq_zero]
  intro f hf
  obtain ⟨a, b, h1, _, h3, _⟩ := (h f hf).ends
  rw [h1]
  simp
  omega
theorem FlowOk.node {f : Fl} (h : FlowOk p f) (x : Nd) : FlowOk (p.node x) f := by
  obtain ⟨a, b, h1, h2, h3, h4, h5⟩ := h.ends
  refine ⟨⟨a, b, h1, h2, by rw [node_n]; omega, by rw [node_n]; omega, h5⟩, ?_⟩
  have : f.frm.toNat < p.n := by omega
  rw [node_old x this]
  exact h.cond
/-- How many flows a fresh node owes. -/
def need (x : Nd) : Nat := if x.kind = 2 then 0 else 1
theorem Inv.node (h : Inv p o I) (x : Nd) (hx : FieldOk x) (hk : x.kind ≠ 1) (hc : x.caught = no) :
    Inv (p.node x) (fun i => if i = p.n then need x else o i) (fun i => i = p.n ∨ I i) where
  pos := by rw [node_n]; omega
  start i hi := by
    rw [node_n] at hi
    by_cases he : i = p.n
    · subst he
      rw [node_new]
      have := h.pos
      constructor
      · intro h1; exact absurd h1 hk
      · intro h1; omega
    · rw [node_old x (by omega)]; exact h.start i (by omega)
  flow f hf := (h.flow f hf).node x
  field i hi := by
    rw [node_n] at hi
    by_cases he : i = p.n
    · subst he; rw [node_new]; exact ⟨hx.kind, hx.wk, hx.nowk, hx.code, hx.caught⟩
    · rw [node_old x (by omega)]; exact h.field i (by omega)
  ins i h0 hi hn := by
    rw [node_n] at hi
    have he : i ≠ p.n := fun e => hn (.inl e)
    exact h.ins i h0 (by omega) fun hh => hn (.inr hh)
  outs i hi := by
    rw [node_n] at hi
    by_cases he : i = p.n
    · subst he
      rw [if_pos rfl]
      have hz : cO (p.node x) p.n = 0 := cO_far (p := p) h.flow (Nat.le_refl _)
      have hnew : (p.node x).nodes[p.n]! = { x with dflt := -1, tgt := -1 } := node_new x
      refine ⟨?_, ?_, ?_, ?_, ?_, ?_, ?_⟩ <;> rw [hnew]
      · intro h1; exact absurd h1 hk
      · intro _; exact hz
      · intro h1 _; rw [hz]; unfold need; rw [if_neg (by rw [show x.kind = 4 from h1]; decide)]
      · intro _ h1; exact absurd hc h1
      · intro h1; rw [hz]; unfold need; rw [if_neg (by intro e; have h1 : x.kind = 5 ∨ x.kind = 6 ∨ x.kind = 7 := h1; omega)]; decide
      · exact .inl rfl
      · intro _; rfl
    · rw [if_neg he]
      have h1 := h.outs i (by omega)
      have hold : (p.node x).nodes[i]! = p.nodes[i]! := node_old x (by omega)
      refine ⟨?_, ?_, ?_, ?_, ?_, ?_, ?_⟩ <;> rw [hold]
      · exact h1.start
      · exact h1.fin
      · exact h1.wk0
      · exact h1.wk1
      · exact h1.gate
      · exact h1.dflt
      · exact h1.tgt
theorem join_old {a b : Int} (c : ByteArray) {j : Nat} (h : j < p.m) : (p.join a b c).flows[j]! = p.flows[j]! := by
  have h' : j < p.flows.length := h
  simp [P.join, List.getElem!_eq_getElem?_getD, List.getElem?_append_left h']
theorem join_new {a b : Int} (c : ByteArray) : (p.join a b c).flows[p.m]! = ⟨a, b, c⟩ := by
  simp [P.join, P.m]
theorem join_m {a b : Int} (c : ByteArray) : (p.join a b c).m = p.m + 1 := by simp [P.join, P.m]
theorem join_cO {a : Nat} {b : Int} (c : ByteArray) (i : Nat) : cO (p.join a b c) i = cO p i + if i = a then 1 else 0 := by
  unfold cO P.join
  rw [List.countP_append]
  by_cases h : i = a
  · subst h; simp
  · have : ((a : Int) == (i : Int)) = false := by rw [beq_eq_false_iff_ne]; omega
    simp [h, this]
theorem join_cI {a : Int} {b : Nat} (c : ByteArray) (i : Nat) : cI (p.join a b c) i = cI p i + if i = b then 1 else 0 := by
  unfold cI P.join
  rw [List.countP_append]
  by_cases h : i = b
  · subst h; simp
  · have : ((b : Int) == (i : Int)) = false := by rw [beq_eq_false_iff_ne]; omega
    simp [h, this]
theorem Inv.join (h : Inv p o I) {a b : Nat} (c : ByteArray) (ha : a < p.n) (hb : b < p.n) (hb0 : 0 < b)
    (hk : (p.nodes[a]!).kind = 5 ∨ (p.nodes[a]!).kind = 6 ∨ (p.nodes[a]!).kind = 7 ∨ ((p.nodes[a]!).kind ≠ 2 ∧ 0 < o a))
    (hc : c = no ∨ (((p.nodes[a]!).kind = 5 ∨ (p.nodes[a]!).kind = 7) ∧ ∃ k : Int, c = bs (conds k))) :
    Inv (p.join a b c) (fun i => if i = a then o a - 1 else o i) (fun i => I i ∧ i ≠ b) where
  pos := h.pos
  start := h.start
  flow f hf := by
    have hf' : f ∈ p.flows ++ [⟨a, b, c⟩] := hf
    rw [List.mem_append, List.mem_singleton] at hf'
    rcases hf' with hf' | rfl
    · obtain ⟨h1, h2⟩ := h.flow f hf'; exact ⟨h1, h2⟩
    · exact ⟨⟨a, b, rfl, rfl, ha, hb, hb0⟩, hc⟩
  field := h.field
  ins i h0 hi hn := by
    rw [join_cI]
    by_cases he : i = b
    · rw [if_pos he]; omega
    · have := h.ins i h0 hi fun hh => hn ⟨hh, he⟩
      omega
  outs i hi := by
    have h1 := h.outs i hi
    have hlift : ∀ x : Int, (∃ j : Nat, j < p.m ∧ x = j ∧ (p.flows[j]!).frm = (i : Int)) → ∃ j : Nat, j < (p.join a b c).m ∧ x = j ∧ ((p.join a b c).flows[j]!).frm = (i : Int) := by
      rintro x ⟨j, hj, h2, h3⟩
      exact ⟨j, by rw [join_m]; omega, h2, by rw [join_old c hj]; exact h3⟩
    by_cases he : i = a
    · subst he
      rw [if_pos rfl]
      have hcn : cO (p.join i b c) i = cO p i + 1 := by rw [join_cO, if_pos rfl]
      refine ⟨?_, ?_, ?_, ?_, ?_, ?_, h1.tgt⟩
      · intro hh; have hh : (p.nodes[i]!).kind = 1 := hh; have := h1.start hh; rw [hcn]; omega
      · intro hh; have hh : (p.nodes[i]!).kind = 2 := hh; omega
      · intro hh h2; have hh : (p.nodes[i]!).kind = 4 := hh; have := h1.wk0 hh h2; rw [hcn]; omega
      · intro hh h2; have hh : (p.nodes[i]!).kind = 4 := hh; have := h1.wk1 hh h2; exact ⟨by rw [hcn]; omega, hlift _ this.2⟩
      · intro _; rw [hcn]; omega
      · rcases h1.dflt with h2 | ⟨h2, h3⟩
        · exact .inl h2
        · exact .inr ⟨h2, hlift _ h3⟩
    · rw [if_neg he]
      have hcn : cO (p.join a b c) i = cO p i := by rw [join_cO, if_neg he]; rfl
      refine ⟨?_, ?_, ?_, ?_, ?_, ?_, h1.tgt⟩
      · rw [hcn]; exact h1.start
      · rw [hcn]; exact h1.fin
      · rw [hcn]; exact h1.wk0
      · rw [hcn]; intro hh h2; exact ⟨(h1.wk1 hh h2).1, hlift _ (h1.wk1 hh h2).2⟩
      · rw [hcn]; exact h1.gate
      · rcases h1.dflt with h2 | ⟨h2, h3⟩
        · exact .inl h2
        · exact .inr ⟨h2, hlift _ h3⟩
end
end Pr
end Go.Proofs.YtddedbpbenkdoaaGreatDoor
namespace Go.Proofs.YtddedbpbenkdoaaGreatDoor
open Go.RowKit

section
variable {α : Type} {κ : Cs α} {w w' : World} {base n c : Nat} {e : TypeId} {A : Option Addr} {l : List α}
theorem OwnK.block (h : OwnK κ w base e A n c l) {a : Addr} (ha : A = some a) : base ≤ a.block ∧ a.block < w.heap.size := by
  rcases h.2.2 with ⟨hv, h0⟩ | ⟨g, cap, cur, hv, hg, hh, _⟩
  · injection hv with h1; subst h1; cases ha
  · injection hv with h1
    subst h1
    obtain rfl := Option.some.inj ha
    exact ⟨hg, blk_lt hh⟩
/-- Kept, where what changes is another block. -/
theorem OwnK.kept (h : OwnK κ w base e A n c l) {row : Option Nat} (hg : w.grownBy w' row) (hne : ∀ a, A = some a → row ≠ some a.block) : OwnK κ w' base e A n c l :=
  ⟨h.1, World.ownsRow.kept h.2 hg (by
    rcases h.2.2 with ⟨hv, h0⟩ | ⟨g, cap, cur, hv, _⟩
    · injection hv with h1; subst h1; exact .inl rfl
    · injection hv with h1
      subst h1
      exact .inr (fun e => hne _ rfl e.symm))⟩
/-- Where an append goes: its block, or a new one. -/
theorem grew_block {A' : Option Addr} {n' c' : Nat} (h : Grew w w' (.slice A n c) (.slice A' n' c')) {κ' : Cs α} {l' : List α} {base' : Nat} (ho : OwnK κ' w' base' e A' n' c' l') {a' : Addr} (ha : A' = some a') :
    (∃ a, A = some a ∧ a.block = a'.block) ∨ w.heap.size ≤ a'.block := by
  have key : (Value.slice A' n' c').ownBlock = some a'.block := by
    rcases ho.2.2 with ⟨hv, h0⟩ | ⟨g, cap, cur, hv, _⟩
    · injection hv with h1; subst h1; cases ha
    · injection hv with h1; subst h1; obtain rfl := Option.some.inj ha; rfl
  rcases h.block _ key with h1 | h1
  · refine .inl ?_
    cases A with
    | none => cases h1
    | some a =>
      exact ⟨a, rfl, Option.some.inj h1⟩
  · exact .inr h1
end
section
variable {α : Type} {κ : Cs α} {P : Program}
theorem step_append_k {ops : Array Oper} {o : Oper} {a : Act} {K : Act → World → Prop} {Q : Exit → Act → World → Prop} {E : Prop} (hgd : o.guard = none) (s x : Operand) (t e : TypeId) (i : TypeInfo) (z : Value) (bytes : Nat)
    (ht : P.underlying t = some (.slice e)) (hi : P.info? e = some i) (hz : i.zero = some z) (hsize : i.size = κ.k) (hby : i.bytes = bytes) (hzs : z.cells.size = κ.k)
    (ho : o.op = .call { callee := .builtin .append, args := #[s, x], argTypes := #[t, t] })
    (w : World) (base B : Nat) (A : Option Addr) (n c : Nat) (l : List α) (ad : Addr) (v : α) (hs : a.eval s = .slice A n c) (hown : OwnK κ w base e A n c l)
    (hx : a.eval x = .slice (some ad) 1 1) (hr : KRow κ w B (some ad) 1 [v]) (hn : n ≤ 1000000) (hb : bytes ≤ 1000) (hbase : base ≤ w.heap.size)
    (h : ∀ A' c' w', OwnK κ w' base e A' (n + 1) c' (l ++ [v]) → Grew w w' (.slice A n c) (.slice A' (n + 1) c') → K (a.put o.dst (.slice A' (n + 1) c')) w') :
    if Region.wanted o (yielded ops a.tmps) = true then Oper.wp P o a w K Q else E := by
  have hw : Region.wanted o (yielded ops a.tmps) = true := by simp [Region.wanted, hgd]
  rw [if_pos hw]
  obtain ⟨b, off, he, _, hc⟩ := hr.2 (by omega)
  obtain rfl := Option.some.inj he
  have hbb : (n + 1) * bytes ≤ 140737488355328 := Nat.le_trans (Nat.mul_le_mul (Nat.succ_le_succ hn) hb) (by decide)
  obtain ⟨v', w', hrun, h1, h2, _, h3⟩ := Go.run_append_own_at (P := P) (w := w) base t o.type e i z κ.k bytes ht hi hz hsize hby hzs hown.1 (.slice A n c) n (l.flatMap κ.cs) hown.2 ⟨b, off, none⟩ 1 1 ([v].flatMap κ.cs) hr.1 (fun j u hu => (congrArg w.cell? (addr_add b off j)).trans (hc j u hu)) (Cs.flat_one κ [v]) (by unfold maxLen; omega) hbb hbase
  obtain ⟨A', c', rfl, _⟩ := own_form h1
  unfold Oper.wp execOp
  simp only [ho, resolve, invoke, builtin, Sem.run_bind, Sem.run_pure, Result.andThen_ok, List.map_toArray, List.map_cons, List.map_nil, hs, hx, hrun]
  refine h A' c' w' ⟨hown.1, by rw [List.flatMap_append]; exact h1⟩ ⟨h2, fun g hg => ?_⟩
  rcases h3 with h3 | h3
  · exact .inl (h3.symm.trans hg)
  · rw [h3] at hg
    obtain rfl := Option.some.inj hg
    exact .inr (Nat.le_refl _)
theorem append_k {ops : Array Oper} {rest : List Oper} {o : Oper} {a : Act} {Q : Exit → Act → World → Prop} (hgd : o.guard = none) (s x : Operand) (t e : TypeId) (i : TypeInfo) (z : Value) (bytes : Nat)
    (ht : P.underlying t = some (.slice e)) (hi : P.info? e = some i) (hz : i.zero = some z) (hsize : i.size = κ.k) (hby : i.bytes = bytes) (hzs : z.cells.size = κ.k)
    (ho : o.op = .call { callee := .builtin .append, args := #[s, x], argTypes := #[t, t] })
    (w : World) (base B : Nat) (A : Option Addr) (n c : Nat) (l : List α) (ad : Addr) (v : α) (hs : a.eval s = .slice A n c) (hown : OwnK κ w base e A n c l)
    (hx : a.eval x = .slice (some ad) 1 1) (hr : KRow κ w B (some ad) 1 [v]) (hn : n ≤ 1000000) (hb : bytes ≤ 1000) (hbase : base ≤ w.heap.size)
    (h : ∀ A' c' w', OwnK κ w' base e A' (n + 1) c' (l ++ [v]) → Grew w w' (.slice A n c) (.slice A' (n + 1) c') → wpList P ops Q rest (a.put o.dst (.slice A' (n + 1) c')) w') :
    wpList P ops Q (o :: rest) a w := by
  have hbb : (n + 1) * bytes ≤ 140737488355328 := Nat.le_trans (Nat.mul_le_mul (Nat.succ_le_succ hn) hb) (by decide)
  refine append_row hgd s x t ho e i z κ.k bytes ht hi hz hsize hby hzs hown.1 base _ n (l.flatMap κ.cs) hs hown.2 B (some ad) 1 1 ([v].flatMap κ.cs) hx (fun h => by cases h) hr (Cs.flat_one κ [v]) (by unfold maxLen; omega) hbb hbase fun v' w' h1 h2 h3 => ?_
  obtain ⟨A', c', rfl, _⟩ := own_form h1
  refine h A' c' w' ⟨hown.1, by rw [List.flatMap_append]; exact h1⟩ ⟨h2, fun g hg => ?_⟩
  rcases h3 with h3 | h3
  · exact .inl (h3.symm.trans hg)
  · rw [h3] at hg
    obtain rfl := Option.some.inj hg
    exact .inr (Nat.le_refl _)
end
end Go.Proofs.YtddedbpbenkdoaaGreatDoor
namespace Go.Proofs.YtddedbpbenkdoaaGreatDoor
open Go.RowKit

namespace Pr
def Nd.cells (x : Nd) : List Value := [.int .i64 x.kind, .string x.topic, .int .i64 x.prio, .int .i64 x.retr, .int .i64 x.dflt, .string x.code, .string x.caught, .int .i64 x.tgt]
def Nd.val (x : Nd) : Value := .agg #[.int .i64 x.kind, .string x.topic, .int .i64 x.prio, .int .i64 x.retr, .int .i64 x.dflt, .string x.code, .string x.caught, .int .i64 x.tgt]
def Fl.cells (f : Fl) : List Value := [.int .i64 f.frm, .int .i64 f.til, .string f.cond]
def Fl.val (f : Fl) : Value := .agg #[.int .i64 f.frm, .int .i64 f.til, .string f.cond]
def Nd.κ : Cs Nd := ⟨8, Nd.cells, fun _ => rfl, by
  intro x u hu
  simp only [Nd.cells, List.mem_cons, List.not_mem_nil, or_false] at hu
  rcases hu with rfl | rfl | rfl | rfl | rfl | rfl | rfl | rfl <;> rfl⟩
def Fl.κ : Cs Fl := ⟨3, Fl.cells, fun _ => rfl, by
  intro x u hu
  simp only [Fl.cells, List.mem_cons, List.not_mem_nil, or_false] at hu
  rcases hu with rfl | rfl | rfl <;> rfl⟩
theorem info_node : (Tryz.prog.info? 36).map (fun i => (i.zero, i.size, i.bytes)) = some (some (.agg #[.int .i64 0, .string ⟨#[]⟩, .int .i64 0, .int .i64 0, .int .i64 0, .string ⟨#[]⟩, .string ⟨#[]⟩, .int .i64 0]), 8, 88) := by kernel_rfl
theorem info_flow : (Tryz.prog.info? 38).map (fun i => (i.zero, i.size, i.bytes)) = some (some (.agg #[.int .i64 0, .int .i64 0, .string ⟨#[]⟩]), 3, 32) := by kernel_rfl
/-- A process in block q, its rows one's own. -/
structure C (w : World) (base q : Nat) (p : P) : Prop where
  ex : ∃ (A : Option Addr) (n c : Nat) (F : Option Addr) (m d : Nat), Cel w q [.string p.name, .slice A n c, .slice F m d] ∧ OwnK Nd.κ w base 36 A n c p.nodes ∧ OwnK Fl.κ w base 38 F m d p.flows ∧
    (∀ a, A = some a → a.block ≠ q) ∧ (∀ a, F = some a → a.block ≠ q)
  low : base ≤ q
theorem C.lt {w : World} {base q : Nat} {p : P} (h : C w base q p) : q < w.heap.size := by
  obtain ⟨_, _, _, _, _, _, hc, _⟩ := h.ex
  exact hc.lt
theorem C.below {w w' : World} {base q : Nat} {p : P} (h : C w base q p) {B : Nat} (hb : Below B w w') (hB : w.heap.size ≤ B) : C w' base q p := by
  obtain ⟨A, n, c, F, m, d, hc, hn, hf, h1, h2⟩ := h.ex
  exact ⟨⟨A, n, c, F, m, d, hc.below hb hB, hn.below hb hB, hf.below hb hB, h1, h2⟩, h.low⟩
/-- The row of nodes is another one. -/
theorem C.nodes {w w' : World} {base q : Nat} {p : P} {A : Option Addr} {n c : Nat} {F : Option Addr} {m d : Nat} {A' : Option Addr} {n' c' : Nat} {l' : List Nd} (hc : Cel w q [.string p.name, .slice A n c, .slice F m d]) (hn : OwnK Nd.κ w base 36 A n c p.nodes)
    (hf : OwnK Fl.κ w base 38 F m d p.flows) (h1 : ∀ a, A = some a → a.block ≠ q) (h2 : ∀ a, F = some a → a.block ≠ q) (hlow : base ≤ q) (hg : Grew w w' (.slice A n c) (.slice A' n' c')) (hn' : OwnK Nd.κ w' base 36 A' n' c' l') :
    C (w'.setCell ⟨q, 1, none⟩ (.slice A' n' c')) base q ⟨p.name, l', p.flows⟩ := by
  have hgn : ∀ b : Nat, (∀ a, A = some a → a.block ≠ b) → (Value.slice A n c).ownBlock ≠ some b := by
    intro b hb he
    cases A with
    | none => cases he
    | some a => exact hb a rfl (Option.some.inj he)
  have hc' : Cel w' q [.string p.name, .slice A n c, .slice F m d] := hc.kept hg.grown (hgn q h1)
  have hf' : OwnK Fl.κ w' base 38 F m d p.flows := hf.kept hg.grown fun a ha => hgn a.block fun a' ha' => hn.apart hf (by decide) ha' ha
  have h1' : ∀ a, A' = some a → a.block ≠ q := by
    intro a ha
    rcases grew_block hg hn' ha with ⟨a0, h3, h4⟩ | h3
    · rw [← h4]; exact h1 a0 h3
    · have := hc.lt; omega
  refine ⟨⟨A', n', c', F, m, d, ?_, ?_, ?_, h1', h2⟩, hlow⟩
  · exact hc'.set (i := 1) (by simp) _
  · exact hn'.kept (grown_setCell w' ⟨q, 1, none⟩ _) fun a ha e => h1' a ha (Option.some.inj e).symm
  · exact hf'.kept (grown_setCell w' ⟨q, 1, none⟩ _) fun a ha e => h2 a ha (Option.some.inj e).symm
/-- The row of flows is another one. -/
theorem C.flows {w w' : World} {base q : Nat} {p : P} {A : Option Addr} {n c : Nat} {F : Option Addr} {m d : Nat} {F' : Option Addr} {m' d' : Nat} {l' : List Fl} (hc : Cel w q [.string p.name, .slice A n c, .slice F m d]) (hn : OwnK Nd.κ w base 36 A n c p.nodes)
    (hf : OwnK Fl.κ w base 38 F m d p.flows) (h1 : ∀ a, A = some a → a.block ≠ q) (h2 : ∀ a, F = some a → a.block ≠ q) (hlow : base ≤ q) (hg : Grew w w' (.slice F m d) (.slice F' m' d')) (hf' : OwnK Fl.κ w' base 38 F' m' d' l') :
    C (w'.setCell ⟨q, 2, none⟩ (.slice F' m' d')) base q ⟨p.name, p.nodes, l'⟩ := by
  have hgn : ∀ b : Nat, (∀ a, F = some a → a.block ≠ b) → (Value.slice F m d).ownBlock ≠ some b := by
    intro b hb he
    cases F with
    | none => cases he
    | some a => exact hb a rfl (Option.some.inj he)
  have hc' : Cel w' q [.string p.name, .slice A n c, .slice F m d] := hc.kept hg.grown (hgn q h2)
  have hn' : OwnK Nd.κ w' base 36 A n c p.nodes := hn.kept hg.grown fun a ha => hgn a.block fun a' ha' => hf.apart hn (by decide) ha' ha
  have h2' : ∀ a, F' = some a → a.block ≠ q := by
    intro a ha
    rcases grew_block hg hf' ha with ⟨a0, h3, h4⟩ | h3
    · rw [← h4]; exact h2 a0 h3
    · have := hc.lt; omega
  refine ⟨⟨A, n, c, F', m', d', ?_, ?_, ?_, h1, h2'⟩, hlow⟩
  · exact hc'.set (i := 2) (by simp) _
  · exact hn'.kept (grown_setCell w' ⟨q, 2, none⟩ _) fun a ha e => h1 a ha (Option.some.inj e).symm
  · exact hf'.kept (grown_setCell w' ⟨q, 2, none⟩ _) fun a ha e => h2' a ha (Option.some.inj e).symm
end Pr
end Go.Proofs.YtddedbpbenkdoaaGreatDoor
