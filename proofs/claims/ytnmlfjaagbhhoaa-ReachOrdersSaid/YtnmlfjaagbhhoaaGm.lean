/- Mathematics of processes out of few numbers: rows of Works, choices, forks, loops. -/
import Derived.Test.YtnmlfjaagbhhoaaCt
namespace Go.Proofs.Ytnmlfjaagbhhoaa
open Go.RowKit

namespace Pr
/-- A node, a flow, a process. -/
structure Nd where
  kind : Int
  topic : ByteArray
  prio : Int
  retr : Int
  dflt : Int
  code : ByteArray
  caught : ByteArray
  tgt : Int
structure Fl where
  frm : Int
  til : Int
  cond : ByteArray
structure P where
  name : ByteArray
  nodes : List Nd
  flows : List Fl
def no : ByteArray := ⟨#[]⟩
/-- A node of that Kind and nothing else. -/
def Nd.plain (k : Int) : Nd := ⟨k, no, 0, 0, -1, no, no, -1⟩
instance : Inhabited Nd := ⟨Nd.plain 0⟩
instance : Inhabited Fl := ⟨⟨0, 0, no⟩⟩
def Nd.work (t : ByteArray) (p r : Int) : Nd := ⟨4, t, p, r, -1, no, no, -1⟩
def nmb (x b : Int) : Int := x % b
def bs (l : List UInt8) : ByteArray := ⟨l.toArray⟩
def condL : List (List UInt8) := [[], [116, 114, 117, 101], [102, 97, 108, 115, 101], [97, 32, 62, 32, 50], [97, 32, 60, 32, 51, 32, 111, 114, 32, 98], [115, 32, 61, 61, 32, 34, 120, 34], [97, 32, 47, 32, 48, 32, 61, 61, 32, 49], [99], [110, 111, 116, 32, 98], [97, 32, 43, 32, 49, 32, 61, 61, 32, 51], [49], [98, 32, 97, 110, 100, 32, 97, 32, 62, 61, 32, 48]]
def topicL : List (List UInt8) := [[112, 97, 121], [115, 104, 105, 112], [97, 115, 107, 45, 49]]
def conds (n : Int) : List UInt8 := condL[(nmb n 12).toNat]!
def topics (n : Int) : List UInt8 := topicL[(nmb n 3).toNat]!
def pick (l : List Int) (i : Nat) : Int := if i < l.length then l[i]! else i
/-- One more node; one more flow. -/
def P.node (p : P) (x : Nd) : P := ⟨p.name, p.nodes ++ [{ x with dflt := -1, tgt := -1 }], p.flows⟩
def P.join (p : P) (f t : Int) (c : ByteArray) : P := ⟨p.name, p.nodes, p.flows ++ [⟨f, t, c⟩]⟩
def P.set (p : P) (k : Nat) (f : Nd → Nd) : P := ⟨p.name, p.nodes.modify k f, p.flows⟩
def P.n (p : P) : Nat := p.nodes.length
def P.m (p : P) : Nat := p.flows.length
/-- A Work behind a node. -/
def work (p : P) (at_ : Nat) (m : Int) : P × Nat :=
  let k := p.n
  let p1 := (p.node (Nd.work (bs (topics m)) (nmb (m.tdiv 3) 10) (1 + nmb (m.tdiv 7) 3))).join at_ k no
  if nmb (m.tdiv 5) 4 = 0 then
    let p2 := p1.node (Nd.plain 2)
    (((p2.set k fun x => { x with caught := bs [99, 97, 117, 103, 104, 116] }).join k p1.n no).set k fun x => { x with tgt := p2.m }, k)
  else (p1, k)
/-- A way of a gateway. -/
def way (a b : Nat) (m open_ : Int) (i : Nat) (p : P) : P :=
  let c := if open_ = 6 then no else bs (conds (wrap64 (m.tdiv 3 + i)))
  let q := if nmb (m / 2 ^ i) 2 = 0 then (p.node (Nd.work (bs (topics (wrap64 (m + i)))) i 2)).join p.n b no else p
  let t := if nmb (m / 2 ^ i) 2 = 0 then p.n else b
  let q2 := q.join a t c
  if open_ ≠ 6 ∧ i = 0 ∧ 0 < nmb (m.tdiv 11) 4 then q2.set a fun x => { x with dflt := q.m } else q2
def ways (a b : Nat) (m open_ : Int) : Nat → P → P
  | 0, p => p
  | i + 1, p => way a b m open_ i (ways a b m open_ i p)
/-- A gateway, two or three ways, a gateway again. -/
def parts (p : P) (at_ : Nat) (m open_ shut : Int) : P × Nat :=
  let a := p.n
  let p1 := ((p.node (Nd.plain open_)).join at_ a no).node (Nd.plain shut)
  (ways a (a + 1) m open_ (2 + nmb m 2).toNat p1, a + 1)
/-- A gateway that leads back by a Work. -/
def loop (p : P) (at_ : Nat) (m : Int) : P × Nat :=
  let a := p.n
  let p1 := (((p.node (Nd.plain 5)).join at_ a no).node (Nd.work (bs (topics m)) 0 1)).node (Nd.plain 5)
  let p2 := (p1.join a (a + 1 : Nat) (bs (conds (wrap64 (3 + m))))).join (a + 1 : Nat) a no
  ((p2.join a (a + 2 : Nat) no).set a fun x => { x with dflt := p2.m }, a + 2)
/-- A piece: which by a number. -/
def piece (rings : Bool) (kd m : Int) (p : P) (at_ : Nat) : P × Nat :=
  let w := nmb kd 7
  if w ≤ 2 then work p at_ m else if w = 3 then parts p at_ m 5 5 else if w = 4 then parts p at_ m 6 6 else if w = 5 then parts p at_ m 7 7
  else if rings = true then loop p at_ m else work p at_ m
def pieces (rings : Bool) (kinds more : List Int) : Nat → P × Nat
  | 0 => (⟨bs [112], [Nd.plain 1], []⟩, 0)
  | i + 1 =>
    let r := pieces rings kinds more i
    if r.1.n < 22 then piece rings (kinds[i]!) (pick more i) r.1 r.2 else r
/-- The whole. -/
def good (kinds more : List Int) (rings : Bool) : P :=
  let r := pieces rings kinds more kinds.length
  let p := r.1.node (Nd.plain 2)
  p.join r.2 r.1.n no
end Pr
end Go.Proofs.Ytnmlfjaagbhhoaa
