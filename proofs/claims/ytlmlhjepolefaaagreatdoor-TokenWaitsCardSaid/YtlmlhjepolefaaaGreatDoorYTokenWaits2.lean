/- A block's cells, which may be written. Mathematics of processes out of few numbers: rows of Works, choices, forks, loops. Walks of package vars: Check. -/
import Derived.Test.YtlmlhjepolefaaaGreatDoorAppY
import Derived.KernelRfl
import Derived.Test.YtlmlhjepolefaaaGreatDoorCtY
import Derived.Test.YtlmlhjepolefaaaGreatDoorYTokenWaits13
import Derived.Deep.QuietTactic
import Derived.BigQuiet
namespace Go.Proofs.YtlmlhjepolefaaaGreatDoor
open Go.RowKit

theorem grown_trans {a w w' : World} {row : Option Nat} (h : a.grownBy w row) (k : w.grownBy w' row) : a.grownBy w' row :=
  ⟨k.os.trans h.os, k.tape.trans h.tape, k.output.trans h.output, Nat.le_trans h.size k.size, fun b hb hne => (k.block b (Nat.lt_of_lt_of_le hb h.size) hne).trans (h.block b hb hne)⟩
theorem grown_of {B : Nat} {a w w' : World} {row : Option Nat} (h : a.grownBy w row) (k : Below B w w') (hB : w.heap.size ≤ B) : a.grownBy w' row :=
  grown_trans h ⟨k.os, k.tape, k.output, k.size, fun b hb _ => k.block b (Nat.lt_of_lt_of_le hb hB)⟩

theorem below_cells {w w' : World} {b o : Nat} {v : Value} (hb : Below w.heap.size w w') (h : w.cell? ⟨b, o, none⟩ = some v) : w'.cell? ⟨b, o, none⟩ = some v :=
  (hb.cell (p := ⟨b, o, none⟩) (cell_lt h)).trans h
theorem below_drewN {B : Nat} {w w' : World} (hb : Below B w w') (n : Nat) : Below B w (w'.drewN n) := ⟨hb.os, hb.tape, hb.output, hb.size, hb.block⟩
theorem blk_lt {w : World} {b : Nat} {o : Obj} (h : w.heap[b]? = some o) : b < w.heap.size := by
  rcases Nat.lt_or_ge b w.heap.size with h' | h'
  · exact h'
  · rw [Array.getElem?_eq_none h'] at h; cases h
theorem grown_none {B : Nat} {w w' : World} (hb : Below B w w') (hB : w.heap.size ≤ B) : w.grownBy w' none :=
  ⟨hb.os, hb.tape, hb.output, hb.size, fun k hk _ => hb.block k (Nat.lt_of_lt_of_le hk hB)⟩
theorem set_grown {w w' : World} {q : Nat} (hg : w.grownBy w' (some q)) (i : Nat) (v : Value) : w.grownBy (w'.setCell ⟨q, i, none⟩ v) (some q) := grown_trans hg (grown_setCell _ ⟨q, i, none⟩ _)
/-- A block's cells, which may be written. -/
structure Cel (w : World) (q : Nat) (cs : List Value) : Prop where
  cell : ∀ (i : Nat) v, cs[i]? = some v → w.cell? ⟨q, i, none⟩ = some v
  froz : ∀ i : Nat, i < cs.length → w.frozen? ⟨q, i, none⟩ = false
  lt : q < w.heap.size
section
variable {w w' : World} {q : Nat} {cs : List Value} {row : Option Nat}
theorem Cel.set (h : Cel w q cs) {i : Nat} (hi : i < cs.length) (v : Value) : Cel (w.setCell ⟨q, i, none⟩ v) q (cs.set i v) := by
  refine ⟨fun j u hj => ?_, fun j hj => by simpa using h.froz j (by simpa using hj), by simpa using h.lt⟩
  by_cases e : i = j
  · subst e
    rw [List.getElem?_set_self hi] at hj
    obtain rfl := Option.some.inj hj
    exact World.cell?_setCell_same _ _ _ (h.cell i _ (List.getElem?_eq_getElem hi))
  · rw [List.getElem?_set_ne e] at hj
    exact (World.cell?_setCell_other _ _ _ _ (by intro h; cases h; exact e rfl)).trans (h.cell j u hj)
theorem Cel.kept (h : Cel w q cs) (hg : w.grownBy w' row) (hne : row ≠ some q) : Cel w' q cs := by
  have hb := hg.block q h.lt (fun e => hne e.symm)
  exact ⟨fun i v hi => (World.cell?_of_block (a := ⟨q, i, none⟩) hb).trans (h.cell i v hi), fun i hi => (World.frozen?_of_block (a := ⟨q, i, none⟩) hb).trans (h.froz i hi), Nat.lt_of_lt_of_le h.lt hg.size⟩
theorem Cel.below (h : Cel w q cs) {B : Nat} (hb : Below B w w') (hB : w.heap.size ≤ B) : Cel w' q cs :=
  h.kept (row := none) ⟨hb.os, hb.tape, hb.output, hb.size, fun k hk _ => hb.block k (Nat.lt_of_lt_of_le hk hB)⟩ (by simp)
theorem Cel.alloc (h : Cel w q cs) (o : Obj) : Cel (w.alloc o) q cs := h.kept (grown_alloc w o none) (by simp)
theorem Cel.drewN (h : Cel w q cs) (n : Nat) : Cel (w.drewN n) q cs := h.below (below_drewN (Below.refl w.heap.size w) n) (Nat.le_refl _)
end

theorem Cel.lit (w : World) (cs : Array Value) (t : TypeId) : Cel (w.alloc (.cells cs t)) w.heap.size cs.toList := by
  have hh := heap_alloc_new w (.cells cs t)
  refine ⟨fun i v hi => ?_, fun i hi => ?_, by simp⟩
  · have := cell_of_row (w.alloc (.cells cs t)) w.heap.size i cs t (0, 0) hh
    rw [this]; simpa using hi
  · simp
theorem grown_past {w w1 w2 : World} {row : Option Nat} {z : Nat} (h : w.grownBy w1 row) (k : w1.grownBy w2 (some z)) (hz : w.heap.size ≤ z) : w.grownBy w2 row :=
  ⟨k.os.trans h.os, k.tape.trans h.tape, k.output.trans h.output, Nat.le_trans h.size k.size, fun b hb hne => (k.block b (Nat.lt_of_lt_of_le hb h.size) (fun e => by have := Option.some.inj e; omega)).trans (h.block b hb hne)⟩
end Go.Proofs.YtlmlhjepolefaaaGreatDoor
namespace Go.Proofs.YtlmlhjepolefaaaGreatDoor
open Go.RowKit

namespace Pr
/-- A node, a flow, a process. -/
structure Nd where
  kind : Int
  topic : ByteArray
  prio : Int
  retr : Int
  dflt : Int
  code : ByteArray
  caught : ByteArray
  tgt : Int
structure Fl where
  frm : Int
  til : Int
  cond : ByteArray
structure P where
  name : ByteArray
  nodes : List Nd
  flows : List Fl
def no : ByteArray := ⟨#[]⟩
/-- A node of that Kind and nothing else. -/
def Nd.plain (k : Int) : Nd := ⟨k, no, 0, 0, -1, no, no, -1⟩
instance : Inhabited Nd := ⟨Nd.plain 0⟩
instance : Inhabited Fl := ⟨⟨0, 0, no⟩⟩
def Nd.work (t : ByteArray) (p r : Int) : Nd := ⟨4, t, p, r, -1, no, no, -1⟩
def nmb (x b : Int) : Int := x % b
def bs (l : List UInt8) : ByteArray := ⟨l.toArray⟩
def condL : List (List UInt8) := [[], [116, 114, 117, 101], [102, 97, 108, 115, 101], [97, 32, 62, 32, 50], [97, 32, 60, 32, 51, 32, 111, 114, 32, 98], [115, 32, 61, 61, 32, 34, 120, 34], [97, 32, 47, 32, 48, 32, 61, 61, 32, 49], [99], [110, 111, 116, 32, 98], [97, 32, 43, 32, 49, 32, 61, 61, 32, 51], [49], [98, 32, 97, 110, 100, 32, 97, 32, 62, 61, 32, 48]]
def topicL : List (List UInt8) := [[112, 97, 121], [115, 104, 105, 112], [97, 115, 107, 45, 49]]
def conds (n : Int) : List UInt8 := condL[(nmb n 12).toNat]!
def topics (n : Int) : List UInt8 := topicL[(nmb n 3).toNat]!
def pick (l : List Int) (i : Nat) : Int := if i < l.length then l[i]! else i
/-- One more node; one more flow. -/
def P.node (p : P) (x : Nd) : P := ⟨p.name, p.nodes ++ [{ x with dflt := -1, tgt := -1 }], p.flows⟩
def P.join (p : P) (f t : Int) (c : ByteArray) : P := ⟨p.name, p.nodes, p.flows ++ [⟨f, t, c⟩]⟩
def P.set (p : P) (k : Nat) (f : Nd → Nd) : P := ⟨p.name, p.nodes.modify k f, p.flows⟩
def P.n (p : P) : Nat := p.nodes.length
def P.m (p : P) : Nat := p.flows.length
/-- A Work behind a node. -/
def work (p : P) (at_ : Nat) (m : Int) : P × Nat :=
  let k := p.n
  let p1 := (p.node (Nd.work (bs (topics m)) (nmb (m.tdiv 3) 10) (1 + nmb (m.tdiv 7) 3))).join at_ k no
  if nmb (m.tdiv 5) 4 = 0 then
    let p2 := p1.node (Nd.plain 2)
    (((p2.set k fun x => { x with caught := bs [99, 97, 117, 103, 104, 116] }).join k p1.n no).set k fun x => { x with tgt := p2.m }, k)
  else (p1, k)
/-- A way of a gateway. -/
def way (a b : Nat) (m open_ : Int) (i : Nat) (p : P) : P :=
  let c := if open_ = 6 then no else bs (conds (wrap64 (m.tdiv 3 + i)))
  let q := if nmb (m / 2 ^ i) 2 = 0 then (p.node (Nd.work (bs (topics (wrap64 (m + i)))) i 2)).join p.n b no else p
  let t := if nmb (m / 2 ^ i) 2 = 0 then p.n else b
  let q2 := q.join a t c
  if open_ ≠ 6 ∧ i = 0 ∧ 0 < nmb (m.tdiv 11) 4 then q2.set a fun x => { x with dflt := q.m } else q2
def ways (a b : Nat) (m open_ : Int) : Nat → P → P
  | 0, p => p
  | i + 1, p => way a b m open_ i (ways a b m open_ i p)
/-- A gateway, two or three ways, a gateway again. -/
def parts (p : P) (at_ : Nat) (m open_ shut : Int) : P × Nat :=
  let a := p.n
  let p1 := ((p.node (Nd.plain open_)).join at_ a no).node (Nd.plain shut)
  (ways a (a + 1) m open_ (2 + nmb m 2).toNat p1, a + 1)
/-- A gateway that leads back by a Work. -/
def loop (p : P) (at_ : Nat) (m : Int) : P × Nat :=
  let a := p.n
  let p1 := (((p.node (Nd.plain 5)).join at_ a no).node (Nd.work (bs (topics m)) 0 1)).node (Nd.plain 5)
  let p2 := (p1.join a (a + 1 : Nat) (bs (conds (wrap64 (3 + m))))).join (a + 1 : Nat) a no
  ((p2.join a (a + 2 : Nat) no).set a fun x => { x with dflt := p2.m }, a + 2)
/-- A piece: which by a number. -/
def piece (rings : Bool) (kd m : Int) (p : P) (at_ : Nat) : P × Nat :=
  let w := nmb kd 7
  if w ≤ 2 then work p at_ m else if w = 3 then parts p at_ m 5 5 else if w = 4 then parts p at_ m 6 6 else if w = 5 then parts p at_ m 7 7
  else if rings = true then loop p at_ m else work p at_ m
def pieces (rings : Bool) (kinds more : List Int) : Nat → P × Nat
  | 0 => (⟨bs [112], [Nd.plain 1], []⟩, 0)
  | i + 1 =>
    let r := pieces rings kinds more i
    if r.1.n < 22 then piece rings (kinds[i]!) (pick more i) r.1 r.2 else r
/-- The whole. -/
def good (kinds more : List Int) (rings : Bool) : P :=
  let r := pieces rings kinds more kinds.length
  let p := r.1.node (Nd.plain 2)
  p.join r.2 r.1.n no
end Pr
end Go.Proofs.YtlmlhjepolefaaaGreatDoor
namespace Go.Proofs.YtlmlhjepolefaaaGreatDoor
open Go.RowKit

theorem seen_at_new {E : Int → Option Addr} (w : World) (c : Int) (a : Addr) (x : Int) (k : Nat) (hx : x = k) (h : E c = some a) (hc : c ≠ 0) : SeenF E (w.alloc (.cells #[.int .i64 x, .iface 185 (.pointer (some a))] 100)) (atV w.heap.size) c (some k) := by
  subst hx
  refine .at_ _ c a k h hc ?_ ?_
  · exact cell_of_row _ w.heap.size 0 _ _ (0, 0) (heap_alloc_new w _)
  · exact cell_of_row _ w.heap.size 1 _ _ (0, 0) (heap_alloc_new w _)
theorem faultAt_first {l : List Vr.V} {k : Nat} {x : Int} (hx : x ≠ 0) (h : Vr.fault l[k]! = x) : Vr.faultAt l k = x := by
  unfold Vr.faultAt
  rw [h, if_pos hx]
theorem faultAt_zero {l : List Vr.V} (h : Vr.fault l[0]! = 0) : Vr.faultAt l 0 = 0 := by
  unfold Vr.faultAt
  rw [h, if_neg (by simp), if_neg (by simp)]
theorem faultAt_twice {l : List Vr.V} {j : Nat} (h : Vr.fault l[j + 1]! = 0) (h2 : Vr.lss l[j]!.name l[j + 1]!.name = false) : Vr.faultAt l (j + 1) = 109 := by
  unfold Vr.faultAt
  rw [h, if_neg (by simp), if_pos ⟨by omega, by simpa using h2⟩]
theorem faultAt_fine {l : List Vr.V} {j : Nat} (h : Vr.fault l[j + 1]! = 0) (h2 : Vr.lss l[j]!.name l[j + 1]!.name = true) : Vr.faultAt l (j + 1) = 0 := by
  unfold Vr.faultAt
  rw [h, if_neg (by simp), if_neg (fun hh => by rw [show j + 1 - 1 = j from rfl, h2] at hh; cases hh.2)]
theorem all_next {l : List Vr.V} {k : Nat} (h : ∀ j, j < k → Vr.faultAt l j = 0) (hk : Vr.faultAt l k = 0) : ∀ j, j < k + 1 → Vr.faultAt l j = 0 := by
  intro j hj
  by_cases e : j = k
  · subst e; exact hk
  · exact h j (by omega)

end Go.Proofs.YtlmlhjepolefaaaGreatDoor
