/- Mathematics of processes out of few numbers: rows of Works, choices, forks, loops. A process in memory under way: one node more, one flow more. -/
import Derived.Test.YtjdgloofdafebaaCt
import Derived.Test.YtjdgloofdafebaaGqY
import Derived.Test.YtjdgloofdafebaaProg
import Derived.Deep.RegionLaw
namespace Go.Proofs.Ytjdgloofdafebaa
open Go.RowKit

namespace Pr
/-- A node, a flow, a process. -/
structure Nd where
  kind : Int
  topic : ByteArray
  prio : Int
  retr : Int
  dflt : Int
  code : ByteArray
  caught : ByteArray
  tgt : Int
structure Fl where
  frm : Int
  til : Int
  cond : ByteArray
structure P where
  name : ByteArray
  nodes : List Nd
  flows : List Fl
def no : ByteArray := ⟨#[]⟩
/-- A node of that Kind and nothing else. -/
def Nd.plain (k : Int) : Nd := ⟨k, no, 0, 0, -1, no, no, -1⟩
instance : Inhabited Nd := ⟨Nd.plain 0⟩
instance : Inhabited Fl := ⟨⟨0, 0, no⟩⟩
def Nd.work (t : ByteArray) (p r : Int) : Nd := ⟨4, t, p, r, -1, no, no, -1⟩
def nmb (x b : Int) : Int := x % b
def bs (l : List UInt8) : ByteArray := ⟨l.toArray⟩
def condL : List (List UInt8) := [[], [116, 114, 117, 101], [102, 97, 108, 115, 101], [97, 32, 62, 32, 50], [97, 32, 60, 32, 51, 32, 111, 114, 32, 98], [115, 32, 61, 61, 32, 34, 120, 34], [97, 32, 47, 32, 48, 32, 61, 61, 32, 49], [99], [110, 111, 116, 32, 98], [97, 32, 43, 32, 49, 32, 61, 61, 32, 51], [49], [98, 32, 97, 110, 100, 32, 97, 32, 62, 61, 32, 48]]
def topicL : List (List UInt8) := [[112, 97, 121], [115, 104, 105, 112], [97, 115, 107, 45, 49]]
def conds (n : Int) : List UInt8 := condL[(nmb n 12).toNat]!
def topics (n : Int) : List UInt8 := topicL[(nmb n 3).toNat]!
def pick (l : List Int) (i : Nat) : Int := if i < l.length then l[i]! else i
/-- One more node; one more flow. -/
def P.node (p : P) (x : Nd) : P := ⟨p.name, p.nodes ++ [{ x with dflt := -1, tgt := -1 }], p.flows⟩
def P.join (p : P) (f t : Int) (c : ByteArray) : P := ⟨p.name, p.nodes, p.flows ++ [⟨f, t, c⟩]⟩
def P.set (p : P) (k : Nat) (f : Nd → Nd) : P := ⟨p.name, p.nodes.modify k f, p.flows⟩
def P.n (p : P) : Nat := p.nodes.length
def P.m (p : P) : Nat := p.flows.length
/-- A Work behind a node. -/
def work (p : P) (at_ : Nat) (m : Int) : P × Nat :=
  let k := p.n
  let p1 := (p.node (Nd.work (bs (topics m)) (nmb (m.tdiv 3) 10) (1 + nmb (m.tdiv 7) 3))).join at_ k no
  if nmb (m.tdiv 5) 4 = 0 then
    let p2 := p1.node (Nd.plain 2)
    (((p2.set k fun x => { x with caught := bs [99, 97, 117, 103, 104, 116] }).join k p1.n no).set k fun x => { x with tgt := p2.m }, k)
  else (p1, k)
/-- A way of a gateway. -/
def way (a b : Nat) (m open_ : Int) (i : Nat) (p : P) : P :=
  let c := if open_ = 6 then no else bs (conds (wrap64 (m.tdiv 3 + i)))
  let q := if nmb (m / 2 ^ i) 2 = 0 then (p.node (Nd.work (bs (topics (wrap64 (m + i)))) i 2)).join p.n b no else p
  let t := if nmb (m / 2 ^ i) 2 = 0 then p.n else b
  let q2 := q.join a t c
  if open_ ≠ 6 ∧ i = 0 ∧ 0 < nmb (m.tdiv 11) 4 then q2.set a fun x => { x with dflt := q.m } else q2
def ways (a b : Nat) (m open_ : Int) : Nat → P → P
  | 0, p => p
  | i + 1, p => way a b m open_ i (ways a b m open_ i p)
/-- A gateway, two or three ways, a gateway again. -/
def parts (p : P) (at_ : Nat) (m open_ shut : Int) : P × Nat :=
  let a := p.n
  let p1 := ((p.node (Nd.plain open_)).join at_ a no).node (Nd.plain shut)
  (ways a (a + 1) m open_ (2 + nmb m 2).toNat p1, a + 1)
/-- A gateway that leads back by a Work. -/
def loop (p : P) (at_ : Nat) (m : Int) : P × Nat :=
  let a := p.n
  let p1 := (((p.node (Nd.plain 5)).join at_ a no).node (Nd.work (bs (topics m)) 0 1)).node (Nd.plain 5)
  let p2 := (p1.join a (a + 1 : Nat) (bs (conds (wrap64 (3 + m))))).join (a + 1 : Nat) a no
  ((p2.join a (a + 2 : Nat) no).set a fun x => { x with dflt := p2.m }, a + 2)
/-- A piece: which by a number. -/
def piece (rings : Bool) (kd m : Int) (p : P) (at_ : Nat) : P × Nat :=
  let w := nmb kd 7
  if w ≤ 2 then work p at_ m else if w = 3 then parts p at_ m 5 5 else if w = 4 then parts p at_ m 6 6 else if w = 5 then parts p at_ m 7 7
  else if rings = true then loop p at_ m else work p at_ m
def pieces (rings : Bool) (kinds more : List Int) : Nat → P × Nat
  | 0 => (⟨bs [112], [Nd.plain 1], []⟩, 0)
  | i + 1 =>
    let r := pieces rings kinds more i
    if r.1.n < 22 then piece rings (kinds[i]!) (pick more i) r.1 r.2 else r
/-- The whole. -/
def good (kinds more : List Int) (rings : Bool) : P :=
  let r := pieces rings kinds more kinds.length
  let p := r.1.node (Nd.plain 2)
  p.join r.2 r.1.n no
end Pr
end Go.Proofs.Ytjdgloofdafebaa
namespace Go.Proofs.Ytjdgloofdafebaa
open Go.RowKit

namespace Pr
def Nd.cells (x : Nd) : List Value := [.int .i64 x.kind, .string x.topic, .int .i64 x.prio, .int .i64 x.retr, .int .i64 x.dflt, .string x.code, .string x.caught, .int .i64 x.tgt]
def Nd.val (x : Nd) : Value := .agg #[.int .i64 x.kind, .string x.topic, .int .i64 x.prio, .int .i64 x.retr, .int .i64 x.dflt, .string x.code, .string x.caught, .int .i64 x.tgt]
def Fl.cells (f : Fl) : List Value := [.int .i64 f.frm, .int .i64 f.til, .string f.cond]
def Fl.val (f : Fl) : Value := .agg #[.int .i64 f.frm, .int .i64 f.til, .string f.cond]
def Nd.κ : Cs Nd := ⟨8, Nd.cells, fun _ => rfl, by
  intro x u hu
  simp only [Nd.cells, List.mem_cons, List.not_mem_nil, or_false] at hu
  rcases hu with rfl | rfl | rfl | rfl | rfl | rfl | rfl | rfl <;> rfl⟩
def Fl.κ : Cs Fl := ⟨3, Fl.cells, fun _ => rfl, by
  intro x u hu
  simp only [Fl.cells, List.mem_cons, List.not_mem_nil, or_false] at hu
  rcases hu with rfl | rfl | rfl <;> rfl⟩
theorem info_node : (Try.prog.info? 48).map (fun i => (i.zero, i.size, i.bytes)) = some (some (.agg #[.int .i64 0, .string ⟨#[]⟩, .int .i64 0, .int .i64 0, .int .i64 0, .string ⟨#[]⟩, .string ⟨#[]⟩, .int .i64 0]), 8, 88) := by kernel_rfl
theorem info_flow : (Try.prog.info? 40).map (fun i => (i.zero, i.size, i.bytes)) = some (some (.agg #[.int .i64 0, .int .i64 0, .string ⟨#[]⟩]), 3, 32) := by kernel_rfl
/-- A process in block q, its rows one's own. -/
structure C (w : World) (base q : Nat) (p : P) : Prop where
  ex : ∃ (A : Option Addr) (n c : Nat) (F : Option Addr) (m d : Nat), Cel w q [.string p.name, .slice A n c, .slice F m d] ∧ OwnK Nd.κ w base 48 A n c p.nodes ∧ OwnK Fl.κ w base 40 F m d p.flows ∧
    (∀ a, A = some a → a.block ≠ q) ∧ (∀ a, F = some a → a.block ≠ q)
  low : base ≤ q
theorem C.lt {w : World} {base q : Nat} {p : P} (h : C w base q p) : q < w.heap.size := by
  obtain ⟨_, _, _, _, _, _, hc, _⟩ := h.ex
  exact hc.lt
theorem C.below {w w' : World} {base q : Nat} {p : P} (h : C w base q p) {B : Nat} (hb : Below B w w') (hB : w.heap.size ≤ B) : C w' base q p := by
  obtain ⟨A, n, c, F, m, d, hc, hn, hf, h1, h2⟩ := h.ex
  exact ⟨⟨A, n, c, F, m, d, hc.below hb hB, hn.below hb hB, hf.below hb hB, h1, h2⟩, h.low⟩
/-- The row of nodes is another one. -/
theorem C.nodes {w w' : World} {base q : Nat} {p : P} {A : Option Addr} {n c : Nat} {F : Option Addr} {m d : Nat} {A' : Option Addr} {n' c' : Nat} {l' : List Nd} (hc : Cel w q [.string p.name, .slice A n c, .slice F m d]) (hn : OwnK Nd.κ w base 48 A n c p.nodes)
    (hf : OwnK Fl.κ w base 40 F m d p.flows) (h1 : ∀ a, A = some a → a.block ≠ q) (h2 : ∀ a, F = some a → a.block ≠ q) (hlow : base ≤ q) (hg : Grew w w' (.slice A n c) (.slice A' n' c')) (hn' : OwnK Nd.κ w' base 48 A' n' c' l') :
    C (w'.setCell ⟨q, 1, none⟩ (.slice A' n' c')) base q ⟨p.name, l', p.flows⟩ := by
  have hgn : ∀ b : Nat, (∀ a, A = some a → a.block ≠ b) → (Value.slice A n c).ownBlock ≠ some b := by
    intro b hb he
    cases A with
    | none => cases he
    | some a => exact hb a rfl (Option.some.inj he)
  have hc' : Cel w' q [.string p.name, .slice A n c, .slice F m d] := hc.kept hg.grown (hgn q h1)
  have hf' : OwnK Fl.κ w' base 40 F m d p.flows := hf.kept hg.grown fun a ha => hgn a.block fun a' ha' => hn.apart hf (by decide) ha' ha
  have h1' : ∀ a, A' = some a → a.block ≠ q := by
    intro a ha
    rcases grew_block hg hn' ha with ⟨a0, h3, h4⟩ | h3
    · rw [← h4]; exact h1 a0 h3
    · have := hc.lt; omega
  refine ⟨⟨A', n', c', F, m, d, ?_, ?_, ?_, h1', h2⟩, hlow⟩
  · exact hc'.set (i := 1) (by simp) _
  · exact hn'.kept (grown_setCell w' ⟨q, 1, none⟩ _) fun a ha e => h1' a ha (Option.some.inj e).symm
  · exact hf'.kept (grown_setCell w' ⟨q, 1, none⟩ _) fun a ha e => h2 a ha (Option.some.inj e).symm
/-- The row of flows is another one. -/
theorem C.flows {w w' : World} {base q : Nat} {p : P} {A : Option Addr} {n c : Nat} {F : Option Addr} {m d : Nat} {F' : Option Addr} {m' d' : Nat} {l' : List Fl} (hc : Cel w q [.string p.name, .slice A n c, .slice F m d]) (hn : OwnK Nd.κ w base 48 A n c p.nodes)
    (hf : OwnK Fl.κ w base 40 F m d p.flows) (h1 : ∀ a, A = some a → a.block ≠ q) (h2 : ∀ a, F = some a → a.block ≠ q) (hlow : base ≤ q) (hg : Grew w w' (.slice F m d) (.slice F' m' d')) (hf' : OwnK Fl.κ w' base 40 F' m' d' l') :
    C (w'.setCell ⟨q, 2, none⟩ (.slice F' m' d')) base q ⟨p.name, p.nodes, l'⟩ := by
  have hgn : ∀ b : Nat, (∀ a, F = some a → a.block ≠ b) → (Value.slice F m d).ownBlock ≠ some b := by
    intro b hb he
    cases F with
    | none => cases he
    | some a => exact hb a rfl (Option.some.inj he)
  have hc' : Cel w' q [.string p.name, .slice A n c, .slice F m d] := hc.kept hg.grown (hgn q h2)
  have hn' : OwnK Nd.κ w' base 48 A n c p.nodes := hn.kept hg.grown fun a ha => hgn a.block fun a' ha' => hf.apart hn (by decide) ha' ha
  have h2' : ∀ a, F' = some a → a.block ≠ q := by
    intro a ha
    rcases grew_block hg hf' ha with ⟨a0, h3, h4⟩ | h3
    · rw [← h4]; exact h2 a0 h3
    · have := hc.lt; omega
  refine ⟨⟨A, n, c, F', m', d', ?_, ?_, ?_, h1, h2'⟩, hlow⟩
  · exact hc'.set (i := 2) (by simp) _
  · exact hn'.kept (grown_setCell w' ⟨q, 2, none⟩ _) fun a ha e => h1 a ha (Option.some.inj e).symm
  · exact hf'.kept (grown_setCell w' ⟨q, 2, none⟩ _) fun a ha e => h2' a ha (Option.some.inj e).symm
end Pr
end Go.Proofs.Ytjdgloofdafebaa
