/- Package cond in memory: a parser in its block, conditions in blocks of their own, the errors that it tells. Mathematics of package cond: what a condition comes to. -/
import Derived.Test.YtlmlhjepolefaaaGreatDoorCt
import Derived.Test.YtlmlhjepolefaaaGreatDoorVfY
import Derived.Test.YtlmlhjepolefaaaGreatDoorYTokenMany1
import Derived.Test.YtlmlhjepolefaaaGreatDoorViY
import Derived.Lib.Bytealg
namespace Go.Proofs.YtlmlhjepolefaaaGreatDoor
open Go.RowKit

/-- The sentinels that cond tells. -/
structure CoErrs (W : World) (E : Int → Option Addr) : Prop where
  e105 : ErrIn W E 105 6
  e111 : ErrIn W E 111 11
  e112 : ErrIn W E 112 12
  words : ∀ i : Nat, i < 18 → W.cell? ⟨16, i, none⟩ = some (.string ⟨(Co.words[i]!).toArray⟩)
theorem CoErrs.below {W w : World} {E : Int → Option Addr} (h : CoErrs W E) (hb : Below W.heap.size W w) : CoErrs w E :=
  ⟨h.e105.below hb, h.e111.below hb, h.e112.below hb, fun i hi => below_cells hb (h.words i hi)⟩
structure CoErrsE (W : World) (E : Int → Option Addr) : Prop extends CoErrs W E where
  e108 : ErrIn W E 108 8
  e110 : ErrIn W E 110 10
  e113 : ErrIn W E 113 13
theorem CoErrsE.below {W w : World} {E : Int → Option Addr} (h : CoErrsE W E) (hb : Below W.heap.size W w) : CoErrsE w E :=
  ⟨h.toCoErrs.below hb, h.e108.below hb, h.e110.below hb, h.e113.below hb⟩

/-- A condition as the program holds it: its six cells. -/
structure Ex where
  op : Int
  kind : Int
  num : Int
  txt : ByteArray
  name : ByteArray
  A : Option Addr
  n : Nat
  c : Nat
def Ex.val (x : Ex) : Value := .agg #[.int .i64 x.op, .int .i64 x.kind, .int .i64 x.num, .string x.txt, .string x.name, .slice x.A x.n x.c]
open Co in
/-- The condition t lies there; each of its blocks is one of N. -/
def At (w : World) (N : Nat → Prop) : Tr → Ex → Prop
  | .leaf op kind num txt name, x => x = ⟨op, kind, num, ⟨txt.toArray⟩, ⟨name.toArray⟩, none, 0, 0⟩
  | .one op a, x => ∃ b y, x = ⟨op, 0, 0, ⟨#[]⟩, ⟨#[]⟩, some ⟨b, 0, none⟩, 1, 1⟩ ∧ N b ∧
      w.heap[b]? = some (.cells #[.int .i64 y.op, .int .i64 y.kind, .int .i64 y.num, .string y.txt, .string y.name, .slice y.A y.n y.c] 112 (0, 0)) ∧ At w N a y
  | .two op a c, x => ∃ b y z, x = ⟨op, 0, 0, ⟨#[]⟩, ⟨#[]⟩, some ⟨b, 0, none⟩, 2, 2⟩ ∧ N b ∧
      w.heap[b]? = some (.cells #[.int .i64 y.op, .int .i64 y.kind, .int .i64 y.num, .string y.txt, .string y.name, .slice y.A y.n y.c, .int .i64 z.op, .int .i64 z.kind, .int .i64 z.num, .string z.txt, .string z.name, .slice z.A z.n z.c] 112 (0, 0)) ∧ At w N a y ∧ At w N c z
/-- Kept, where what changes is none of its blocks. -/
theorem At.kept {w w' : World} {N N' : Nat → Prop} {row : Option Nat} (hg : w.grownBy w' row) (hN : ∀ b, N b → b < w.heap.size → row ≠ some b ∧ N' b) : ∀ {t : Co.Tr} {x : Ex}, At w N t x → At w' N' t x
  | .leaf .., _, h => h
  | .one _ _, _, ⟨b, y, hx, hb, hh, ha⟩ => ⟨b, y, hx, (hN b hb (blk_lt hh)).2, (hg.block b (blk_lt hh) (fun e => (hN b hb (blk_lt hh)).1 e.symm)).trans hh, At.kept hg hN ha⟩
  | .two _ _ _, _, ⟨b, y, z, hx, hb, hh, ha, hc⟩ => ⟨b, y, z, hx, (hN b hb (blk_lt hh)).2, (hg.block b (blk_lt hh) (fun e => (hN b hb (blk_lt hh)).1 e.symm)).trans hh, At.kept hg hN ha, At.kept hg hN hc⟩
theorem At.below {w w' : World} {N : Nat → Prop} {t : Co.Tr} {x : Ex} (h : At w N t x) {B : Nat} (hb : Below B w w') (hB : w.heap.size ≤ B) : At w' N t x :=
  At.kept (grown_none hb hB) (fun _ h _ => ⟨by simp, h⟩) h
theorem At.alloc {w : World} {N : Nat → Prop} {t : Co.Tr} {x : Ex} (h : At w N t x) (o : Obj) : At (w.alloc o) N t x := At.kept (grown_alloc w o none) (fun _ h _ => ⟨by simp, h⟩) h
theorem At.mono {w : World} {N N' : Nat → Prop} {t : Co.Tr} {x : Ex} (h : At w N t x) (hN : ∀ b, N b → b < w.heap.size → N' b) : At w N' t x :=
  At.kept (World.grownBy.refl w none) (fun b h hl => ⟨by simp, hN b h hl⟩) h

/-- The parser's error. -/
def ErrSt (E : Int → Option Addr) (w : World) (ev : Value) : Option (Int × Nat) → Prop
  | none => ev = .nilIface
  | some (c, k) => ∃ b a, ev = atV b ∧ E c = some a ∧ c ≠ 0 ∧ w.heap[b]? = some (.cells #[.int .i64 (k : Int), errV a] 100 (0, 0))
theorem ErrSt.kept {E : Int → Option Addr} {w w' : World} {ev : Value} {r : Option (Int × Nat)} (h : ErrSt E w ev r) {z : Nat} (hg : w.grownBy w' (some z)) (hz : ∃ k v, w.cell? ⟨z, 1, none⟩ = some (.int k v)) : ErrSt E w' ev r := by
  cases r with
  | none => exact h
  | some x =>
    obtain ⟨c, k⟩ := x
    obtain ⟨b, a, h1, h2, h3, hb⟩ := h
    refine ⟨b, a, h1, h2, h3, (hg.block b (blk_lt hb) (fun e => ?_)).trans hb⟩
    obtain rfl := Option.some.inj e
    obtain ⟨k', v, hk⟩ := hz
    have := cell_of_row w b 1 _ _ (0, 0) hb
    rw [hk] at this
    unfold errV at this
    simp at this
theorem ErrSt.below {E : Int → Option Addr} {w w' : World} {ev : Value} {r : Option (Int × Nat)} (h : ErrSt E w ev r) {B : Nat} (hb : Below B w w') (hB : w.heap.size ≤ B) : ErrSt E w' ev r := by
  cases r with
  | none => exact h
  | some x =>
    obtain ⟨c, k⟩ := x
    obtain ⟨b, a, h1, h2, h3, hh⟩ := h
    exact ⟨b, a, h1, h2, h3, (hb.block b (Nat.lt_of_lt_of_le (blk_lt hh) hB)).trans hh⟩
/-- The parser in block q, at st, inside d. -/
structure PaC (E : Int → Option Addr) (w : World) (q : Nat) (s : ByteArray) (st : Co.St) (d : Nat) : Prop where
  ex : ∃ ev, Cel w q [.string s, .int .i64 (st.kind : Int), .int .i64 (st.frm : Int), .int .i64 (st.till : Int), .int .i64 (d : Int), ev] ∧ ErrSt E w ev st.err
  ord : st.frm ≤ st.till
  top : st.till ≤ s.size
  size : s.size ≤ 80
section
variable {E : Int → Option Addr} {w w' : World} {q d : Nat} {s : ByteArray} {st : Co.St}
theorem PaC.lt (h : PaC E w q s st d) : q < w.heap.size := by
  obtain ⟨_, hc, _⟩ := h.ex
  exact hc.lt
theorem PaC.below (h : PaC E w q s st d) {B : Nat} (hb : Below B w w') (hB : w.heap.size ≤ B) : PaC E w' q s st d := by
  obtain ⟨ev, hc, he⟩ := h.ex
  exact ⟨⟨ev, hc.below hb hB, he.below hb hB⟩, h.ord, h.top, h.size⟩
theorem PaC.alloc (h : PaC E w q s st d) (o : Obj) : PaC E (w.alloc o) q s st d := h.below ((Below.refl w.heap.size w).alloc (Nat.le_refl _) o) (Nat.le_refl _)
theorem PaC.drewN (h : PaC E w q s st d) (n : Nat) : PaC E (w.drewN n) q s st d := h.below (below_drewN (Below.refl w.heap.size w) n) (Nat.le_refl _)
/-- Kept, where another block is written. -/
theorem PaC.other (h : PaC E w q s st d) {z : Nat} (hg : w.grownBy w' (some z)) (hne : z ≠ q) (hz : ∃ k v, w.cell? ⟨z, 1, none⟩ = some (.int k v)) : PaC E w' q s st d := by
  obtain ⟨ev, hc, he⟩ := h.ex
  exact ⟨⟨ev, hc.kept hg (fun e => hne (Option.some.inj e)), he.kept hg hz⟩, h.ord, h.top, h.size⟩
end
/-- One part of the parser, function g, inside d: what it is called with, what it leaves. -/
def PartC (E : Int → Option Addr) (W : World) (q : Nat) (s : ByteArray) (g d : Nat) (f : Co.St → Co.Out) : Prop :=
  ∀ st e st', f st = some (e, st') → ∀ w, Below W.heap.size W w → PaC E w q s st d →
    Calls Tryz.prog g #[.pointer (some ⟨q, 0, none⟩)] w fun x w' => (∃ y, x = .returned (Ex.val y) ∧ At w' (fun b => w.heap.size ≤ b) e y) ∧ PaC E w' q s st' d ∧ w.grownBy w' (some q)
end Go.Proofs.YtlmlhjepolefaaaGreatDoor
namespace Go.Proofs.YtlmlhjepolefaaaGreatDoor
open Go.RowKit

/-- A value. -/
structure Vl where
  kind : Int
  num : Int
  txt : ByteArray
def Vl.val (v : Vl) : Value := .agg #[.int .i64 v.kind, .int .i64 v.num, .string v.txt]
def Vl.list (v : Vl) : List Value := [.int .i64 v.kind, .int .i64 v.num, .string v.txt]
def Vl.zero : Vl := ⟨0, 0, ⟨#[]⟩⟩
namespace Co
def truth (v : Vl) : Int × Bool := if v.kind = 2 then (0, !(v.num == 0)) else (110, false)
def bn (b : Bool) : Int := if b then 1 else 0
def flag (b : Bool) : Vl := ⟨2, bn b, ⟨#[]⟩⟩
def eqv (a b : Vl) : Bool := a.kind == b.kind && (a.num == b.num && a.txt.toList == b.txt.toList)
def same (op : Int) (a b : Vl) : Int × Vl := if a.kind = b.kind then (0, flag (eqv a b == (op == 6))) else (110, Vl.zero)
def cmpI (a b : Int) : Int := if a < b then -1 else if b < a then 1 else 0
def byOp (op c : Int) : Bool := if op = 8 then decide (c < 0) else if op = 9 then decide (c ≤ 0) else if op = 10 then decide (0 < c) else decide (0 ≤ c)
def ordered (op : Int) (a b : Vl) : Int × Vl :=
  if a.kind = 1 ∧ b.kind = 1 then (0, flag (byOp op (cmpI a.num b.num)))
  else if a.kind = 3 ∧ b.kind = 3 then (0, flag (byOp op (Lib.compareBytes a.txt.data.toList b.txt.data.toList))) else (110, Vl.zero)
def counted (op a b : Int) : Int × Vl :=
  if op = 12 then (0, ⟨1, wrap64 (a + b), ⟨#[]⟩⟩) else if op = 13 then (0, ⟨1, wrap64 (a - b), ⟨#[]⟩⟩) else if op = 14 then (0, ⟨1, wrap64 (a * b), ⟨#[]⟩⟩)
  else if b = 0 then (113, Vl.zero) else if op = 15 then (0, ⟨1, wrap64 (a.tdiv b), ⟨#[]⟩⟩) else (0, ⟨1, (a.tmod b), ⟨#[]⟩⟩)
def cut (s : ByteArray) : ByteArray := s.extract 0 (min s.size 60)
def two (op : Int) (a b : Vl) : Int × Vl :=
  if op ≤ 7 then same op a b else if op ≤ 11 then ordered op a b
  else if op = 12 ∧ a.kind = 3 ∧ b.kind = 3 then (0, ⟨3, 0, cut (a.txt ++ b.txt)⟩) else if a.kind = 1 ∧ b.kind = 1 then counted op a.num b.num else (110, Vl.zero)
def hold (r : Int × Vl) : Int × Bool := if r.1 = 0 then truth r.2 else (r.1, false)
def notR (r : Int × Bool) : Int × Vl := if r.1 = 0 then (0, flag (!r.2)) else (r.1, Vl.zero)
def negR (r : Int × Vl) : Int × Vl := if r.1 = 0 then if r.2.kind = 1 then (0, ⟨1, wrap64 (-r.2.num), ⟨#[]⟩⟩) else (110, Vl.zero) else (r.1, Vl.zero)
def flagR (r : Int × Bool) : Int × Vl := if r.1 = 0 then (0, flag r.2) else (r.1, Vl.zero)
def joinR (op : Int) (a b : Int × Bool) : Int × Vl := if a.1 = 0 ∧ a.2 ≠ (op == 3) then flagR b else flagR a
def twoR (op : Int) (a b : Int × Vl) : Int × Vl := if a.1 = 0 then if b.1 = 0 then two op a.2 b.2 else (b.1, Vl.zero) else (a.1, Vl.zero)
def named (l : List Vr.V) (s : ByteArray) : Int × Vl := if (Vr.get l s).2 = true then (0, ⟨(Vr.get l s).1.kind, (Vr.get l s).1.num, (Vr.get l s).1.text⟩) else (108, Vl.zero)
/-- What a condition comes to: an error's number, 0: none; a value. -/
def ev (l : List Vr.V) : Tr → Int × Vl
  | .leaf op kind num txt name => if op = 1 then (0, ⟨kind, num, ⟨txt.toArray⟩⟩) else named l ⟨name.toArray⟩
  | .one op a => if op = 5 then notR (hold (ev l a)) else negR (ev l a)
  | .two op a b => if op = 3 ∨ op = 4 then joinR op (hold (ev l a)) (hold (ev l b)) else twoR op (ev l a) (ev l b)
/-- Is it one that Parse may tell? -/
def wf : Tr → Bool
  | .leaf op _ _ _ _ => op == 1 || op == 2
  | .one op a => (op == 5 || op == 17) && wf a
  | .two op a b => decide (3 ≤ op) && decide (op ≤ 16) && !(op == 5) && wf a && wf b
end Co
end Go.Proofs.YtlmlhjepolefaaaGreatDoor
