/- Package cond in memory: a parser in its block, conditions in blocks of their own, the errors that it tells. -/
import Derived.Test.YtpjdbccndlbbhaaGreatDoorCt
import Derived.Test.YtpjdbccndlbbhaaGreatDoorVf
namespace Go.Proofs.YtpjdbccndlbbhaaGreatDoor
open Go.RowKit

/-- The sentinels that cond tells. -/
structure CoErrs (W : World) (E : Int → Option Addr) : Prop where
  e105 : ErrIn W E 105 0
  e108 : ErrIn W E 108 3
  e110 : ErrIn W E 110 2
  e111 : ErrIn W E 111 1
  e112 : ErrIn W E 112 13
  e113 : ErrIn W E 113 4
  words : ∀ i : Nat, i < 18 → W.cell? ⟨5, i, none⟩ = some (.string ⟨(Co.words[i]!).toArray⟩)
theorem CoErrs.below {W w : World} {E : Int → Option Addr} (h : CoErrs W E) (hb : Below W.heap.size W w) : CoErrs w E :=
  ⟨h.e105.below hb, h.e108.below hb, h.e110.below hb, h.e111.below hb, h.e112.below hb, h.e113.below hb, fun i hi => below_cells hb (h.words i hi)⟩

theorem grown_trans {a w w' : World} {row : Option Nat} (h : a.grownBy w row) (k : w.grownBy w' row) : a.grownBy w' row :=
  ⟨k.os.trans h.os, k.tape.trans h.tape, k.output.trans h.output, Nat.le_trans h.size k.size, fun b hb hne => (k.block b (Nat.lt_of_lt_of_le hb h.size) hne).trans (h.block b hb hne)⟩
theorem grown_of {B : Nat} {a w w' : World} {row : Option Nat} (h : a.grownBy w row) (k : Below B w w') (hB : w.heap.size ≤ B) : a.grownBy w' row :=
  grown_trans h ⟨k.os, k.tape, k.output, k.size, fun b hb _ => k.block b (Nat.lt_of_lt_of_le hb hB)⟩

/-- A block's cells, which may be written. -/
structure Cel (w : World) (q : Nat) (cs : List Value) : Prop where
  cell : ∀ (i : Nat) v, cs[i]? = some v → w.cell? ⟨q, i, none⟩ = some v
  froz : ∀ i : Nat, i < cs.length → w.frozen? ⟨q, i, none⟩ = false
  lt : q < w.heap.size
section
variable {w w' : World} {q : Nat} {cs : List Value} {row : Option Nat}
theorem Cel.set (h : Cel w q cs) {i : Nat} (hi : i < cs.length) (v : Value) : Cel (w.setCell ⟨q, i, none⟩ v) q (cs.set i v) := by
  refine ⟨fun j u hj => ?_, fun j hj => by simpa using h.froz j (by simpa using hj), by simpa using h.lt⟩
  by_cases e : i = j
  · subst e
    rw [List.getElem?_set_self hi] at hj
    obtain rfl := Option.some.inj hj
    exact World.cell?_setCell_same _ _ _ (h.cell i _ (List.getElem?_eq_getElem hi))
  · rw [List.getElem?_set_ne e] at hj
    exact (World.cell?_setCell_other _ _ _ _ (by intro h; cases h; exact e rfl)).trans (h.cell j u hj)
theorem Cel.kept (h : Cel w q cs) (hg : w.grownBy w' row) (hne : row ≠ some q) : Cel w' q cs := by
  have hb := hg.block q h.lt (fun e => hne e.symm)
  exact ⟨fun i v hi => (World.cell?_of_block (a := ⟨q, i, none⟩) hb).trans (h.cell i v hi), fun i hi => (World.frozen?_of_block (a := ⟨q, i, none⟩) hb).trans (h.froz i hi), Nat.lt_of_lt_of_le h.lt hg.size⟩
theorem Cel.below (h : Cel w q cs) {B : Nat} (hb : Below B w w') (hB : w.heap.size ≤ B) : Cel w' q cs :=
  h.kept (row := none) ⟨hb.os, hb.tape, hb.output, hb.size, fun k hk _ => hb.block k (Nat.lt_of_lt_of_le hk hB)⟩ (by simp)
theorem Cel.alloc (h : Cel w q cs) (o : Obj) : Cel (w.alloc o) q cs := h.kept (grown_alloc w o none) (by simp)
theorem Cel.drewN (h : Cel w q cs) (n : Nat) : Cel (w.drewN n) q cs := h.below (below_drewN (Below.refl w.heap.size w) n) (Nat.le_refl _)
end

/-- A condition as the program holds it: its six cells. -/
structure Ex where
  op : Int
  kind : Int
  num : Int
  txt : ByteArray
  name : ByteArray
  A : Option Addr
  n : Nat
  c : Nat
def Ex.val (x : Ex) : Value := .agg #[.int .i64 x.op, .int .i64 x.kind, .int .i64 x.num, .string x.txt, .string x.name, .slice x.A x.n x.c]
open Co in
/-- The condition t lies there; each of its blocks is one of N. -/
def At (w : World) (N : Nat → Prop) : Tr → Ex → Prop
  | .leaf op kind num txt name, x => x = ⟨op, kind, num, ⟨txt.toArray⟩, ⟨name.toArray⟩, none, 0, 0⟩
  | .one op a, x => ∃ b y, x = ⟨op, 0, 0, ⟨#[]⟩, ⟨#[]⟩, some ⟨b, 0, none⟩, 1, 1⟩ ∧ N b ∧
      w.heap[b]? = some (.cells #[.int .i64 y.op, .int .i64 y.kind, .int .i64 y.num, .string y.txt, .string y.name, .slice y.A y.n y.c] 39 (0, 0)) ∧ At w N a y
  | .two op a c, x => ∃ b y z, x = ⟨op, 0, 0, ⟨#[]⟩, ⟨#[]⟩, some ⟨b, 0, none⟩, 2, 2⟩ ∧ N b ∧
      w.heap[b]? = some (.cells #[.int .i64 y.op, .int .i64 y.kind, .int .i64 y.num, .string y.txt, .string y.name, .slice y.A y.n y.c, .int .i64 z.op, .int .i64 z.kind, .int .i64 z.num, .string z.txt, .string z.name, .slice z.A z.n z.c] 39 (0, 0)) ∧ At w N a y ∧ At w N c z
theorem blk_lt {w : World} {b : Nat} {o : Obj} (h : w.heap[b]? = some o) : b < w.heap.size := by
  rcases Nat.lt_or_ge b w.heap.size with h' | h'
  · exact h'
  · rw [Array.getElem?_eq_none h'] at h; cases h
/-- Kept, where what changes is none of its blocks. -/
theorem At.kept {w w' : World} {N N' : Nat → Prop} {row : Option Nat} (hg : w.grownBy w' row) (hN : ∀ b, N b → b < w.heap.size → row ≠ some b ∧ N' b) : ∀ {t : Co.Tr} {x : Ex}, At w N t x → At w' N' t x
  | .leaf .., _, h => h
  | .one _ _, _, ⟨b, y, hx, hb, hh, ha⟩ => ⟨b, y, hx, (hN b hb (blk_lt hh)).2, (hg.block b (blk_lt hh) (fun e => (hN b hb (blk_lt hh)).1 e.symm)).trans hh, At.kept hg hN ha⟩
  | .two _ _ _, _, ⟨b, y, z, hx, hb, hh, ha, hc⟩ => ⟨b, y, z, hx, (hN b hb (blk_lt hh)).2, (hg.block b (blk_lt hh) (fun e => (hN b hb (blk_lt hh)).1 e.symm)).trans hh, At.kept hg hN ha, At.kept hg hN hc⟩
theorem grown_none {B : Nat} {w w' : World} (hb : Below B w w') (hB : w.heap.size ≤ B) : w.grownBy w' none :=
  ⟨hb.os, hb.tape, hb.output, hb.size, fun k hk _ => hb.block k (Nat.lt_of_lt_of_le hk hB)⟩
theorem At.below {w w' : World} {N : Nat → Prop} {t : Co.Tr} {x : Ex} (h : At w N t x) {B : Nat} (hb : Below B w w') (hB : w.heap.size ≤ B) : At w' N t x :=
  At.kept (grown_none hb hB) (fun _ h _ => ⟨by simp, h⟩) h
theorem At.alloc {w : World} {N : Nat → Prop} {t : Co.Tr} {x : Ex} (h : At w N t x) (o : Obj) : At (w.alloc o) N t x := At.kept (grown_alloc w o none) (fun _ h _ => ⟨by simp, h⟩) h
theorem At.mono {w : World} {N N' : Nat → Prop} {t : Co.Tr} {x : Ex} (h : At w N t x) (hN : ∀ b, N b → b < w.heap.size → N' b) : At w N' t x :=
  At.kept (World.grownBy.refl w none) (fun b h hl => ⟨by simp, hN b h hl⟩) h

/-- The parser's error. -/
def ErrSt (E : Int → Option Addr) (w : World) (ev : Value) : Option (Int × Nat) → Prop
  | none => ev = .nilIface
  | some (c, k) => ∃ b a, ev = atV b ∧ E c = some a ∧ c ≠ 0 ∧ w.heap[b]? = some (.cells #[.int .i64 (k : Int), errV a] 57 (0, 0))
theorem ErrSt.kept {E : Int → Option Addr} {w w' : World} {ev : Value} {r : Option (Int × Nat)} (h : ErrSt E w ev r) {z : Nat} (hg : w.grownBy w' (some z)) (hz : ∃ k v, w.cell? ⟨z, 1, none⟩ = some (.int k v)) : ErrSt E w' ev r := by
  cases r with
  | none => exact h
  | some x =>
    obtain ⟨c, k⟩ := x
    obtain ⟨b, a, h1, h2, h3, hb⟩ := h
    refine ⟨b, a, h1, h2, h3, (hg.block b (blk_lt hb) (fun e => ?_)).trans hb⟩
    obtain rfl := Option.some.inj e
    obtain ⟨k', v, hk⟩ := hz
    have := cell_of_row w b 1 _ _ (0, 0) hb
    rw [hk] at this
    unfold errV at this
    simp at this
theorem ErrSt.below {E : Int → Option Addr} {w w' : World} {ev : Value} {r : Option (Int × Nat)} (h : ErrSt E w ev r) {B : Nat} (hb : Below B w w') (hB : w.heap.size ≤ B) : ErrSt E w' ev r := by
  cases r with
  | none => exact h
  | some x =>
    obtain ⟨c, k⟩ := x
    obtain ⟨b, a, h1, h2, h3, hh⟩ := h
    exact ⟨b, a, h1, h2, h3, (hb.block b (Nat.lt_of_lt_of_le (blk_lt hh) hB)).trans hh⟩
/-- The parser in block q, at st, inside d. -/
structure PaC (E : Int → Option Addr) (w : World) (q : Nat) (s : ByteArray) (st : Co.St) (d : Nat) : Prop where
  ex : ∃ ev, Cel w q [.string s, .int .i64 (st.kind : Int), .int .i64 (st.frm : Int), .int .i64 (st.till : Int), .int .i64 (d : Int), ev] ∧ ErrSt E w ev st.err
  ord : st.frm ≤ st.till
  top : st.till ≤ s.size
  size : s.size ≤ 80
section
variable {E : Int → Option Addr} {w w' : World} {q d : Nat} {s : ByteArray} {st : Co.St}
theorem PaC.lt (h : PaC E w q s st d) : q < w.heap.size := by
  obtain ⟨_, hc, _⟩ := h.ex
  exact hc.lt
theorem PaC.below (h : PaC E w q s st d) {B : Nat} (hb : Below B w w') (hB : w.heap.size ≤ B) : PaC E w' q s st d := by
  obtain ⟨ev, hc, he⟩ := h.ex
  exact ⟨⟨ev, hc.below hb hB, he.below hb hB⟩, h.ord, h.top, h.size⟩
theorem PaC.alloc (h : PaC E w q s st d) (o : Obj) : PaC E (w.alloc o) q s st d := h.below ((Below.refl w.heap.size w).alloc (Nat.le_refl _) o) (Nat.le_refl _)
theorem PaC.drewN (h : PaC E w q s st d) (n : Nat) : PaC E (w.drewN n) q s st d := h.below (below_drewN (Below.refl w.heap.size w) n) (Nat.le_refl _)
/-- Kept, where another block is written. -/
theorem PaC.other (h : PaC E w q s st d) {z : Nat} (hg : w.grownBy w' (some z)) (hne : z ≠ q) (hz : ∃ k v, w.cell? ⟨z, 1, none⟩ = some (.int k v)) : PaC E w' q s st d := by
  obtain ⟨ev, hc, he⟩ := h.ex
  exact ⟨⟨ev, hc.kept hg (fun e => hne (Option.some.inj e)), he.kept hg hz⟩, h.ord, h.top, h.size⟩
end
/-- One part of the parser, function g, inside d: what it is called with, what it leaves. -/
def PartC (E : Int → Option Addr) (W : World) (q : Nat) (s : ByteArray) (g d : Nat) (f : Co.St → Co.Out) : Prop :=
  ∀ st e st', f st = some (e, st') → ∀ w, Below W.heap.size W w → PaC E w q s st d →
    Calls Tryz.prog g #[.pointer (some ⟨q, 0, none⟩)] w fun x w' => (∃ y, x = .returned (Ex.val y) ∧ At w' (fun b => w.heap.size ≤ b) e y) ∧ PaC E w' q s st' d ∧ w.grownBy w' (some q)
end Go.Proofs.YtpjdbccndlbbhaaGreatDoor
