/- Package cond in memory: a parser in its block, conditions in blocks of their own, the errors that it tells. A process in memory: a node's field is set. -/
import Derived.Test.YtjababmmcejgdaaGreatDoorYProcessBounds3
import Derived.Test.YtjababmmcejgdaaGreatDoorVfY
import Derived.Test.YtjababmmcejgdaaGreatDoorYProcessBounds8
import Derived.Test.YtjababmmcejgdaaGreatDoorGtY
import Derived.Laws.BitsAllLaws
namespace Go.Proofs.YtjababmmcejgdaaGreatDoor
open Go.RowKit

/-- The sentinels that cond tells. -/
structure CoErrs (W : World) (E : Int → Option Addr) : Prop where
  e105 : ErrIn W E 105 4
  e108 : ErrIn W E 108 9
  e110 : ErrIn W E 110 11
  e111 : ErrIn W E 111 6
  e112 : ErrIn W E 112 12
  e113 : ErrIn W E 113 13
  words : ∀ i : Nat, i < 18 → W.cell? ⟨17, i, none⟩ = some (.string ⟨(Co.words[i]!).toArray⟩)
theorem CoErrs.below {W w : World} {E : Int → Option Addr} (h : CoErrs W E) (hb : Below W.heap.size W w) : CoErrs w E :=
  ⟨h.e105.below hb, h.e108.below hb, h.e110.below hb, h.e111.below hb, h.e112.below hb, h.e113.below hb, fun i hi => below_cells hb (h.words i hi)⟩

/-- A condition as the program holds it: its six cells. -/
structure Ex where
  op : Int
  kind : Int
  num : Int
  txt : ByteArray
  name : ByteArray
  A : Option Addr
  n : Nat
  c : Nat
def Ex.val (x : Ex) : Value := .agg #[.int .i64 x.op, .int .i64 x.kind, .int .i64 x.num, .string x.txt, .string x.name, .slice x.A x.n x.c]
open Co in
/-- The condition t lies there; each of its blocks is one of N. -/
def At (w : World) (N : Nat → Prop) : Tr → Ex → Prop
  | .leaf op kind num txt name, x => x = ⟨op, kind, num, ⟨txt.toArray⟩, ⟨name.toArray⟩, none, 0, 0⟩
  | .one op a, x => ∃ b y, x = ⟨op, 0, 0, ⟨#[]⟩, ⟨#[]⟩, some ⟨b, 0, none⟩, 1, 1⟩ ∧ N b ∧
      w.heap[b]? = some (.cells #[.int .i64 y.op, .int .i64 y.kind, .int .i64 y.num, .string y.txt, .string y.name, .slice y.A y.n y.c] 100 (0, 0)) ∧ At w N a y
  | .two op a c, x => ∃ b y z, x = ⟨op, 0, 0, ⟨#[]⟩, ⟨#[]⟩, some ⟨b, 0, none⟩, 2, 2⟩ ∧ N b ∧
      w.heap[b]? = some (.cells #[.int .i64 y.op, .int .i64 y.kind, .int .i64 y.num, .string y.txt, .string y.name, .slice y.A y.n y.c, .int .i64 z.op, .int .i64 z.kind, .int .i64 z.num, .string z.txt, .string z.name, .slice z.A z.n z.c] 100 (0, 0)) ∧ At w N a y ∧ At w N c z
/-- Kept, where what changes is none of its blocks. -/
theorem At.kept {w w' : World} {N N' : Nat → Prop} {row : Option Nat} (hg : w.grownBy w' row) (hN : ∀ b, N b → b < w.heap.size → row ≠ some b ∧ N' b) : ∀ {t : Co.Tr} {x : Ex}, At w N t x → At w' N' t x
  | .leaf .., _, h => h
  | .one _ _, _, ⟨b, y, hx, hb, hh, ha⟩ => ⟨b, y, hx, (hN b hb (blk_lt hh)).2, (hg.block b (blk_lt hh) (fun e => (hN b hb (blk_lt hh)).1 e.symm)).trans hh, At.kept hg hN ha⟩
  | .two _ _ _, _, ⟨b, y, z, hx, hb, hh, ha, hc⟩ => ⟨b, y, z, hx, (hN b hb (blk_lt hh)).2, (hg.block b (blk_lt hh) (fun e => (hN b hb (blk_lt hh)).1 e.symm)).trans hh, At.kept hg hN ha, At.kept hg hN hc⟩
theorem At.below {w w' : World} {N : Nat → Prop} {t : Co.Tr} {x : Ex} (h : At w N t x) {B : Nat} (hb : Below B w w') (hB : w.heap.size ≤ B) : At w' N t x :=
  At.kept (grown_none hb hB) (fun _ h _ => ⟨by simp, h⟩) h
theorem At.alloc {w : World} {N : Nat → Prop} {t : Co.Tr} {x : Ex} (h : At w N t x) (o : Obj) : At (w.alloc o) N t x := At.kept (grown_alloc w o none) (fun _ h _ => ⟨by simp, h⟩) h
theorem At.mono {w : World} {N N' : Nat → Prop} {t : Co.Tr} {x : Ex} (h : At w N t x) (hN : ∀ b, N b → b < w.heap.size → N' b) : At w N' t x :=
  At.kept (World.grownBy.refl w none) (fun b h hl => ⟨by simp, hN b h hl⟩) h

/-- The parser's error. -/
def ErrSt (E : Int → Option Addr) (w : World) (ev : Value) : Option (Int × Nat) → Prop
  | none => ev = .nilIface
  | some (c, k) => ∃ b a, ev = atV b ∧ E c = some a ∧ c ≠ 0 ∧ w.heap[b]? = some (.cells #[.int .i64 (k : Int), errV a] 67 (0, 0))
theorem ErrSt.kept {E : Int → Option Addr} {w w' : World} {ev : Value} {r : Option (Int × Nat)} (h : ErrSt E w ev r) {z : Nat} (hg : w.grownBy w' (some z)) (hz : ∃ k v, w.cell? ⟨z, 1, none⟩ = some (.int k v)) : ErrSt E w' ev r := by
  cases r with
  | none => exact h
  | some x =>
    obtain ⟨c, k⟩ := x
    obtain ⟨b, a, h1, h2, h3, hb⟩ := h
    refine ⟨b, a, h1, h2, h3, (hg.block b (blk_lt hb) (fun e => ?_)).trans hb⟩
    obtain rfl := Option.some.inj e
    obtain ⟨k', v, hk⟩ := hz
    have := cell_of_row w b 1 _ _ (0, 0) hb
    rw [hk] at this
    unfold errV at this
    simp at this
theorem ErrSt.below {E : Int → Option Addr} {w w' : World} {ev : Value} {r : Option (Int × Nat)} (h : ErrSt E w ev r) {B : Nat} (hb : Below B w w') (hB : w.heap.size ≤ B) : ErrSt E w' ev r := by
  cases r with
  | none => exact h
  | some x =>
    obtain ⟨c, k⟩ := x
    obtain ⟨b, a, h1, h2, h3, hh⟩ := h
    exact ⟨b, a, h1, h2, h3, (hb.block b (Nat.lt_of_lt_of_le (blk_lt hh) hB)).trans hh⟩
/-- The parser in block q, at st, inside d. -/
structure PaC (E : Int → Option Addr) (w : World) (q : Nat) (s : ByteArray) (st : Co.St) (d : Nat) : Prop where
  ex : ∃ ev, Cel w q [.string s, .int .i64 (st.kind : Int), .int .i64 (st.frm : Int), .int .i64 (st.till : Int), .int .i64 (d : Int), ev] ∧ ErrSt E w ev st.err
  ord : st.frm ≤ st.till
  top : st.till ≤ s.size
  size : s.size ≤ 80
section
variable {E : Int → Option Addr} {w w' : World} {q d : Nat} {s : ByteArray} {st : Co.St}
theorem PaC.lt (h : PaC E w q s st d) : q < w.heap.size := by
  obtain ⟨_, hc, _⟩ := h.ex
  exact hc.lt
theorem PaC.below (h : PaC E w q s st d) {B : Nat} (hb : Below B w w') (hB : w.heap.size ≤ B) : PaC E w' q s st d := by
  obtain ⟨ev, hc, he⟩ := h.ex
  exact ⟨⟨ev, hc.below hb hB, he.below hb hB⟩, h.ord, h.top, h.size⟩
theorem PaC.alloc (h : PaC E w q s st d) (o : Obj) : PaC E (w.alloc o) q s st d := h.below ((Below.refl w.heap.size w).alloc (Nat.le_refl _) o) (Nat.le_refl _)
theorem PaC.drewN (h : PaC E w q s st d) (n : Nat) : PaC E (w.drewN n) q s st d := h.below (below_drewN (Below.refl w.heap.size w) n) (Nat.le_refl _)
/-- Kept, where another block is written. -/
theorem PaC.other (h : PaC E w q s st d) {z : Nat} (hg : w.grownBy w' (some z)) (hne : z ≠ q) (hz : ∃ k v, w.cell? ⟨z, 1, none⟩ = some (.int k v)) : PaC E w' q s st d := by
  obtain ⟨ev, hc, he⟩ := h.ex
  exact ⟨⟨ev, hc.kept hg (fun e => hne (Option.some.inj e)), he.kept hg hz⟩, h.ord, h.top, h.size⟩
end
/-- One part of the parser, function g, inside d: what it is called with, what it leaves. -/
def PartC (E : Int → Option Addr) (W : World) (q : Nat) (s : ByteArray) (g d : Nat) (f : Co.St → Co.Out) : Prop :=
  ∀ st e st', f st = some (e, st') → ∀ w, Below W.heap.size W w → PaC E w q s st d →
    Calls Tryz.prog g #[.pointer (some ⟨q, 0, none⟩)] w fun x w' => (∃ y, x = .returned (Ex.val y) ∧ At w' (fun b => w.heap.size ≤ b) e y) ∧ PaC E w' q s st' d ∧ w.grownBy w' (some q)
end Go.Proofs.YtjababmmcejgdaaGreatDoor
namespace Go.Proofs.YtjababmmcejgdaaGreatDoor
open Go.RowKit

theorem Cs.flat_set {α : Type} (κ : Cs α) (f : α → α) (i : Nat) (u : Value) (hi : i < κ.k) (hf : ∀ x, κ.cs (f x) = (κ.cs x).set i u) : ∀ (l : List α) (j : Nat), j < l.length → (l.flatMap κ.cs).set (j * κ.k + i) u = (l.modify j f).flatMap κ.cs
  | [], _, h => by cases h
  | y :: l, 0, _ => by
    rw [List.modify_zero_cons, List.flatMap_cons, List.flatMap_cons, List.set_append, if_pos (by rw [κ.len]; omega), hf]
    simp
  | y :: l, j + 1, h => by
    rw [List.modify_succ_cons, List.flatMap_cons, List.flatMap_cons, List.set_append, if_neg (by rw [κ.len, Nat.succ_mul]; omega)]
    rw [show (j + 1) * κ.k + i - (κ.cs y).length = j * κ.k + i from by rw [κ.len, Nat.succ_mul]; omega, Cs.flat_set κ f i u hi hf l j (by simpa using h)]
theorem OwnK.set {α : Type} {κ : Cs α} {w : World} {base n c g : Nat} {e : TypeId} {l : List α} (h : OwnK κ w base e (some ⟨g, 0, none⟩) n c l) (f : α → α) (i : Nat) (u : Value) (hi : i < κ.k) (hf : ∀ x, κ.cs (f x) = (κ.cs x).set i u) {j : Nat} (hj : j < l.length) :
    OwnK κ (w.setCell ⟨g, j * κ.k + i, none⟩ u) base e (some ⟨g, 0, none⟩) n c (l.modify j f) :=
  ⟨h.1, by rw [← Cs.flat_set κ f i u hi hf l j hj]; exact (World.ownsRow.stored h.2 (j * κ.k + i) u).1⟩
theorem OwnK.frozen {α : Type} {κ : Cs α} {w : World} {base n c g : Nat} {e : TypeId} {l : List α} (h : OwnK κ w base e (some ⟨g, 0, none⟩) n c l) (o : Nat) : w.frozen? ⟨g, o, none⟩ = false := by
  rcases h.2.2 with ⟨hv, _⟩ | ⟨g', cap, cur, hv, hg, hh, _⟩
  · cases hv
  · obtain rfl : g = g' := by injection hv with hA; injection hA with hA; injection hA
    unfold World.frozen?
    rw [hh]; rfl
theorem OwnK.some_of {α : Type} {κ : Cs α} {w : World} {base n c : Nat} {e : TypeId} {A : Option Addr} {l : List α} (h : OwnK κ w base e A n c l) (hn : 0 < n) : ∃ g, A = some ⟨g, 0, none⟩ ∧ base ≤ g ∧ g < w.heap.size := by
  rcases h.2.2 with ⟨_, h0⟩ | ⟨g, cap, cur, hv, hg, hh, _⟩
  · omega
  · injection hv with hA _ _
    exact ⟨g, hA, hg, blk_lt hh⟩
namespace Pr
theorem C.row {w : World} {base q : Nat} {p : P} (h : C w base q p) {k : Nat} (hk : k < p.n) :
    ∃ g c : Nat, w.cell? ⟨q, 1, none⟩ = some (.slice (some ⟨g, 0, none⟩) p.n c) ∧ base ≤ g ∧ g < w.heap.size ∧ g ≠ q ∧ (∀ (i : Nat) (v : Value), (p.nodes[k]!).cells[i]? = some v → w.cell? ⟨g, k * 8 + i, none⟩ = some v) ∧ (∀ o, w.frozen? ⟨g, o, none⟩ = false) ∧
      ∀ (i : Nat) (u : Value) (f : Nd → Nd), i < 8 → (∀ x : Nd, (f x).cells = x.cells.set i u) → C (w.setCell ⟨g, k * 8 + i, none⟩ u) base q (p.set k f) := by
  obtain ⟨A, n, c, F, m, d, hc, hn, hf, h1, h2⟩ := h.ex
  obtain rfl : p.n = n := hn.len
  obtain ⟨g, rfl, hg, hgl⟩ := hn.some_of (by omega)
  have hgq : g ≠ q := h1 _ rfl
  refine ⟨g, c, hc.cell 1 _ rfl, hg, hgl, hgq, fun i v hv => ?_, hn.frozen, fun i u f hi hfx => ?_⟩
  · have := KRow.of (κ := Nd.κ) hn.row hn.1 hk i v hv
    rwa [Nat.zero_add] at this
  · have hset := hn.set f i u hi hfx (j := k) hk
    refine ⟨⟨some ⟨g, 0, none⟩, p.n, c, F, m, d, hc.kept (grown_setCell w ⟨g, k * 8 + i, none⟩ u) (by intro e; exact hgq (Option.some.inj e)), ?_, ?_, h1, h2⟩, h.low⟩
    · exact hset
    · exact hf.kept (grown_setCell w ⟨g, k * 8 + i, none⟩ u) fun a ha e => hn.apart hf (by decide) rfl ha (Option.some.inj e)
end Pr
end Go.Proofs.YtjababmmcejgdaaGreatDoor
