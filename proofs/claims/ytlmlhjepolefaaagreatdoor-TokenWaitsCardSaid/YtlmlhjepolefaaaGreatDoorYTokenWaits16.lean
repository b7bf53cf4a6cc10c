/- Package cond in memory: a parser in its block, conditions in blocks of their own, the errors that it tells. Mathematics of TokenJoins: a fork of so many ways and its join. -/
import Derived.Test.YtlmlhjepolefaaaGreatDoorCtY
import Derived.Test.YtlmlhjepolefaaaGreatDoorVfY
import Derived.Test.YtlmlhjepolefaaaGreatDoorYTokenWaits2
import Derived.Test.YtlmlhjepolefaaaGreatDoorYTokenWaits15
import Derived.Test.YtlmlhjepolefaaaGreatDoorZgY
namespace Go.Proofs.YtlmlhjepolefaaaGreatDoor
open Go.RowKit

/-- The sentinels that cond tells. -/
structure CoErrs (W : World) (E : Int → Option Addr) : Prop where
  e105 : ErrIn W E 105 6
  e111 : ErrIn W E 111 11
  e112 : ErrIn W E 112 12
  words : ∀ i : Nat, i < 18 → W.cell? ⟨16, i, none⟩ = some (.string ⟨(Co.words[i]!).toArray⟩)
theorem CoErrs.below {W w : World} {E : Int → Option Addr} (h : CoErrs W E) (hb : Below W.heap.size W w) : CoErrs w E :=
  ⟨h.e105.below hb, h.e111.below hb, h.e112.below hb, fun i hi => below_cells hb (h.words i hi)⟩
structure CoErrsE (W : World) (E : Int → Option Addr) : Prop extends CoErrs W E where
  e108 : ErrIn W E 108 8
  e110 : ErrIn W E 110 10
  e113 : ErrIn W E 113 13
theorem CoErrsE.below {W w : World} {E : Int → Option Addr} (h : CoErrsE W E) (hb : Below W.heap.size W w) : CoErrsE w E :=
  ⟨h.toCoErrs.below hb, h.e108.below hb, h.e110.below hb, h.e113.below hb⟩

/-- A condition as the program holds it: its six cells. -/
structure Ex where
  op : Int
  kind : Int
  num : Int
  txt : ByteArray
  name : ByteArray
  A : Option Addr
  n : Nat
  c : Nat
def Ex.val (x : Ex) : Value := .agg #[.int .i64 x.op, .int .i64 x.kind, .int .i64 x.num, .string x.txt, .string x.name, .slice x.A x.n x.c]
open Co in
/-- The condition t lies there; each of its blocks is one of N. -/
def At (w : World) (N : Nat → Prop) : Tr → Ex → Prop
  | .leaf op kind num txt name, x => x = ⟨op, kind, num, ⟨txt.toArray⟩, ⟨name.toArray⟩, none, 0, 0⟩
  | .one op a, x => ∃ b y, x = ⟨op, 0, 0, ⟨#[]⟩, ⟨#[]⟩, some ⟨b, 0, none⟩, 1, 1⟩ ∧ N b ∧
      w.heap[b]? = some (.cells #[.int .i64 y.op, .int .i64 y.kind, .int .i64 y.num, .string y.txt, .string y.name, .slice y.A y.n y.c] 112 (0, 0)) ∧ At w N a y
  | .two op a c, x => ∃ b y z, x = ⟨op, 0, 0, ⟨#[]⟩, ⟨#[]⟩, some ⟨b, 0, none⟩, 2, 2⟩ ∧ N b ∧
      w.heap[b]? = some (.cells #[.int .i64 y.op, .int .i64 y.kind, .int .i64 y.num, .string y.txt, .string y.name, .slice y.A y.n y.c, .int .i64 z.op, .int .i64 z.kind, .int .i64 z.num, .string z.txt, .string z.name, .slice z.A z.n z.c] 112 (0, 0)) ∧ At w N a y ∧ At w N c z
/-- Kept, where what changes is none of its blocks. -/
theorem At.kept {w w' : World} {N N' : Nat → Prop} {row : Option Nat} (hg : w.grownBy w' row) (hN : ∀ b, N b → b < w.heap.size → row ≠ some b ∧ N' b) : ∀ {t : Co.Tr} {x : Ex}, At w N t x → At w' N' t x
  | .leaf .., _, h => h
  | .one _ _, _, ⟨b, y, hx, hb, hh, ha⟩ => ⟨b, y, hx, (hN b hb (blk_lt hh)).2, (hg.block b (blk_lt hh) (fun e => (hN b hb (blk_lt hh)).1 e.symm)).trans hh, At.kept hg hN ha⟩
  | .two _ _ _, _, ⟨b, y, z, hx, hb, hh, ha, hc⟩ => ⟨b, y, z, hx, (hN b hb (blk_lt hh)).2, (hg.block b (blk_lt hh) (fun e => (hN b hb (blk_lt hh)).1 e.symm)).trans hh, At.kept hg hN ha, At.kept hg hN hc⟩
theorem At.below {w w' : World} {N : Nat → Prop} {t : Co.Tr} {x : Ex} (h : At w N t x) {B : Nat} (hb : Below B w w') (hB : w.heap.size ≤ B) : At w' N t x :=
  At.kept (grown_none hb hB) (fun _ h _ => ⟨by simp, h⟩) h
theorem At.alloc {w : World} {N : Nat → Prop} {t : Co.Tr} {x : Ex} (h : At w N t x) (o : Obj) : At (w.alloc o) N t x := At.kept (grown_alloc w o none) (fun _ h _ => ⟨by simp, h⟩) h
theorem At.mono {w : World} {N N' : Nat → Prop} {t : Co.Tr} {x : Ex} (h : At w N t x) (hN : ∀ b, N b → b < w.heap.size → N' b) : At w N' t x :=
  At.kept (World.grownBy.refl w none) (fun b h hl => ⟨by simp, hN b h hl⟩) h

/-- The parser's error. -/
def ErrSt (E : Int → Option Addr) (w : World) (ev : Value) : Option (Int × Nat) → Prop
  | none => ev = .nilIface
  | some (c, k) => ∃ b a, ev = atV b ∧ E c = some a ∧ c ≠ 0 ∧ w.heap[b]? = some (.cells #[.int .i64 (k : Int), errV a] 100 (0, 0))
theorem ErrSt.kept {E : Int → Option Addr} {w w' : World} {ev : Value} {r : Option (Int × Nat)} (h : ErrSt E w ev r) {z : Nat} (hg : w.grownBy w' (some z)) (hz : ∃ k v, w.cell? ⟨z, 1, none⟩ = some (.int k v)) : ErrSt E w' ev r := by
  cases r with
  | none => exact h
  | some x =>
    obtain ⟨c, k⟩ := x
    obtain ⟨b, a, h1, h2, h3, hb⟩ := h
    refine ⟨b, a, h1, h2, h3, (hg.block b (blk_lt hb) (fun e => ?_)).trans hb⟩
    obtain rfl := Option.some.inj e
    obtain ⟨k', v, hk⟩ := hz
    have := cell_of_row w b 1 _ _ (0, 0) hb
    rw [hk] at this
    unfold errV at this
    simp at this
theorem ErrSt.below {E : Int → Option Addr} {w w' : World} {ev : Value} {r : Option (Int × Nat)} (h : ErrSt E w ev r) {B : Nat} (hb : Below B w w') (hB : w.heap.size ≤ B) : ErrSt E w' ev r := by
  cases r with
  | none => exact h
  | some x =>
    obtain ⟨c, k⟩ := x
    obtain ⟨b, a, h1, h2, h3, hh⟩ := h
    exact ⟨b, a, h1, h2, h3, (hb.block b (Nat.lt_of_lt_of_le (blk_lt hh) hB)).trans hh⟩
/-- The parser in block q, at st, inside d. -/
structure PaC (E : Int → Option Addr) (w : World) (q : Nat) (s : ByteArray) (st : Co.St) (d : Nat) : Prop where
  ex : ∃ ev, Cel w q [.string s, .int .i64 (st.kind : Int), .int .i64 (st.frm : Int), .int .i64 (st.till : Int), .int .i64 (d : Int), ev] ∧ ErrSt E w ev st.err
  ord : st.frm ≤ st.till
  top : st.till ≤ s.size
  size : s.size ≤ 80
section
variable {E : Int → Option Addr} {w w' : World} {q d : Nat} {s : ByteArray} {st : Co.St}
theorem PaC.lt (h : PaC E w q s st d) : q < w.heap.size := by
  obtain ⟨_, hc, _⟩ := h.ex
  exact hc.lt
theorem PaC.below (h : PaC E w q s st d) {B : Nat} (hb : Below B w w') (hB : w.heap.size ≤ B) : PaC E w' q s st d := by
  obtain ⟨ev, hc, he⟩ := h.ex
  exact ⟨⟨ev, hc.below hb hB, he.below hb hB⟩, h.ord, h.top, h.size⟩
theorem PaC.alloc (h : PaC E w q s st d) (o : Obj) : PaC E (w.alloc o) q s st d := h.below ((Below.refl w.heap.size w).alloc (Nat.le_refl _) o) (Nat.le_refl _)
theorem PaC.drewN (h : PaC E w q s st d) (n : Nat) : PaC E (w.drewN n) q s st d := h.below (below_drewN (Below.refl w.heap.size w) n) (Nat.le_refl _)
/-- Kept, where another block is written. -/
theorem PaC.other (h : PaC E w q s st d) {z : Nat} (hg : w.grownBy w' (some z)) (hne : z ≠ q) (hz : ∃ k v, w.cell? ⟨z, 1, none⟩ = some (.int k v)) : PaC E w' q s st d := by
  obtain ⟨ev, hc, he⟩ := h.ex
  exact ⟨⟨ev, hc.kept hg (fun e => hne (Option.some.inj e)), he.kept hg hz⟩, h.ord, h.top, h.size⟩
end
/-- One part of the parser, function g, inside d: what it is called with, what it leaves. -/
def PartC (E : Int → Option Addr) (W : World) (q : Nat) (s : ByteArray) (g d : Nat) (f : Co.St → Co.Out) : Prop :=
  ∀ st e st', f st = some (e, st') → ∀ w, Below W.heap.size W w → PaC E w q s st d →
    Calls Tryz.prog g #[.pointer (some ⟨q, 0, none⟩)] w fun x w' => (∃ y, x = .returned (Ex.val y) ∧ At w' (fun b => w.heap.size ≤ b) e y) ∧ PaC E w' q s st' d ∧ w.grownBy w' (some q)
end Go.Proofs.YtlmlhjepolefaaaGreatDoor
namespace Go.Proofs.YtlmlhjepolefaaaGreatDoor
open Go.RowKit

namespace Pr
def nodesJ : List Nd := [Nd.plain 1, Nd.plain 6, Nd.plain 6, Nd.plain 2]
def pJ (v : Nat) : P := ⟨bs [112], nodesJ, flowsM v⟩
def bJ (v : Nat) : Bd := ⟨pJ v, [], [⟨1, 1, 0, false⟩], 2⟩
def tkJ (i : Nat) : Tk := ⟨2 + (i : Int), 2, 2 + (i : Int), false⟩
def dT (T : Nat → Bool) (j : Nat) : List Tk := ((List.range j).filter T).map tkJ
def dJ (v : Nat) (T : Nat → Bool) : Bd := ⟨pJ v, [], dT T v, (v : Int) + 2⟩
def cJ (v : Nat) : Bd := ⟨pJ v, [], (List.range v).map tkJ, (v : Int) + 2⟩
def fJ (v : Nat) : Bd := ⟨pJ v, [], [⟨(v : Int) + 2, 3, 1, false⟩], (v : Int) + 3⟩
theorem cJ_eq (v : Nat) : cJ v = dJ v fun _ => true := by
  unfold cJ dJ dT
  rw [List.filter_eq_self.2 (fun _ _ => rfl)]
theorem dT_snoc (T : Nat → Bool) (j : Nat) : dT T (j + 1) = dT T j ++ (if T j = true then [tkJ j] else []) := by
  unfold dT
  rw [List.range_succ, List.filter_append, List.map_append]
  congr 1
  cases h : T j <;> simp [h]
theorem dT_asc (T : Nat → Bool) (j : Nat) : Asc (dT T j) := by
  unfold Asc dT
  rw [List.pairwise_map]
  refine List.Pairwise.imp ?_ ((List.pairwise_lt_range (n := j)).filter T)
  intro a c h
  show 2 + (a : Int) < 2 + (c : Int)
  omega
theorem dT_len (T : Nat → Bool) (j : Nat) : (dT T j).length ≤ j := by
  unfold dT
  rw [List.length_map]
  exact Nat.le_trans (List.length_filter_le _ _) (by rw [List.length_range]; exact Nat.le_refl _)
theorem dT_mem {T : Nat → Bool} {j : Nat} {t : Tk} (h : t ∈ dT T j) : ∃ i, i < j ∧ T i = true ∧ t = tkJ i := by
  obtain ⟨i, hi, rfl⟩ := List.mem_map.1 h
  obtain ⟨h1, h2⟩ := List.mem_filter.1 hi
  exact ⟨i, List.mem_range.1 h1, h2, rfl⟩
theorem dT_get {T : Nat → Bool} {j k : Nat} (h : k < (dT T j).length) : ∃ i, i < j ∧ T i = true ∧ (dT T j)[k]! = tkJ i := by
  rw [getElem!_pos _ k h]
  exact dT_mem (List.getElem_mem h)
theorem insJ : ∀ v, v < 6 → insB (pJ v) 2 = (List.range v).map (· + 2) := by decide +kernel
theorem insJ1 : ∀ v, v < 6 → insB (pJ v) 1 = [0] := by decide +kernel
theorem outsJ : ∀ v, v < 6 → outsB (pJ v) 1 = (List.range v).map (· + 2) := by decide +kernel
theorem pJ_n (v : Nat) : (pJ v).n = 4 := rfl
theorem pJ_m (v : Nat) : (pJ v).m = v + 2 := flowsM_len v
theorem few_J {v : Nat} {l : List Tk} {k : Int} (hv : v < 6) (hl : l.length ≤ 100) (h0 : 0 ≤ k) (h1 : k ≤ 100) : Bd.Few ⟨pJ v, [], l, k⟩ :=
  ⟨by show (pJ v).n ≤ 100000; rw [pJ_n]; omega, by show (pJ v).m ≤ 100000; rw [pJ_m]; omega, Nat.zero_le _, by show l.length ≤ 100000; omega, by show (-1000000000 : Int) ≤ k; omega, by show k ≤ 1000000000; omega⟩
theorem rdyJ0 (v : Nat) (hv : v < 6) : Rdy (bJ v) (0 : Nat) := by
  refine ⟨0, rfl, Nat.zero_lt_one, rfl, 1, rfl, by show 1 < (pJ v).n; rw [pJ_n]; decide, by show (6 : Int) ≠ 4; decide, fun _ h => ?_, fun h => ?_⟩
  · have h : 2 ≤ (insB (pJ v) ((1 : Nat) : Int)).length := h
    rw [show ((1 : Nat) : Int) = 1 from rfl, insJ1 v hv] at h
    exact absurd h (by decide)
  · have h : (6 : Int) = 7 := h
    exact absurd h (by decide)
/-- A token of the join is ready: where all came, the first one. -/
theorem rdyJ (v : Nat) (T : Nat → Bool) (hv : v < 6) (hv2 : 2 ≤ v) (k : Nat) (hk : k < (dT T v).length) : Rdy (dJ v T) (k : Int) ↔ ((List.range v).all T = true ∧ k = 0) := by
  obtain ⟨i, hi, hTi, hget⟩ := dT_get hk
  have hu : (dJ v T).toks[k]!.node = ((2 : Nat) : Int) := by show (dT T v)[k]!.node = 2; rw [hget]; rfl
  have hs : (dJ v T).toks[k]!.stuck = false := by show (dT T v)[k]!.stuck = false; rw [hget]; rfl
  have hl : 0 < (dT T v).length := by omega
  have hf0 : fst (atN ((2 : Nat) : Int)) (dT T v) = (0 : Nat) := by
    refine fst_hit hl ?_ (fun j hj => absurd hj (Nat.not_lt_zero j))
    obtain ⟨i0, _, _, hg0⟩ := dT_get hl
    rw [hg0]; rfl
  rw [rdy_u (b := dJ v T) (k := k) (u := 2) hk hs hu (by show 2 < (pJ v).n; rw [pJ_n]; decide)]
  have h6 : (dJ v T).p.nodes[2]!.kind = 6 := rfl
  have hin : insB (dJ v T).p ((2 : Nat) : Int) = (List.range v).map (· + 2) := insJ v hv
  have ht : (dJ v T).toks = dT T v := rfl
  rw [h6, hin, ht, hf0]
  constructor
  · rintro ⟨_, h, _⟩
    obtain ⟨h1, h2⟩ := h rfl (by simpa using hv2)
    refine ⟨?_, by omega⟩
    rw [List.all_eq_true]
    intro j hj
    have hn := h2 (j + 2) (List.mem_map.2 ⟨j, hj, rfl⟩)
    rcases fst_cases (atB ((2 : Nat) : Int) ((j + 2 : Nat) : Int)) (dT T v) with ⟨h3, _⟩ | ⟨k', _, hk', hq, _⟩
    · exact absurd h3 hn
    · obtain ⟨i', hi', hT', hg'⟩ := dT_get hk'
      rw [hg'] at hq
      unfold atB tkJ at hq
      simp only [Bool.and_eq_true, beq_iff_eq] at hq
      obtain rfl : i' = j := by omega
      exact hT'
  · rintro ⟨hall, rfl⟩
    refine ⟨by decide, fun _ _ => ⟨rfl, fun f hf => ?_⟩, fun h => absurd h (by decide)⟩
    obtain ⟨j, hj, rfl⟩ := List.mem_map.1 hf
    have hTj := List.all_eq_true.1 hall j hj
    rcases fst_cases (atB ((2 : Nat) : Int) ((j + 2 : Nat) : Int)) (dT T v) with ⟨_, h3⟩ | ⟨k', h4, _⟩
    · have hm : tkJ j ∈ dT T v := List.mem_map.2 ⟨j, List.mem_filter.2 ⟨hj, hTj⟩, rfl⟩
      obtain ⟨q, hq, he⟩ := List.mem_iff_getElem.1 hm
      have := h3 q hq
      rw [getElem!_pos _ q hq, he] at this
      have h9 : (2 : Int) + (j : Int) = ((j + 2 : Nat) : Int) := by omega
      unfold atB tkJ at this
      rw [h9] at this
      simp at this
    · omega
theorem v_cases {v : Nat} (hv : v < 6) (hv2 : 2 ≤ v) : v = 2 ∨ v = 3 ∨ v = 4 ∨ v = 5 := by omega
theorem bstepJ (v : Nat) (hv : v < 6) (hv2 : 2 ≤ v) : bstep (bJ v) 0 = (cJ v, true, no, 0) := by
  rcases v_cases hv hv2 with rfl | rfl | rfl | rfl <;> rfl
theorem bstepJ2 (v : Nat) (hv : v < 6) (hv2 : 2 ≤ v) : bstep (cJ v) 0 = (fJ v, true, no, 0) := by
  rcases v_cases hv hv2 with rfl | rfl | rfl | rfl <;> rfl
theorem rdyJ2 (v : Nat) (hv : v < 6) (hv2 : 2 ≤ v) : Rdy (cJ v) (0 : Nat) := by
  rw [cJ_eq]
  refine (rdyJ v _ hv hv2 0 ?_).2 ⟨by simp, rfl⟩
  unfold dT
  rw [List.filter_eq_self.2 (fun _ _ => rfl)]
  simp
  omega
theorem cJ_get {v i : Nat} (hi : i < v) : (cJ v).toks[i]! = tkJ i := by
  show ((List.range v).map tkJ)[i]! = tkJ i
  rw [getElem!_pos _ i (by simpa using hi)]
  simp
theorem all_snoc (T : Nat → Bool) (j : Nat) : (List.range (j + 1)).all T = ((List.range j).all T && T j) := by
  rw [List.range_succ, List.all_append]
  simp
end Pr
end Go.Proofs.YtlmlhjepolefaaaGreatDoor
