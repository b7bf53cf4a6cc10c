/- Package cond in memory: a parser in its block, conditions in blocks of their own, the errors that it tells. Walks of package cond: what a word is. Package token: stepped. Mathematics of package flow: a runner, its moves, what stays as it goes. Package token: stepped. -/
import Derived.Test.YtkffnfgdmcebdaaGreatDoorYJoint10
import Derived.Test.YtkffnfgdmcebdaaGreatDoorYJoint22
import Derived.Test.YtkffnfgdmcebdaaGreatDoorZjY
import Derived.Test.YtkffnfgdmcebdaaGreatDoorZkY
import Derived.Deep.RegionHeld3
namespace Go.Proofs.YtkffnfgdmcebdaaGreatDoor
open Go.RowKit

/-- The sentinels that cond tells. -/
structure CoErrs (W : World) (E : Int → Option Addr) : Prop where
  e105 : ErrIn W E 105 6
  e111 : ErrIn W E 111 11
  e112 : ErrIn W E 112 12
  words : ∀ i : Nat, i < 18 → W.cell? ⟨16, i, none⟩ = some (.string ⟨(Co.words[i]!).toArray⟩)
theorem CoErrs.below {W w : World} {E : Int → Option Addr} (h : CoErrs W E) (hb : Below W.heap.size W w) : CoErrs w E :=
  ⟨h.e105.below hb, h.e111.below hb, h.e112.below hb, fun i hi => below_cells hb (h.words i hi)⟩
structure CoErrsE (W : World) (E : Int → Option Addr) : Prop extends CoErrs W E where
  e108 : ErrIn W E 108 8
  e110 : ErrIn W E 110 10
  e113 : ErrIn W E 113 13
theorem CoErrsE.below {W w : World} {E : Int → Option Addr} (h : CoErrsE W E) (hb : Below W.heap.size W w) : CoErrsE w E :=
  ⟨h.toCoErrs.below hb, h.e108.below hb, h.e110.below hb, h.e113.below hb⟩

/-- A condition as the program holds it: its six cells. -/
structure Ex where
  op : Int
  kind : Int
  num : Int
  txt : ByteArray
  name : ByteArray
  A : Option Addr
  n : Nat
  c : Nat
def Ex.val (x : Ex) : Value := .agg #[.int .i64 x.op, .int .i64 x.kind, .int .i64 x.num, .string x.txt, .string x.name, .slice x.A x.n x.c]
open Co in
/-- The condition t lies there; each of its blocks is one of N. -/
def At (w : World) (N : Nat → Prop) : Tr → Ex → Prop
  | .leaf op kind num txt name, x => x = ⟨op, kind, num, ⟨txt.toArray⟩, ⟨name.toArray⟩, none, 0, 0⟩
  | .one op a, x => ∃ b y, x = ⟨op, 0, 0, ⟨#[]⟩, ⟨#[]⟩, some ⟨b, 0, none⟩, 1, 1⟩ ∧ N b ∧
      w.heap[b]? = some (.cells #[.int .i64 y.op, .int .i64 y.kind, .int .i64 y.num, .string y.txt, .string y.name, .slice y.A y.n y.c] 185 (0, 0)) ∧ At w N a y
  | .two op a c, x => ∃ b y z, x = ⟨op, 0, 0, ⟨#[]⟩, ⟨#[]⟩, some ⟨b, 0, none⟩, 2, 2⟩ ∧ N b ∧
      w.heap[b]? = some (.cells #[.int .i64 y.op, .int .i64 y.kind, .int .i64 y.num, .string y.txt, .string y.name, .slice y.A y.n y.c, .int .i64 z.op, .int .i64 z.kind, .int .i64 z.num, .string z.txt, .string z.name, .slice z.A z.n z.c] 185 (0, 0)) ∧ At w N a y ∧ At w N c z
/-- Kept, where what changes is none of its blocks. -/
theorem At.kept {w w' : World} {N N' : Nat → Prop} {row : Option Nat} (hg : w.grownBy w' row) (hN : ∀ b, N b → b < w.heap.size → row ≠ some b ∧ N' b) : ∀ {t : Co.Tr} {x : Ex}, At w N t x → At w' N' t x
  | .leaf .., _, h => h
  | .one _ _, _, ⟨b, y, hx, hb, hh, ha⟩ => ⟨b, y, hx, (hN b hb (blk_lt hh)).2, (hg.block b (blk_lt hh) (fun e => (hN b hb (blk_lt hh)).1 e.symm)).trans hh, At.kept hg hN ha⟩
  | .two _ _ _, _, ⟨b, y, z, hx, hb, hh, ha, hc⟩ => ⟨b, y, z, hx, (hN b hb (blk_lt hh)).2, (hg.block b (blk_lt hh) (fun e => (hN b hb (blk_lt hh)).1 e.symm)).trans hh, At.kept hg hN ha, At.kept hg hN hc⟩
theorem At.below {w w' : World} {N : Nat → Prop} {t : Co.Tr} {x : Ex} (h : At w N t x) {B : Nat} (hb : Below B w w') (hB : w.heap.size ≤ B) : At w' N t x :=
  At.kept (grown_none hb hB) (fun _ h _ => ⟨by simp, h⟩) h
theorem At.alloc {w : World} {N : Nat → Prop} {t : Co.Tr} {x : Ex} (h : At w N t x) (o : Obj) : At (w.alloc o) N t x := At.kept (grown_alloc w o none) (fun _ h _ => ⟨by simp, h⟩) h
theorem At.mono {w : World} {N N' : Nat → Prop} {t : Co.Tr} {x : Ex} (h : At w N t x) (hN : ∀ b, N b → b < w.heap.size → N' b) : At w N' t x :=
  At.kept (World.grownBy.refl w none) (fun b h hl => ⟨by simp, hN b h hl⟩) h

/-- The parser's error. -/
def ErrSt (E : Int → Option Addr) (w : World) (ev : Value) : Option (Int × Nat) → Prop
  | none => ev = .nilIface
  | some (c, k) => ∃ b a, ev = atV b ∧ E c = some a ∧ c ≠ 0 ∧ w.heap[b]? = some (.cells #[.int .i64 (k : Int), errV a] 162 (0, 0))
theorem ErrSt.kept {E : Int → Option Addr} {w w' : World} {ev : Value} {r : Option (Int × Nat)} (h : ErrSt E w ev r) {z : Nat} (hg : w.grownBy w' (some z)) (hz : ∃ k v, w.cell? ⟨z, 1, none⟩ = some (.int k v)) : ErrSt E w' ev r := by
  cases r with
  | none => exact h
  | some x =>
    obtain ⟨c, k⟩ := x
    obtain ⟨b, a, h1, h2, h3, hb⟩ := h
    refine ⟨b, a, h1, h2, h3, (hg.block b (blk_lt hb) (fun e => ?_)).trans hb⟩
    obtain rfl := Option.some.inj e
    obtain ⟨k', v, hk⟩ := hz
    have := cell_of_row w b 1 _ _ (0, 0) hb
    rw [hk] at this
    unfold errV at this
    simp at this
theorem ErrSt.below {E : Int → Option Addr} {w w' : World} {ev : Value} {r : Option (Int × Nat)} (h : ErrSt E w ev r) {B : Nat} (hb : Below B w w') (hB : w.heap.size ≤ B) : ErrSt E w' ev r := by
  cases r with
  | none => exact h
  | some x =>
    obtain ⟨c, k⟩ := x
    obtain ⟨b, a, h1, h2, h3, hh⟩ := h
    exact ⟨b, a, h1, h2, h3, (hb.block b (Nat.lt_of_lt_of_le (blk_lt hh) hB)).trans hh⟩
/-- The parser in block q, at st, inside d. -/
structure PaC (E : Int → Option Addr) (w : World) (q : Nat) (s : ByteArray) (st : Co.St) (d : Nat) : Prop where
  ex : ∃ ev, Cel w q [.string s, .int .i64 (st.kind : Int), .int .i64 (st.frm : Int), .int .i64 (st.till : Int), .int .i64 (d : Int), ev] ∧ ErrSt E w ev st.err
  ord : st.frm ≤ st.till
  top : st.till ≤ s.size
  size : s.size ≤ 80
section
variable {E : Int → Option Addr} {w w' : World} {q d : Nat} {s : ByteArray} {st : Co.St}
theorem PaC.lt (h : PaC E w q s st d) : q < w.heap.size := by
  obtain ⟨_, hc, _⟩ := h.ex
  exact hc.lt
theorem PaC.below (h : PaC E w q s st d) {B : Nat} (hb : Below B w w') (hB : w.heap.size ≤ B) : PaC E w' q s st d := by
  obtain ⟨ev, hc, he⟩ := h.ex
  exact ⟨⟨ev, hc.below hb hB, he.below hb hB⟩, h.ord, h.top, h.size⟩
theorem PaC.alloc (h : PaC E w q s st d) (o : Obj) : PaC E (w.alloc o) q s st d := h.below ((Below.refl w.heap.size w).alloc (Nat.le_refl _) o) (Nat.le_refl _)
theorem PaC.drewN (h : PaC E w q s st d) (n : Nat) : PaC E (w.drewN n) q s st d := h.below (below_drewN (Below.refl w.heap.size w) n) (Nat.le_refl _)
/-- Kept, where another block is written. -/
theorem PaC.other (h : PaC E w q s st d) {z : Nat} (hg : w.grownBy w' (some z)) (hne : z ≠ q) (hz : ∃ k v, w.cell? ⟨z, 1, none⟩ = some (.int k v)) : PaC E w' q s st d := by
  obtain ⟨ev, hc, he⟩ := h.ex
  exact ⟨⟨ev, hc.kept hg (fun e => hne (Option.some.inj e)), he.kept hg hz⟩, h.ord, h.top, h.size⟩
end
/-- One part of the parser, function g, inside d: what it is called with, what it leaves. -/
def PartC (E : Int → Option Addr) (W : World) (q : Nat) (s : ByteArray) (g d : Nat) (f : Co.St → Co.Out) : Prop :=
  ∀ st e st', f st = some (e, st') → ∀ w, Below W.heap.size W w → PaC E w q s st d →
    Calls Tryz.prog g #[.pointer (some ⟨q, 0, none⟩)] w fun x w' => (∃ y, x = .returned (Ex.val y) ∧ At w' (fun b => w.heap.size ≤ b) e y) ∧ PaC E w' q s st' d ∧ w.grownBy w' (some q)
end Go.Proofs.YtkffnfgdmcebdaaGreatDoor
namespace Go.Proofs.YtkffnfgdmcebdaaGreatDoor
open Go.RowKit

namespace Co
theorem digit_yes {c : UInt8} (h : 48 ≤ (c.toNat : Int) ∧ (c.toNat : Int) ≤ 57) : digit c = true := by unfold digit; simp; omega
theorem digit_no {c : UInt8} (h : ¬ (48 ≤ (c.toNat : Int) ∧ (c.toNat : Int) ≤ 57)) : digit c = false := by
  unfold digit
  rw [Bool.eq_false_iff]
  simp
  omega
theorem trim_digits (l : List UInt8) : (Lib.trimS l [48, 49, 50, 51, 52, 53, 54, 55, 56, 57] = []) ↔ l.all digit = true := by
  have hc : ∀ c : UInt8, ([48, 49, 50, 51, 52, 53, 54, 55, 56, 57] : List UInt8).contains c = digit c := by
    intro c
    have hb := c.toNat_lt
    have h : ∀ k : Fin 256, ([48, 49, 50, 51, 52, 53, 54, 55, 56, 57] : List UInt8).contains (UInt8.ofNat k.val) = digit (UInt8.ofNat k.val) := by decide +kernel
    have := h ⟨c.toNat, hb⟩
    simpa using this
  have hd : ∀ m : List UInt8, m.dropWhile digit = [] ↔ m.all digit = true := by
    intro m
    induction m with
    | nil => simp
    | cons a m ih =>
      cases ha : digit a with
      | true => simpa [List.dropWhile_cons, ha] using ih
      | false => simp [ha]
  unfold Lib.trimS Lib.trimLeftS Lib.trimRightS
  simp only [hc]
  rw [hd, List.all_reverse]
  constructor
  · intro h
    rw [← List.all_reverse]
    have hh : ∀ m : List UInt8, (m.dropWhile digit).all digit = true → m.all digit = true := by
      intro m
      induction m with
      | nil => simp
      | cons a m ih =>
        cases ha : digit a with
        | true => intro h; rw [List.dropWhile_cons_of_pos ha] at h; simp [ha, ih h]
        | false => intro h; rw [List.dropWhile_cons_of_neg (by simp [ha])] at h; exact h
    exact hh _ h
  · intro h
    have : l.reverse.dropWhile digit = [] := (hd _).2 (by rw [List.all_reverse]; exact h)
    rw [this]
    rfl
theorem list_data (s : ByteArray) : s.toList = s.data.toList := by rw [ByteArray.toList_eq]
theorem eq_lit (s : ByteArray) (m : List UInt8) : (s.toList == m) = decide (s.data.toList = m) := by
  rw [list_data, Bool.eq_iff_iff]; simp
theorem of_lit {s : ByteArray} {m : List UInt8} (h : s.data.toList = m) : s = ⟨m.toArray⟩ := by
  subst h
  cases s with
  | mk d => simp
end Co

set_option maxHeartbeats 400000 in
theorem cdigit_any (c : UInt8) (w : World) :
    Calls Tryz.prog 175 #[.int .u8 (c.toNat : Int)] w fun e w' => e = .returned (.bool (Co.digit c)) ∧ w = w' := by
  have hc := c.toNat_lt
  go_enter Tryz.func175, Tryz.ntmps175
  go_wp2
  all_goals
    go_ret
    refine ⟨ret_bool ?_, rfl⟩
    first
      | exact (Co.digit_yes (by omega)).symm
      | exact (Co.digit_no (by omega)).symm
      | (unfold Co.digit; rw [Bool.eq_iff_iff]; simp; omega)
set_option maxHeartbeats 800000 in
theorem cword_any (c : UInt8) (w : World) :
    Calls Tryz.prog 166 #[.int .u8 (c.toNat : Int)] w fun e w' => e = .returned (.bool (Co.ofWord c)) ∧ w = w' := by
  have hc := c.toNat_lt
  have hd := cdigit_any c
  have hw : Co.ofWord c = ((decide (97 ≤ c.toNat) && decide (c.toNat ≤ 122)) || Co.digit c || decide (c.toNat = 95)) := rfl
  have hn : Co.digit c = true → ¬ (97 ≤ c.toNat) := by unfold Co.digit; simp; omega
  have HW := Lib.hid hw
  have HN := Lib.hid hn
  clear hw hn
  generalize Co.ofWord c = r at *
  cases hq : Co.digit c with
  | true =>
    rw [hq] at hd HW
    have HQ := Lib.hid (HN.out hq)
    clear hq HN
    go_enter Tryz.func166, Tryz.ntmps166
    go_wp2_with (go_at_call 175; refine (hd _).mono ?_; rintro e w' ⟨rfl, rfl⟩)
    all_goals
      go_ret
      refine ⟨ret_bool ?_, rfl⟩
      have h1 := HW.out
      have h2 := HQ.out
      rw [h1]
      first
        | (simp; done)
        | (rw [Bool.eq_iff_iff]; simp; omega)
  | false =>
    rw [hq] at hd HW
    clear hq HN
    go_enter Tryz.func166, Tryz.ntmps166
    go_wp2_with (go_at_call 175; refine (hd _).mono ?_; rintro e w' ⟨rfl, rfl⟩)
    all_goals
      go_ret
      refine ⟨ret_bool ?_, rfl⟩
      have h1 := HW.out
      rw [h1]
      first
        | (rw [Bool.eq_iff_iff]; simp; omega)
        | (rw [Bool.eq_iff_iff]; simp; done)
end Go.Proofs.YtkffnfgdmcebdaaGreatDoor
namespace Go.Proofs.YtkffnfgdmcebdaaGreatDoor
open Go.RowKit

namespace Pr
theorem finish_lt {other : Int} {m : Nat} {acc : List Nat} (h : ∀ f ∈ acc, f < m) : ∀ f ∈ (finish other m acc).2, f < m := by
  unfold finish
  split
  · exact h
  · split
    · intro f hf
      simp only [List.mem_singleton] at hf
      omega
    · intro f hf; cases hf
theorem choose_lt {b : Bd} {other : Int} {most : Nat} : ∀ (l acc : List Nat), (∀ f ∈ l, f < b.p.m) → (∀ f ∈ acc, f < b.p.m) → ∀ f ∈ (choose b other most l acc).2, f < b.p.m
  | [], acc, _, h => finish_lt h
  | x :: l, acc, hl, h => by
    rw [choose]
    split
    · exact finish_lt h
    · split
      · exact choose_lt l acc (fun f hf => hl f (by simp [hf])) h
      · split
        · intro f hf; cases hf
        · refine choose_lt l _ (fun f hf => hl f (by simp [hf])) ?_
          intro f hf
          split at hf
          · rcases List.mem_append.1 hf with hf | hf
            · exact h f hf
            · simp only [List.mem_singleton] at hf
              subst hf
              exact hl _ (by simp)
          · exact h f hf
theorem finish_len (other : Int) (m : Nat) (acc : List Nat) : (finish other m acc).2.length ≤ acc.length + 1 := by
  unfold finish
  split
  · simp
  · split <;> simp
theorem choose_len {b : Bd} {other : Int} {most : Nat} : ∀ (l acc : List Nat), (choose b other most l acc).2.length ≤ l.length + acc.length + 1
  | [], acc => by have := finish_len other b.p.m acc; simp only [choose, List.length_nil]; omega
  | x :: l, acc => by
    rw [choose]
    split
    · have := finish_len other b.p.m acc; omega
    · split
      · have := choose_len (b := b) (other := other) (most := most) l acc; simp only [List.length_cons]; omega
      · split
        · simp
        · have := choose_len (b := b) (other := other) (most := most) l (if (opens b.vars b.p.flows[x]!.cond).2 = true then acc ++ [x] else acc)
          have hl : (if (opens b.vars b.p.flows[x]!.cond).2 = true then acc ++ [x] else acc).length ≤ acc.length + 1 := by split <;> simp
          simp only [List.length_cons]
          omega
theorem outWays_lt {b : Bd} {u f : Nat} (h : f ∈ (outWays b u).2) : f < b.p.m := by
  have ho : ∀ f ∈ outsB b.p u, f < b.p.m := fun f h => outsB_lt h
  unfold outWays at h
  dsimp only at h
  split at h
  · cases h
  · split at h
    · split at h
      · exact ho f h
      · exact choose_lt _ _ ho (fun f h => by cases h) f h
    · split at h
      · exact choose_lt _ _ ho (fun f h => by cases h) f h
      · exact ho f h
theorem outWays_len (b : Bd) (u : Nat) : (outWays b u).2.length ≤ b.p.m + 1 := by
  have ho := outsB_len b.p u
  unfold outWays
  dsimp only
  split
  · simp
  · split
    · split
      · simp only []; omega
      · have := choose_len (b := b) (other := b.p.nodes[u]!.dflt) (most := 1) (outsB b.p u) []; simp at this ⊢; omega
    · split
      · have := choose_len (b := b) (other := b.p.nodes[u]!.dflt) (most := (outsB b.p u).length) (outsB b.p u) []; simp at this ⊢; omega
      · simp only []; omega
def BdV.zero : BdV := ⟨⟨#[]⟩, none, 0, 0, none, 0, 0, none, 0, 0, none, 0, 0, 0⟩
def SteppedOut (E : Int → Option Addr) (b : Bd) (i u : Nat) (w : World) (e : Ending) (w' : World) : Prop :=
  (∃ (y : BdV) (ev : Value), e = .returned (.tuple #[y.val, ev]) ∧ SeenBy E ev (outWays b u).1 ∧ ((outWays b u).1 = 0 → BdOwn w' w.heap.size y (moved b (goes b i u) (outWays b u).2))) ∧ Below w.heap.size w w'
end Pr
end Go.Proofs.YtkffnfgdmcebdaaGreatDoor
namespace Go.Proofs.YtkffnfgdmcebdaaGreatDoor
open Go.RowKit

namespace Pr
/-- A runner: a board, how many moves, the Code of a Failure. -/
structure Rn where
  b : Bd
  moves : Nat
  failed : ByteArray
/-- The first token that is ready. -/
def Fst (b : Bd) (k : Nat) : Prop := Rdy b k ∧ ∀ j : Nat, j < k → ¬ Rdy b j
/-- None is ready. -/
def Rest (b : Bd) : Prop := ∀ j : Nat, ¬ Rdy b j
theorem least_of (P : Nat → Prop) (n : Nat) : P n → ∃ k, P k ∧ ∀ j, j < k → ¬ P j := by
  induction n using Nat.strongRecOn with
  | _ n ih =>
    intro h
    by_cases hx : ∃ j, j < n ∧ P j
    · obtain ⟨j, hj, hp⟩ := hx
      exact ih j hj hp
    · exact ⟨n, h, fun j hj hp => hx ⟨j, hj, hp⟩⟩
theorem fst_or (b : Bd) : (∃ k, Fst b k) ∨ Rest b := by
  by_cases h : ∃ k : Nat, Rdy b k
  · obtain ⟨n, hn⟩ := h
    obtain ⟨k, h1, h2⟩ := least_of (fun k : Nat => Rdy b k) n hn
    exact .inl ⟨k, h1, h2⟩
  · exact .inr fun j hj => h ⟨j, hj⟩
theorem Fst.uniq {b : Bd} {k j : Nat} (h : Fst b k) (h' : Fst b j) : k = j := by
  rcases Nat.lt_trichotomy k j with h1 | h1 | h1
  · exact absurd h.1 (h'.2 k h1)
  · exact h1
  · exact absurd h'.1 (h.2 j h1)
theorem Rdy.lt {b : Bd} {k : Nat} (h : Rdy b k) : k < b.toks.length := by
  obtain ⟨j, h1, h2, _⟩ := h
  have : k = j := by omega
  omega
/-- It steps the token at that place. -/
def adv (r : Rn) (k : Nat) : Rn := ⟨(bstep r.b k).1, r.moves + 1, if (bstep r.b k).2.2.1.size ≠ 0 then (bstep r.b k).2.2.1 else r.failed⟩
/-- So many moves lead from one to the other. -/
inductive Mv2 : Rn → Nat → Rn → Prop
  | zero (r : Rn) : Mv2 r 0 r
  | succ {r r' : Rn} {k n : Nat} : Fst r.b k → Mv2 (adv r k) n r' → Mv2 r (n + 1) r'
theorem Mv2.snoc {r r' : Rn} {n : Nat} (h : Mv2 r n r') {k : Nat} (hk : Fst r'.b k) : Mv2 r (n + 1) (adv r' k) := by
  induction h with
  | zero r => exact .succ hk (.zero _)
  | succ h1 _ ih => exact .succ h1 (ih hk)
theorem Mv2.uniq {r r1 r2 : Rn} {n : Nat} (h1 : Mv2 r n r1) (h2 : Mv2 r n r2) : r1 = r2 := by
  induction h1 with
  | zero r => cases h2; rfl
  | succ hk _ ih =>
    cases h2 with
    | succ hk2 h2 =>
      obtain rfl := hk.uniq hk2
      exact ih h2
theorem Mv2.rest {r r1 : Rn} {n : Nat} (h1 : Mv2 r n r1) (hr : Rest r1.b) : ∀ {m : Nat} {r2 : Rn}, Mv2 r m r2 → m ≤ n := by
  induction h1 with
  | zero r =>
    intro m r2 h
    cases h with
    | zero => exact Nat.le_refl _
    | succ hk _ => exact absurd hk.1 (hr _)
  | succ hk _ ih =>
    intro m r2 h
    cases h with
    | zero => exact Nat.zero_le _
    | succ hk2 h =>
      obtain rfl := hk.uniq hk2
      exact Nat.succ_le_succ (ih hr h)
open Classical in
/-- Each token that is ready is Stuck. -/
noncomputable def stops (b : Bd) : Bd := { b with toks := b.toks.mapIdx fun k t => if Rdy b (k : Int) then { t with stuck := true } else t }
/-- What Run tells, and leaves. -/
def RunTo (r : Rn) (most : Nat) (ok : Bool) (r' : Rn) : Prop :=
  (ok = true ∧ ∃ n, n ≤ most ∧ Mv2 r n r' ∧ Rest r'.b) ∨ (ok = false ∧ ∃ r1, Mv2 r most r1 ∧ ¬ Rest r1.b ∧ r' = { r1 with b := stops r1.b })
theorem RunTo.to {r r' r2 : Rn} {most n : Nat} {ok : Bool} (h : RunTo r most ok r') (hm : Mv2 r n r2) (hr : Rest r2.b) (hn : n ≤ most) : ok = true ∧ r' = r2 := by
  rcases h with ⟨h1, k, _, h3, h4⟩ | ⟨_, r1, h3, h4, _⟩
  · have e1 := hm.rest hr h3
    have e2 := h3.rest h4 hm
    obtain rfl : k = n := by omega
    exact ⟨h1, h3.uniq hm⟩
  · have e1 := hm.rest hr h3
    obtain rfl : most = n := by omega
    obtain rfl := h3.uniq hm
    exact absurd hr h4
theorem RunTo.out {r r' r1 : Rn} {most : Nat} {ok : Bool} (h : RunTo r most ok r') (hm : Mv2 r most r1) (hr : ¬ Rest r1.b) : ok = false ∧ r' = { r1 with b := stops r1.b } := by
  rcases h with ⟨_, k, h2, h3, h4⟩ | ⟨h1, r2, h3, _, rfl⟩
  · have := h3.rest h4 hm
    obtain rfl : k = most := by omega
    obtain rfl := h3.uniq hm
    exact absurd h4 hr
  · obtain rfl := h3.uniq hm
    exact ⟨h1, rfl⟩
theorem stops_len (b : Bd) : (stops b).toks.length = b.toks.length := by unfold stops; simp
open Classical in
theorem stops_at (b : Bd) {k : Nat} (hk : k < b.toks.length) : (stops b).toks[k]! = if Rdy b (k : Int) then { b.toks[k]! with stuck := true } else b.toks[k]! := by
  have h2 : k < (stops b).toks.length := by rw [stops_len]; exact hk
  rw [getElem!_pos (stops b).toks k h2, getElem!_pos b.toks k hk]
  exact List.getElem_mapIdx
/-- Alike but for what is Stuck. -/
structure LikeB (b b' : Bd) : Prop where
  p : b'.p = b.p
  len : b'.toks.length = b.toks.length
  node : ∀ k, k < b.toks.length → b'.toks[k]!.node = b.toks[k]!.node
  inn : ∀ k, k < b.toks.length → b'.toks[k]!.inn = b.toks[k]!.inn
theorem fst_cong {q : Tk → Bool} {l l' : List Tk} (hl : l'.length = l.length) (h : ∀ k, k < l.length → q l'[k]! = q l[k]!) : fst q l' = fst q l := by
  rcases fst_cases q l with ⟨h1, h2⟩ | ⟨k, h1, h2, h3, h4⟩
  · rw [h1]
    exact fst_miss fun j hj => by rw [h j (by omega)]; exact h2 j (by omega)
  · rw [h1]
    exact fst_hit (by omega) (by rw [h k h2]; exact h3) fun j hj => by rw [h j (by omega)]; exact h4 j hj
theorem LikeB.more {b b' : Bd} (h : LikeB b b') (v : Int) : More b v → More b' v := by
  rintro ⟨t, ht, hn, u, hu, hun, hc⟩
  obtain ⟨k, hk, rfl⟩ := List.mem_iff_getElem.1 ht
  have hk' : k < b'.toks.length := by rw [h.len]; exact hk
  have e : b'.toks[k].node = b.toks[k].node := by
    have := h.node k hk
    rwa [getElem!_pos b'.toks k hk', getElem!_pos b.toks k hk] at this
  exact ⟨b'.toks[k], List.getElem_mem hk', by rw [e]; exact hn, u, by rw [e]; exact hu, by rw [h.p]; exact hun, by rw [h.p]; exact hc⟩
theorem LikeB.symm {b b' : Bd} (h : LikeB b b') : LikeB b' b :=
  ⟨h.p.symm, h.len.symm, fun k hk => (h.node k (by rw [← h.len]; exact hk)).symm, fun k hk => (h.inn k (by rw [← h.len]; exact hk)).symm⟩
/-- Whether a token is ready does not depend on which other ones are Stuck. -/
theorem LikeB.rdy {b b' : Bd} (h : LikeB b b') {k : Nat} (hs : b'.toks[k]!.stuck = false) : Rdy b k → Rdy b' k := by
  rintro ⟨j, hj, hl, _, u, hu, hun, h4, h6, h7⟩
  obtain rfl : k = j := by omega
  have e6 : ∀ v, fst (atN v) b'.toks = fst (atN v) b.toks := fun v => fst_cong h.len fun i hi => by unfold atN; rw [h.node i hi]
  have e7 : ∀ v f, fst (atB v f) b'.toks = fst (atB v f) b.toks := fun v f => fst_cong h.len fun i hi => by unfold atB; rw [h.node i hi, h.inn i hi]
  refine ⟨k, rfl, by rw [h.len]; exact hl, hs, u, by rw [h.node k hl]; exact hu, by rw [h.p]; exact hun, by rw [h.p]; exact h4, ?_, ?_⟩
  · rw [h.p]
    intro a c
    obtain ⟨x, y⟩ := h6 a c
    exact ⟨by rw [e6]; exact x, fun f hf => by rw [e7]; exact y f hf⟩
  · rw [h.p]
    intro a c
    obtain ⟨x, y⟩ := h7 a c
    exact ⟨by rw [e6]; exact x, fun hm => y (h.symm.more u hm)⟩
open Classical in
theorem stops_like (b : Bd) : LikeB b (stops b) :=
  ⟨rfl, stops_len b, fun k hk => by rw [stops_at b hk]; split <;> rfl, fun k hk => by rw [stops_at b hk]; split <;> rfl⟩
open Classical in
/-- Then none is ready. -/
theorem stops_rest (b : Bd) : Rest (stops b) := by
  intro k hk
  have hl := hk.lt
  rw [stops_len] at hl
  have hs : (stops b).toks[k]!.stuck = false := by
    obtain ⟨j, h1, _, h3, _⟩ := hk
    obtain rfl : k = j := by omega
    exact h3
  have h0 : ¬ Rdy b k := by
    intro hr
    rw [stops_at b hl, if_pos hr] at hs
    cases hs
  refine h0 ((stops_like b).symm.rdy ?_ hk)
  rw [stops_at b hl, if_neg h0] at hs
  exact hs
/-- Its IDs rise, and are below the next one. -/
structure Ids (b : Bd) : Prop where
  asc : Asc b.toks
  low : ∀ t ∈ b.toks, t.id < b.next
theorem numb_mem : ∀ (k : Int) (l : List Tk) (t : Tk), t ∈ numb k l → k ≤ t.id ∧ t.id < k + l.length
  | _, [], t, h => by cases h
  | k, y :: l, t, h => by
    rw [numb] at h
    rw [List.length_cons]
    rcases List.mem_cons.1 h with rfl | h
    · dsimp only; omega
    · have := numb_mem (k + 1) l t h
      omega
theorem numb_asc : ∀ (k : Int) (l : List Tk), Asc (numb k l)
  | _, [] => List.Pairwise.nil
  | k, y :: l => by
    unfold Asc
    rw [numb, List.pairwise_cons]
    refine ⟨fun t ht => ?_, numb_asc (k + 1) l⟩
    have := numb_mem (k + 1) l t ht
    show k < t.id
    omega
theorem left_sub (l : List Tk) (g : Nat → Bool) : (left l g).Sublist l := by
  have h : (List.range l.length).map (fun k => l[k]!) = l := by
    apply List.ext_getElem
    · simp
    · intro k h1 h2
      simp
      rw [List.getElem?_eq_getElem h2]
      rfl
  have h2 : (left l g).Sublist ((List.range l.length).map (fun k => l[k]!)) := List.Sublist.map _ List.filter_sublist
  rwa [h] at h2
theorem Ids.put {b : Bd} (h : Ids b) (l : List Tk) : Ids (b.put l) := by
  refine ⟨?_, fun t ht => ?_⟩
  · show (b.toks ++ numb b.next l).Pairwise _
    rw [List.pairwise_append]
    refine ⟨h.asc, numb_asc _ _, fun x hx y hy => ?_⟩
    have h1 := h.low x hx
    have h2 := (numb_mem _ _ _ hy).1
    omega
  · show t.id < b.next + (l.length : Int)
    rcases List.mem_append.1 ht with ht | ht
    · have := h.low t ht; omega
    · exact (numb_mem _ _ _ ht).2
theorem Ids.left {b : Bd} (h : Ids b) (g : Nat → Bool) : Ids { b with toks := left b.toks g } :=
  ⟨h.asc.sublist (left_sub _ _), fun t ht => h.low t ((left_sub _ _).subset ht)⟩
theorem Ids.moved {b : Bd} (h : Ids b) (g : Nat → Bool) (fs : List Nat) : Ids (moved b g fs) := (h.left g).put _
theorem modify_asc : ∀ (l : List Tk) (i : Nat), (Asc l → Asc (l.modify i fun t => { t with stuck := true })) ∧ ∀ t ∈ l.modify i (fun t => { t with stuck := true }), ∃ s ∈ l, s.id = t.id
  | [], i => by simp [Asc]
  | y :: l, 0 => by
    refine ⟨fun h => ?_, fun t ht => ?_⟩
    · unfold Asc at *
      rw [List.modify_zero_cons, List.pairwise_cons]
      rw [List.pairwise_cons] at h
      exact h
    · rw [List.modify_zero_cons] at ht
      rcases List.mem_cons.1 ht with rfl | ht
      · exact ⟨y, List.mem_cons_self, rfl⟩
      · exact ⟨t, List.mem_cons_of_mem _ ht, rfl⟩
  | y :: l, i + 1 => by
    obtain ⟨h1, h2⟩ := modify_asc l i
    refine ⟨fun h => ?_, fun t ht => ?_⟩
    · unfold Asc at *
      rw [List.modify_succ_cons, List.pairwise_cons]
      rw [List.pairwise_cons] at h
      refine ⟨fun t ht => ?_, h1 h.2⟩
      obtain ⟨s, hs, e⟩ := h2 t ht
      rw [← e]
      exact h.1 s hs
    · rw [List.modify_succ_cons] at ht
      rcases List.mem_cons.1 ht with rfl | ht
      · exact ⟨t, List.mem_cons_self, rfl⟩
      · obtain ⟨s, hs, e⟩ := h2 t ht
        exact ⟨s, List.mem_cons_of_mem _ hs, e⟩
theorem Ids.stuck {b : Bd} (h : Ids b) (i : Nat) : Ids (stuckAt b i) :=
  ⟨(modify_asc b.toks i).1 h.asc, fun t ht => by
    obtain ⟨s, hs, e⟩ := (modify_asc b.toks i).2 t ht
    rw [← e]
    exact h.low s hs⟩
/-- What a runner's board keeps to, with so many moves ahead of it. -/
structure Ok (b : Bd) (most : Nat) : Prop where
  ids : Ids b
  n : b.p.n ≤ 100000
  m : b.p.m ≤ 90000
  v : b.vars.length ≤ 100000
  t : b.toks.length ≤ 100000
  k0 : 0 ≤ b.next
  k1 : b.next + (most : Int) * ((b.p.m : Int) + 1) ≤ 1000000000
theorem Ok.few {b : Bd} {most : Nat} (h : Ok b most) : b.Few := by
  have h0 : (0 : Int) ≤ (most : Int) * ((b.p.m : Int) + 1) := Int.mul_nonneg (by omega) (by omega)
  have := h.k0
  have := h.k1
  have := h.m
  exact ⟨h.n, by omega, h.v, h.t, by omega, by omega⟩
theorem Ok.less {b : Bd} {most k : Nat} (h : Ok b most) (hk : k ≤ most) : Ok b k :=
  ⟨h.ids, h.n, h.m, h.v, h.t, h.k0, by
    have h1 := h.k1
    have h2 : (k : Int) * ((b.p.m : Int) + 1) ≤ (most : Int) * ((b.p.m : Int) + 1) := Int.mul_le_mul_of_nonneg_right (by omega) (by omega)
    omega⟩
/-- A step's board: it is moved on, or one of it is Stuck. -/
theorem bstep_or (b : Bd) (i : Nat) : (bstep b i = (stuckAt b i, false, no, (bstep b i).2.2.2) ∧ (bstep b i).2.2.2 ≠ 0) ∨
    (bstep b i = (moved b (goes b i b.toks[i]!.node.toNat) (outWays b b.toks[i]!.node.toNat).2, true, (if b.p.nodes[b.toks[i]!.node.toNat]!.kind = 3 then b.p.nodes[b.toks[i]!.node.toNat]!.code else no), 0) ∧
      (moved b (goes b i b.toks[i]!.node.toNat) (outWays b b.toks[i]!.node.toNat).2).toks.length ≤ 40) := by
  unfold bstep
  dsimp only
  generalize b.toks[i]!.node.toNat = u
  generalize outWays b u = w
  by_cases h : w.1 ≠ 0
  · left
    simp [h]
  · have h : w.1 = 0 := by simpa using h
    by_cases h2 : 40 < (moved b (goes b i u) w.2).toks.length
    · left
      simp [h, h2]
    · right
      simp [h, h2]
      omega
theorem moved_p (b : Bd) (g : Nat → Bool) (fs : List Nat) : (moved b g fs).p = b.p ∧ (moved b g fs).vars = b.vars ∧ (moved b g fs).next = b.next + (fs.length : Int) := by
  refine ⟨rfl, rfl, ?_⟩
  unfold moved Bd.put come
  dsimp only
  rw [List.length_map]
theorem Ok.moved {b : Bd} {most : Nat} (h : Ok b (most + 1)) (g : Nat → Bool) (fs : List Nat) (hl : fs.length ≤ b.p.m + 1) (ht : (Pr.moved b g fs).toks.length ≤ 100000) : Ok (Pr.moved b g fs) most := by
  obtain ⟨hp, hv, hn⟩ := moved_p b g fs
  have h1 := h.k1
  have h0 := h.k0
  refine ⟨h.ids.moved g fs, by rw [hp]; exact h.n, by rw [hp]; exact h.m, by rw [hv]; exact h.v, ht, by rw [hn]; omega, ?_⟩
  rw [hn, hp]
  rw [show ((most + 1 : Nat) : Int) * ((b.p.m : Int) + 1) = (most : Int) * ((b.p.m : Int) + 1) + ((b.p.m : Int) + 1) from by rw [Int.natCast_add, Int.add_mul]; omega] at h1
  omega
theorem Ok.stuck {b : Bd} {most : Nat} (h : Ok b most) (i : Nat) : Ok (stuckAt b i) most :=
  ⟨h.ids.stuck i, h.n, h.m, h.v, by show (b.toks.modify i _).length ≤ _; rw [List.length_modify]; exact h.t, h.k0, h.k1⟩
theorem Ok.step {b : Bd} {most : Nat} (h : Ok b (most + 1)) (i : Nat) : Ok (bstep b i).1 most := by
  rcases bstep_or b i with ⟨h1, _⟩ | ⟨h1, h2⟩
  · rw [h1]
    exact (h.stuck i).less (by omega)
  · rw [h1]
    exact h.moved _ _ (outWays_len b _) (by omega)
open Classical in
theorem stops_ids {b : Bd} (h : Ids b) : Ids (stops b) := by
  have hid : ∀ k, k < b.toks.length → (stops b).toks[k]!.id = b.toks[k]!.id := fun k hk => by rw [stops_at b hk]; split <;> rfl
  refine ⟨?_, fun t ht => ?_⟩
  · unfold Asc
    rw [List.pairwise_iff_getElem]
    intro i j hi hj hij
    have hi' := hi
    have hj' := hj
    rw [stops_len] at hi' hj'
    have e1 := hid i hi'
    have e2 := hid j hj'
    rw [getElem!_pos (stops b).toks i hi, getElem!_pos b.toks i hi'] at e1
    rw [getElem!_pos (stops b).toks j hj, getElem!_pos b.toks j hj'] at e2
    rw [e1, e2]
    exact List.pairwise_iff_getElem.1 h.asc i j hi' hj' hij
  · obtain ⟨k, hk, rfl⟩ := List.mem_iff_getElem.1 ht
    have hk' := hk
    rw [stops_len] at hk'
    have e1 := hid k hk'
    rw [getElem!_pos (stops b).toks k hk, getElem!_pos b.toks k hk'] at e1
    rw [e1]
    exact h.low _ (List.getElem_mem hk')
theorem Ok.stops {b : Bd} {most : Nat} (h : Ok b most) : Ok (Pr.stops b) most :=
  ⟨stops_ids h.ids, h.n, h.m, h.v, by rw [stops_len]; exact h.t, h.k0, h.k1⟩
theorem bstep_same (b : Bd) (i : Nat) : (bstep b i).1.p = b.p ∧ (bstep b i).1.vars = b.vars := by
  rcases bstep_or b i with ⟨h1, _⟩ | ⟨h1, _⟩ <;> rw [h1] <;> exact ⟨rfl, rfl⟩
/-- Does it stand at a Work? -/
def atW (p : P) (t : Tk) : Bool := decide (0 ≤ t.node) && (decide (t.node < p.n) && (p.nodes[t.node.toNat]!.kind == 4))
def Rn.waits (r : Rn) : List Tk := r.b.toks.filter fun t => atW r.b.p t && !t.stuck
def Rn.stuck (r : Rn) : List Tk := r.b.toks.filter fun t => t.stuck
/-- The token at that place goes along a flow. -/
def along (b : Bd) (k f : Nat) : Bd := moved b (fun j => decide (j = k)) [f]
/-- The token of that ID goes along a flow, if it stands at a Work from which it leads. -/
def goB (b : Bd) (id flow : Int) : Bool × Bd :=
  match b.toks.findIdx? (fun t => t.id == id) with
  | none => (false, b)
  | some k => if atW b.p b.toks[k]! = true ∧ flow ∈ (outsB b.p b.toks[k]!.node).map Int.ofNat then (true, along b k flow.toNat) else (false, b)
theorem left_none {l : List Tk} {g : Nat → Bool} (h : ∀ k, k < l.length → g k = true) : left l g = [] := by
  unfold left
  rw [List.map_eq_nil_iff, List.filter_eq_nil_iff]
  intro k hk
  rw [h k (List.mem_range.1 hk)]
  decide
/-- A move in which all go. -/
theorem bstep_all {b : Bd} {i u : Nat} {fs : List Nat} (hu : b.toks[i]!.node = (u : Int)) (hw : outWays b u = (0, fs)) (hg : ∀ k, k < b.toks.length → goes b i u k = true) (hl : fs.length ≤ 40) (hk : b.p.nodes[u]!.kind ≠ 3) :
    bstep b i = ({ b with toks := numb b.next (come b.p fs), next := b.next + (fs.length : Int) }, true, no, 0) := by
  have hm : moved b (goes b i u) fs = { b with toks := numb b.next (come b.p fs), next := b.next + (fs.length : Int) } := by
    unfold moved
    rw [left_none hg]
    unfold Bd.put
    dsimp only
    rw [List.nil_append, come_len]
  unfold bstep
  dsimp only
  rw [hu, Int.toNat_natCast, hw]
  dsimp only
  rw [hm]
  dsimp only
  rw [numb_len, come_len, if_neg (show ¬ 40 < fs.length by omega), if_neg hk]
  rfl
/-- The one token of a board, at a node that gathers nothing. -/
theorem bstep_one {b : Bd} {t : Tk} {u : Nat} {fs : List Nat} (ht : b.toks = [t]) (hu : t.node = (u : Int)) (hw : outWays b u = (0, fs)) (hl : fs.length ≤ 40) (hk : b.p.nodes[u]!.kind = 1 ∨ b.p.nodes[u]!.kind = 2 ∨ b.p.nodes[u]!.kind = 5) :
    bstep b 0 = ({ b with toks := numb b.next (come b.p fs), next := b.next + (fs.length : Int) }, true, no, 0) := by
  refine bstep_all (by rw [ht]; exact hu) hw (fun k hk2 => ?_) hl (by rcases hk with h | h | h <;> rw [h] <;> decide)
  rw [ht] at hk2
  have hk2 : k < 1 := hk2
  obtain rfl : k = 0 := by omega
  unfold goes
  dsimp only
  rcases hk with h | h | h <;> rw [h] <;> rfl
theorem Rdy.fst0 {b : Bd} (h : Rdy b (0 : Nat)) : Fst b 0 := ⟨h, fun j hj => absurd hj (Nat.not_lt_zero j)⟩
theorem rdy_one {b : Bd} {t : Tk} {u : Nat} (ht : b.toks = [t]) (hs : t.stuck = false) (hu : t.node = (u : Int)) (hn : u < b.p.n) (hk : b.p.nodes[u]!.kind = 1 ∨ b.p.nodes[u]!.kind = 2 ∨ b.p.nodes[u]!.kind = 5) : Fst b 0 := by
  refine Rdy.fst0 ⟨0, rfl, by rw [ht]; exact Nat.zero_lt_one, by rw [ht]; exact hs, u, by rw [ht]; exact hu, hn, ?_, fun h => ?_, fun h => ?_⟩
  · rcases hk with h | h | h <;> rw [h] <;> decide
  · rcases hk with h' | h' | h' <;> rw [h'] at h <;> exact absurd h (by decide)
  · rcases hk with h' | h' | h' <;> rw [h'] at h <;> exact absurd h (by decide)
theorem rest_nil {b : Bd} (h : b.toks = []) : Rest b := fun j hj => by
  have := hj.lt
  rw [h] at this
  exact absurd this (Nat.not_lt_zero j)
/-- All wait at Works. -/
theorem rest_work {b : Bd} (h : ∀ k, k < b.toks.length → ∃ u : Nat, b.toks[k]!.node = (u : Int) ∧ b.p.nodes[u]!.kind = 4) : Rest b := fun j hj => by
  obtain ⟨u, hu, hk⟩ := h j hj.lt
  obtain ⟨i, hi, _, _, v, hv, _, h4, _⟩ := hj
  obtain rfl : j = i := by omega
  obtain rfl : u = v := by omega
  exact h4 hk
theorem choose_one (b : Bd) (other : Int) (most f : Nat) (l acc : List Nat) (h1 : acc.length ≠ most) (h2 : (f : Int) ≠ other) (h3 : opens b.vars b.p.flows[f]!.cond = (0, true)) : choose b other most (f :: l) acc = choose b other most l (acc ++ [f]) := by
  rw [choose, if_neg h1, if_neg h2, h3]
  simp
/-- Ways that no condition bars. -/
theorem choose_free (b : Bd) (other : Int) (most : Nat) (ho : other < 0) : ∀ (l acc : List Nat), (∀ f ∈ l, b.p.flows[f]!.cond = no) → acc.length + l.length ≤ most → choose b other most l acc = finish other b.p.m (acc ++ l)
  | [], acc, _, _ => by rw [List.append_nil]; rfl
  | f :: l, acc, h, hl => by
    rw [List.length_cons] at hl
    rw [choose_one b other most f l acc (by omega) (by omega) (by rw [h f List.mem_cons_self]; exact opens_none rfl)]
    rw [choose_free b other most ho l (acc ++ [f]) (fun x hx => h x (List.mem_cons_of_mem _ hx)) (by rw [List.length_append, List.length_singleton]; omega)]
    rw [List.append_assoc]
    rfl
end Pr
end Go.Proofs.YtkffnfgdmcebdaaGreatDoor
namespace Go.Proofs.YtkffnfgdmcebdaaGreatDoor
open Go.RowKit

namespace Pr
theorem moved_go (G : Nat → Bool) (fs : List Nat) (x : BdV) (b : Bd) (w : World) (hx : BdIn w w.heap.size x b) (hf : b.Few) (ho : ∀ f ∈ fs, f < b.p.m) (W : World) (hb : Below w.heap.size w W) (g : Nat) (lb : Array Value) (eg : ∀ args w, (callFunc g args).run Tryz.prog w = .ok (.enter g args) w) (hp : ∀ (W' : World) (k : Nat), k < b.toks.length → Below W.heap.size W W' → Calls Tryz.prog g (#[.int .i64 (k : Int)] ++ lb) W' fun e w2 => e = .returned (.bool (G k)) ∧ Below W'.heap.size W' w2) (X : Option Addr) (kx cx : Nat) (hr : KRow iκ W W.heap.size X kx (fs.map Int.ofNat)) (hk : kx ≤ 100000) :
    Calls Tryz.prog 54 #[x.val, .func (.func g) #[] lb, .slice X kx cx] W fun e w' => (∃ y, e = .returned y.val ∧ BdOwn w' W.heap.size y (moved b G fs)) ∧ Below W.heap.size W w' :=
  moved_any g lb G x b W eg (hx.on hb) hf hp X kx cx fs hr ho hk
theorem moved_goes (i u : Nat) (fs : List Nat) (x : BdV) (b : Bd) (w : World) (hx : BdIn w w.heap.size x b) (hf : b.Few) (ho : ∀ f ∈ fs, f < b.p.m) (W : World) (hb : Below w.heap.size w W) (w0 : World) (e : Ending) (hgo : GoesOut b i u w0 e W) (X : Option Addr) (kx cx : Nat) (hr : KRow iκ W W.heap.size X kx (fs.map Int.ofNat)) (hk : kx ≤ 100000) :
    ∃ (g : Nat) (lb : Array Value), e = .returned (.func (.func g) #[] lb) ∧ Below w0.heap.size w0 W ∧ Calls Tryz.prog 54 #[x.val, .func (.func g) #[] lb, .slice X kx cx] W fun e w' => (∃ y, e = .returned y.val ∧ BdOwn w' W.heap.size y (moved b (goes b i u) fs)) ∧ Below W.heap.size W w' := by
  obtain ⟨⟨g, lb, rfl, eg, hp⟩, hb4⟩ := hgo
  generalize goes b i u = G at *
  exact ⟨g, lb, rfl, hb4, moved_any g lb G x b W eg (hx.on hb) hf hp X kx cx fs hr ho hk⟩
set_option maxHeartbeats 6400000 in
set_option maxRecDepth 10000 in
theorem stepped_any (E : Int → Option Addr) (i u : Nat) (x : BdV) (b : Bd) (w : World) (hx : BdIn w w.heap.size x b) (hi : i < b.toks.length) (hiu : b.toks[i]!.node = (u : Int)) (hu : u < b.p.n) (hf : b.Few) (hm : b.p.m ≤ 90000) (ha : Asc b.toks)
    (hc : ∀ f ∈ outsB b.p u, CondOk E w x.V x.nv x.cv b.vars b.p.flows[f]!.cond) (hE : ErrIn w E 116 2) :
    Calls Tryz.prog 59 #[x.val, .int .i64 (i : Int)] w (SteppedOut E b i u w) := by
  have HX := Lib.hid hx
  have HP := Lib.hid (Cp.lit w x.list 38)
  have HWY := Lib.hid (fun (W : World) (hb : Below w.heap.size w W) => ways_any E u x b W (hx.on hb) hu hf (fun f h => (hc f h).on hb) (hE.below hb))
  have HGO := Lib.hid (fun (W : World) (hb : Below w.heap.size w W) => going_any i u x b W (hx.on hb) hi hiu hu hf ha)
  have HMV := Lib.hid (moved_goes i u (outWays b u).2 x b w hx hf (fun f h => @outWays_lt b u f h))
  have hwl := outWays_len b u
  have hn := hx.hn
  have hmm := hx.hm
  have ht := hx.ht
  clear hx hf ha hc hE
  obtain ⟨s, A, n, c, F, m, d, V, nv, cv, T, nt, ct, k⟩ := x
  unfold BdV.val at *
  unfold BdV.list at *
  dsimp only at *
  subst hn hmm ht
  go_enter Tryz.func59, Tryz.ntmps59
  go_upto_region 1 with (fail)
  unfold zeroB at HP
  generalize (w.alloc _).alloc _ = wa at *
  have hbd : Below wa.heap.size wa wa.drew := (Below.refl _ _).drew
  have hT := HX.out.toks.below HP.out.bel (Nat.le_refl _)
  obtain ⟨b0, off, rfl, _, _⟩ := hT.2 (show 0 < b.toks.length by omega)
  obtain ⟨t0, t1, t2, t3⟩ := tk_at hT hi
  obtain ⟨e0, e1, e2, e3⟩ := tk_at (HX.out.toks.below (HP.out.bel.trans (hbd.mono HP.out.bel.size)) (Nat.le_refl _)) hi
  rw [hiu] at t1 e1
  have hi0 : (0 : Int) ≤ (i : Int) := by omega
  have hiI : (i : Int) < (b.toks.length : Int) := by omega
  obtain ⟨⟨z0, z1, z2, z3, z4, z5⟩, _⟩ := six_facts HP.out.box
  obtain ⟨⟨d0, d1, d2, d3, d4, d5⟩, _⟩ := six_facts (HP.out.box.below hbd (Nat.le_refl _))
  have HW1 := Lib.hid (HWY.out wa.drew (HP.out.bel.trans (hbd.mono HP.out.bel.size)))
  have HPd := Lib.hid (HP.out.below hbd)
  clear hT hbd hiu
  generalize hRE : outWays b u = R at *
  obtain ⟨cd, fs⟩ := R
  dsimp only at *
  have HRE := Lib.hid hRE
  clear hRE
  have HSF := Lib.hid (fun W (hb : Below wa.heap.size wa W) => And.intro (six_facts (HP.out.box.below hb (Nat.le_refl _))).1 (below_cells hb t1))
  clear e0 e1 e2 e3 d0 d1 d2 d3 d4 d5 t0 t2 t3
  go_region_held3 (fun w' => (w'.cell? ⟨w.heap.size, 0, none⟩ = some (.string s) ∧ w'.cell? ⟨w.heap.size, 1, none⟩ = some (.slice A b.p.n c) ∧ w'.cell? ⟨w.heap.size, 2, none⟩ = some (.slice F b.p.m d) ∧ w'.cell? ⟨w.heap.size, 3, none⟩ = some (.slice V nv cv) ∧ w'.cell? ⟨w.heap.size, 4, none⟩ = some (.slice (some ⟨b0, off, none⟩) b.toks.length ct) ∧ w'.cell? ⟨w.heap.size, 5, none⟩ = some (.int .i64 k)) ∧ w'.cell? ⟨b0, off + i * 4 + 1, none⟩ = some (.int .i64 (u : Int))) (first | exact HSF.out _ HB1.out | exact HSF.out _ (Below.refl _ _).drew) (first
    | (go_at_call 97; refine HW1.out.mono ?_; rintro e w1 ⟨⟨Y, kk, cc, ev, rfl, hs, ho⟩, hb1⟩; have HB1 := Lib.hid (((Below.refl wa.heap.size wa).drew).trans hb1)))
  obtain ⟨⟨y0, y1, y2, y3, y4, y5⟩, _⟩ := HSF.out _ HB1.out
  have HO1 := Lib.hid ho
  have HS1 := Lib.hid hs
  have HPw := Lib.hid (HP.out.below HB1.out)
  have HBw := Lib.hid (HP.out.bel.trans (HB1.out.mono HP.out.bel.size))
  have hrl := HPw.out.res.lt
  clear z0 z1 z2 z3 z4 z5 t1 HW1 HWY ho hb1 HPd
  by_cases h0 : cd = 0
  · subst h0
    obtain rfl := seen_nil hs
    clear hs
    obtain ⟨kke, hkk⟩ : ∃ q, q = kk := ⟨_, rfl⟩
    obtain rfl : fs.length = kk := by have := HO1.out.len; simpa using this
    go_upto_region 4 with (fail)
    have hb1d : Below w1.heap.size w1 w1.drew := (Below.refl _ _).drew
    have HBd := Lib.hid (HBw.out.trans (hb1d.mono HBw.out.size))
    have HBf := Lib.hid (fun W (hb : Below w1.heap.size w1 W) => (six_facts (HPw.out.box.below hb (Nat.le_refl _))).1)
    have HG1 := Lib.hid (HGO.out w1.drew HBd.out)
    obtain ⟨d0, d1, d2, d3, d4, d5⟩ := HBf.out _ hb1d
    clear hb1d
    go_region_law (first
      | (go_simp; go_at_call 98; refine HG1.out.mono ?_; rintro e w4 hgo; have HB4 := Lib.hid (((Below.refl w1.heap.size w1).drew).trans hgo.2); obtain ⟨g, lb, rfl, hb4, hmv⟩ := HMV.out w4 (HBw.out.trans (HB4.out.mono HBw.out.size)) _ _ hgo Y fs.length cc ((HO1.out.row.below HB4.out (Nat.le_refl _)).mono HB4.out.size) (by omega); have HM4 := Lib.hid hmv; obtain ⟨c0, c1, c2, c3, c4, c5⟩ := HBf.out _ HB4.out; clear hmv hgo hb4)
      | (go_simp; go_at_call 54; refine HM4.out.mono ?_; rintro e w5 ⟨⟨y, rfl, hO⟩, hb5⟩; have HB5 := Lib.hid (HB4.out.trans (hb5.mono HB4.out.size)); have HO5 := Lib.hid hO; have HZ5 := Lib.hid (HPw.out.res.below HB5.out (Nat.le_refl _)); have hzl := HZ5.out.lt; obtain ⟨⟨g0, g1, g2, g3, g4, g5⟩, u0, u1, u2, u3, u4, u5⟩ := six_facts HZ5.out; clear hO hb5))
    all_goals
      have HOF := Lib.hid ((HO5.out.grown (by have := HPw.out.zB; have := HB4.out.size; have := HPw.out.B1; omega) (six_grown w5 (w.heap.size + 1) y)).lower (B' := w.heap.size) (Nat.le_trans HBw.out.size HB4.out.size))
      have HBF := Lib.hid (six_below (HBw.out.trans (HB5.out.mono HBw.out.size)) (by omega) (z := w.heap.size + 1) y)
      have HCF := Lib.hid (six_cel HZ5.out y)
      clear d0 d1 d2 d3 d4 d5 g0 g1 g2 g3 g4 g5 u0 u1 u2 u3 u4 u5 c0 c1 c2 c3 c4 c5 y0 y1 y2 y3 y4 y5
      go_wp2
      change bodyPost _ _ _ _ _ (six w5 (w.heap.size + 1) y)
      generalize six w5 _ _ = wf at *
      obtain ⟨⟨j0, j1, j2, j3, j4, j5⟩, _⟩ := six_facts HCF.out
      exact bodyPost_ret (v := .tuple #[y.val, .nilIface]) (by simp [results, Tryz.results59, go_sem, j0, j1, j2, j3, j4, j5, BdV.val]) rfl ⟨⟨y, .nilIface, rfl, by rw [HRE.out]; exact .nil, fun _ => by rw [HRE.out]; exact HOF.out⟩, HBF.out⟩
  · obtain ⟨a, rfl, hka⟩ := seen_err hs h0
    have HZ5 := Lib.hid HPw.out.res
    have HKA := Lib.hid hka
    have H0 := Lib.hid h0
    obtain ⟨⟨g0, g1, g2, g3, g4, g5⟩, u0, u1, u2, u3, u4, u5⟩ := six_facts HZ5.out
    have HBF := Lib.hid (six_below HBw.out (by omega) (z := w.heap.size + 1) BdV.zero)
    have HCF := Lib.hid (six_cel HZ5.out BdV.zero)
    unfold errV
    clear hs hka h0
    go_wp2
    clear g0 g1 g2 g3 g4 g5 u0 u1 u2 u3 u4 u5 y0 y1 y2 y3 y4 y5
    change bodyPost _ _ _ _ _ (six w1 (w.heap.size + 1) BdV.zero)
    generalize six w1 _ _ = wf at *
    obtain ⟨⟨j0, j1, j2, j3, j4, j5⟩, _⟩ := six_facts HCF.out
    exact bodyPost_ret (v := .tuple #[BdV.zero.val, errV a]) (by simp [results, Tryz.results59, go_sem, j0, j1, j2, j3, j4, j5, BdV.val, BdV.zero, errV]) rfl ⟨⟨BdV.zero, errV a, rfl, by rw [HRE.out]; exact .err cd a HKA.out H0.out, fun h => by rw [HRE.out] at h; exact absurd h H0.out⟩, HBF.out⟩
end Pr
end Go.Proofs.YtkffnfgdmcebdaaGreatDoor
