/- Package cond in memory: a parser in its block, conditions in blocks of their own, the errors that it tells. The program's withoutPlace. Walks of package cond: what a word is. Walks of package cond: what a word of letters, digits and _ is; a bracket's or operator's length. -/
import Derived.Test.YtddedbpbenkdoaaGreatDoorYProcessOne11
import Derived.Test.YtddedbpbenkdoaaGreatDoorYProcessOne15
import Derived.Test.YtddedbpbenkdoaaGreatDoorYProcessOne2
import Derived.Test.YtddedbpbenkdoaaGreatDoorAs
import Derived.Test.YtddedbpbenkdoaaGreatDoorYProcessOne4
namespace Go.Proofs.YtddedbpbenkdoaaGreatDoor
open Go.RowKit

/-- The sentinels that cond tells. -/
structure CoErrs (W : World) (E : Int → Option Addr) : Prop where
  e105 : ErrIn W E 105 4
  e111 : ErrIn W E 111 5
  e112 : ErrIn W E 112 12
  words : ∀ i : Nat, i < 18 → W.cell? ⟨17, i, none⟩ = some (.string ⟨(Co.words[i]!).toArray⟩)
theorem CoErrs.below {W w : World} {E : Int → Option Addr} (h : CoErrs W E) (hb : Below W.heap.size W w) : CoErrs w E :=
  ⟨h.e105.below hb, h.e111.below hb, h.e112.below hb, fun i hi => below_cells hb (h.words i hi)⟩

/-- A condition as the program holds it: its six cells. -/
structure Ex where
  op : Int
  kind : Int
  num : Int
  txt : ByteArray
  name : ByteArray
  A : Option Addr
  n : Nat
  c : Nat
def Ex.val (x : Ex) : Value := .agg #[.int .i64 x.op, .int .i64 x.kind, .int .i64 x.num, .string x.txt, .string x.name, .slice x.A x.n x.c]
open Co in
/-- The condition t lies there; each of its blocks is one of N. -/
def At (w : World) (N : Nat → Prop) : Tr → Ex → Prop
  | .leaf op kind num txt name, x => x = ⟨op, kind, num, ⟨txt.toArray⟩, ⟨name.toArray⟩, none, 0, 0⟩
  | .one op a, x => ∃ b y, x = ⟨op, 0, 0, ⟨#[]⟩, ⟨#[]⟩, some ⟨b, 0, none⟩, 1, 1⟩ ∧ N b ∧
      w.heap[b]? = some (.cells #[.int .i64 y.op, .int .i64 y.kind, .int .i64 y.num, .string y.txt, .string y.name, .slice y.A y.n y.c] 77 (0, 0)) ∧ At w N a y
  | .two op a c, x => ∃ b y z, x = ⟨op, 0, 0, ⟨#[]⟩, ⟨#[]⟩, some ⟨b, 0, none⟩, 2, 2⟩ ∧ N b ∧
      w.heap[b]? = some (.cells #[.int .i64 y.op, .int .i64 y.kind, .int .i64 y.num, .string y.txt, .string y.name, .slice y.A y.n y.c, .int .i64 z.op, .int .i64 z.kind, .int .i64 z.num, .string z.txt, .string z.name, .slice z.A z.n z.c] 77 (0, 0)) ∧ At w N a y ∧ At w N c z
/-- Kept, where what changes is none of its blocks. -/
theorem At.kept {w w' : World} {N N' : Nat → Prop} {row : Option Nat} (hg : w.grownBy w' row) (hN : ∀ b, N b → b < w.heap.size → row ≠ some b ∧ N' b) : ∀ {t : Co.Tr} {x : Ex}, At w N t x → At w' N' t x
  | .leaf .., _, h => h
  | .one _ _, _, ⟨b, y, hx, hb, hh, ha⟩ => ⟨b, y, hx, (hN b hb (blk_lt hh)).2, (hg.block b (blk_lt hh) (fun e => (hN b hb (blk_lt hh)).1 e.symm)).trans hh, At.kept hg hN ha⟩
  | .two _ _ _, _, ⟨b, y, z, hx, hb, hh, ha, hc⟩ => ⟨b, y, z, hx, (hN b hb (blk_lt hh)).2, (hg.block b (blk_lt hh) (fun e => (hN b hb (blk_lt hh)).1 e.symm)).trans hh, At.kept hg hN ha, At.kept hg hN hc⟩
theorem At.below {w w' : World} {N : Nat → Prop} {t : Co.Tr} {x : Ex} (h : At w N t x) {B : Nat} (hb : Below B w w') (hB : w.heap.size ≤ B) : At w' N t x :=
  At.kept (grown_none hb hB) (fun _ h _ => ⟨by simp, h⟩) h
theorem At.alloc {w : World} {N : Nat → Prop} {t : Co.Tr} {x : Ex} (h : At w N t x) (o : Obj) : At (w.alloc o) N t x := At.kept (grown_alloc w o none) (fun _ h _ => ⟨by simp, h⟩) h
theorem At.mono {w : World} {N N' : Nat → Prop} {t : Co.Tr} {x : Ex} (h : At w N t x) (hN : ∀ b, N b → b < w.heap.size → N' b) : At w N' t x :=
  At.kept (World.grownBy.refl w none) (fun b h hl => ⟨by simp, hN b h hl⟩) h

/-- The parser's error. -/
def ErrSt (E : Int → Option Addr) (w : World) (ev : Value) : Option (Int × Nat) → Prop
  | none => ev = .nilIface
  | some (c, k) => ∃ b a, ev = atV b ∧ E c = some a ∧ c ≠ 0 ∧ w.heap[b]? = some (.cells #[.int .i64 (k : Int), errV a] 56 (0, 0))
theorem ErrSt.kept {E : Int → Option Addr} {w w' : World} {ev : Value} {r : Option (Int × Nat)} (h : ErrSt E w ev r) {z : Nat} (hg : w.grownBy w' (some z)) (hz : ∃ k v, w.cell? ⟨z, 1, none⟩ = some (.int k v)) : ErrSt E w' ev r := by
  cases r with
  | none => exact h
  | some x =>
    obtain ⟨c, k⟩ := x
    obtain ⟨b, a, h1, h2, h3, hb⟩ := h
    refine ⟨b, a, h1, h2, h3, (hg.block b (blk_lt hb) (fun e => ?_)).trans hb⟩
    obtain rfl := Option.some.inj e
    obtain ⟨k', v, hk⟩ := hz
    have := cell_of_row w b 1 _ _ (0, 0) hb
    rw [hk] at this
    unfold errV at this
    simp at this
theorem ErrSt.below {E : Int → Option Addr} {w w' : World} {ev : Value} {r : Option (Int × Nat)} (h : ErrSt E w ev r) {B : Nat} (hb : Below B w w') (hB : w.heap.size ≤ B) : ErrSt E w' ev r := by
  cases r with
  | none => exact h
  | some x =>
    obtain ⟨c, k⟩ := x
    obtain ⟨b, a, h1, h2, h3, hh⟩ := h
    exact ⟨b, a, h1, h2, h3, (hb.block b (Nat.lt_of_lt_of_le (blk_lt hh) hB)).trans hh⟩
/-- The parser in block q, at st, inside d. -/
structure PaC (E : Int → Option Addr) (w : World) (q : Nat) (s : ByteArray) (st : Co.St) (d : Nat) : Prop where
  ex : ∃ ev, Cel w q [.string s, .int .i64 (st.kind : Int), .int .i64 (st.frm : Int), .int .i64 (st.till : Int), .int .i64 (d : Int), ev] ∧ ErrSt E w ev st.err
  ord : st.frm ≤ st.till
  top : st.till ≤ s.size
  size : s.size ≤ 80
section
variable {E : Int → Option Addr} {w w' : World} {q d : Nat} {s : ByteArray} {st : Co.St}
theorem PaC.lt (h : PaC E w q s st d) : q < w.heap.size := by
  obtain ⟨_, hc, _⟩ := h.ex
  exact hc.lt
theorem PaC.below (h : PaC E w q s st d) {B : Nat} (hb : Below B w w') (hB : w.heap.size ≤ B) : PaC E w' q s st d := by
  obtain ⟨ev, hc, he⟩ := h.ex
  exact ⟨⟨ev, hc.below hb hB, he.below hb hB⟩, h.ord, h.top, h.size⟩
theorem PaC.alloc (h : PaC E w q s st d) (o : Obj) : PaC E (w.alloc o) q s st d := h.below ((Below.refl w.heap.size w).alloc (Nat.le_refl _) o) (Nat.le_refl _)
theorem PaC.drewN (h : PaC E w q s st d) (n : Nat) : PaC E (w.drewN n) q s st d := h.below (below_drewN (Below.refl w.heap.size w) n) (Nat.le_refl _)
/-- Kept, where another block is written. -/
theorem PaC.other (h : PaC E w q s st d) {z : Nat} (hg : w.grownBy w' (some z)) (hne : z ≠ q) (hz : ∃ k v, w.cell? ⟨z, 1, none⟩ = some (.int k v)) : PaC E w' q s st d := by
  obtain ⟨ev, hc, he⟩ := h.ex
  exact ⟨⟨ev, hc.kept hg (fun e => hne (Option.some.inj e)), he.kept hg hz⟩, h.ord, h.top, h.size⟩
end
/-- One part of the parser, function g, inside d: what it is called with, what it leaves. -/
def PartC (E : Int → Option Addr) (W : World) (q : Nat) (s : ByteArray) (g d : Nat) (f : Co.St → Co.Out) : Prop :=
  ∀ st e st', f st = some (e, st') → ∀ w, Below W.heap.size W w → PaC E w q s st d →
    Calls Tryz.prog g #[.pointer (some ⟨q, 0, none⟩)] w fun x w' => (∃ y, x = .returned (Ex.val y) ∧ At w' (fun b => w.heap.size ≤ b) e y) ∧ PaC E w' q s st' d ∧ w.grownBy w' (some q)
end Go.Proofs.YtddedbpbenkdoaaGreatDoor
namespace Go.Proofs.YtddedbpbenkdoaaGreatDoor
open Go.RowKit

/-- The type 'error' as errors.As holds it. -/
def ErrTy (w : World) : Prop := w.cell? ⟨6, 0, none⟩ = some (.iface 129 (.agg #[.pointer (some ⟨26, 33, none⟩)]))
theorem ErrTy.below {w w' : World} (h : ErrTy w) (hb : Below w.heap.size w w') : ErrTy w' := below_cells hb h
set_option maxHeartbeats 800000 in
theorem wop_nil (w : World) : Calls Tryz.prog 38 #[.nilIface] w fun e w' => e = .returned .nilIface ∧ Below w.heap.size w w' := by
  have HB := Lib.hid ((Below.refl w.heap.size w).alloc (Nat.le_refl _) (.cells #[.pointer none] 54))
  go_enter Tryz.func38, Tryz.ntmps38
  go_wp2_with (go_at_call 53; refine (as_nil _ _).mono ?_; rintro e w' ⟨rfl, rfl⟩)
  go_ret
  exact ⟨rfl, HB.out⟩
set_option maxHeartbeats 1600000 in
theorem wop_at (w : World) (b : Nat) (k : Int) (v : Value) (hT : ErrTy w) (hb : w.heap[b]? = some (.cells #[.int .i64 k, v] 56 (0, 0))) :
    Calls Tryz.prog 38 #[.iface 54 (.pointer (some ⟨b, 0, none⟩))] w fun e w' => e = .returned v ∧ Below w.heap.size w w' := by
  have hbl : b < w.heap.size := blk_lt hb
  have hba : Below w.heap.size w (w.alloc (.cells #[.pointer none] 54)) := (Below.refl w.heap.size w).alloc (Nat.le_refl _) _
  have hTa := hT.below hba
  have hta : (w.alloc (.cells #[.pointer none] 54)).cell? ⟨w.heap.size, 0, none⟩ = some (.pointer none) := by simp
  have hfa : (w.alloc (.cells #[.pointer none] 54)).frozen? ⟨w.heap.size, 0, none⟩ = false := by simp
  have hb1 : (w.alloc (.cells #[.pointer none] 54)).heap[b]? = some (.cells #[.int .i64 k, v] 56 (0, 0)) := (hba.block b hbl).trans hb
  have HH := Lib.hid (as_hit ⟨b, 0, none⟩ ⟨w.heap.size, 0, none⟩ (.pointer none) _ hTa hta hfa)
  have HBA := Lib.hid hba
  have HB1 := Lib.hid hb1
  have hw1 : w.heap.size < (w.alloc (.cells #[.pointer none] 54)).heap.size := by simp
  clear hT hb hba hTa hta hfa hb1
  go_enter Tryz.func38, Tryz.ntmps38
  go_upto_region 2 with (fail)
  generalize hwa : w.alloc _ = wa at *
  go_upto_region 3 with (go_at_call 53; refine HH.out.mono ?_; rintro e w' ⟨rfl, hw'⟩)
  have hbb : Below wa.heap.size wa ((((wa.alloc (.cells #[.pointer (some ⟨w.heap.size, 0, none⟩)] 100)).alloc (.cells #[.pointer (some ⟨26, 100, none⟩), .pointer (some ⟨wa.heap.size, 0, none⟩), .int .u64 150] 115)).alloc (.cells #[.pointer (some ⟨26, 100, none⟩), .pointer (some ⟨wa.heap.size, 0, none⟩), .int .u64 150] 115)).alloc (.cells #[.pointer (some ⟨b, 0, none⟩)] 54)) :=
    ((((Below.refl _ _).alloc (Nat.le_refl _) _).alloc (by simp) _).alloc (by simp; omega) _).alloc (by simp; omega) _
  generalize (((wa.alloc _).alloc _).alloc _).alloc _ = wx at *
  subst hw'
  have hbs := HBA.out.trans ((hbb.mono HBA.out.size).setCell (p := ⟨w.heap.size, 0, none⟩) (Nat.le_refl _) (.pointer (some ⟨b, 0, none⟩)))
  have c0 : (wx.setCell ⟨w.heap.size, 0, none⟩ (.pointer (some ⟨b, 0, none⟩))).cell? ⟨w.heap.size, 0, none⟩ = some (.pointer (some ⟨b, 0, none⟩)) := by
    have h0 : wx.cell? ⟨w.heap.size, 0, none⟩ = some (.pointer none) := (hbb.cell (p := ⟨w.heap.size, 0, none⟩) hw1).trans (by rw [← hwa]; simp)
    exact World.cell?_setCell_same _ _ _ h0
  have c1 : (wx.setCell ⟨w.heap.size, 0, none⟩ (.pointer (some ⟨b, 0, none⟩))).cell? ⟨b, 1, none⟩ = some v := by
    have hne : (⟨w.heap.size, 0, none⟩ : Addr) ≠ ⟨b, 1, none⟩ := by intro h; cases h
    rw [World.cell?_setCell_other _ _ _ _ hne]
    refine (hbb.cell (p := ⟨b, 1, none⟩) (Nat.lt_trans hbl hw1)).trans ?_
    exact cell_of_row wa b 1 #[.int .i64 k, v] 56 (0, 0) HB1.out
  have HBS := Lib.hid hbs
  clear hbb hbs hwa
  generalize wx.setCell _ _ = wy at *
  go_wp2
  go_ret
  exact ⟨rfl, HBS.out⟩
end Go.Proofs.YtddedbpbenkdoaaGreatDoor
namespace Go.Proofs.YtddedbpbenkdoaaGreatDoor
open Go.RowKit

namespace Co
theorem digit_yes {c : UInt8} (h : 48 ≤ (c.toNat : Int) ∧ (c.toNat : Int) ≤ 57) : digit c = true := by unfold digit; simp; omega
theorem digit_no {c : UInt8} (h : ¬ (48 ≤ (c.toNat : Int) ∧ (c.toNat : Int) ≤ 57)) : digit c = false := by
  unfold digit
  rw [Bool.eq_false_iff]
  simp
  omega
theorem trim_digits (l : List UInt8) : (Lib.trimS l [48, 49, 50, 51, 52, 53, 54, 55, 56, 57] = []) ↔ l.all digit = true := by
  have hc : ∀ c : UInt8, ([48, 49, 50, 51, 52, 53, 54, 55, 56, 57] : List UInt8).contains c = digit c := by
    intro c
    have hb := c.toNat_lt
    have h : ∀ k : Fin 256, ([48, 49, 50, 51, 52, 53, 54, 55, 56, 57] : List UInt8).contains (UInt8.ofNat k.val) = digit (UInt8.ofNat k.val) := by decide +kernel
    have := h ⟨c.toNat, hb⟩
    simpa using this
  have hd : ∀ m : List UInt8, m.dropWhile digit = [] ↔ m.all digit = true := by
    intro m
    induction m with
    | nil => simp
    | cons a m ih =>
      cases ha : digit a with
      | true => simpa [List.dropWhile_cons, ha] using ih
      | false => simp [ha]
  unfold Lib.trimS Lib.trimLeftS Lib.trimRightS
  simp only [hc]
  rw [hd, List.all_reverse]
  constructor
  · intro h
    rw [← List.all_reverse]
    have hh : ∀ m : List UInt8, (m.dropWhile digit).all digit = true → m.all digit = true := by
      intro m
      induction m with
      | nil => simp
      | cons a m ih =>
        cases ha : digit a with
        | true => intro h; rw [List.dropWhile_cons_of_pos ha] at h; simp [ha, ih h]
        | false => intro h; rw [List.dropWhile_cons_of_neg (by simp [ha])] at h; exact h
    exact hh _ h
  · intro h
    have : l.reverse.dropWhile digit = [] := (hd _).2 (by rw [List.all_reverse]; exact h)
    rw [this]
    rfl
theorem list_data (s : ByteArray) : s.toList = s.data.toList := by rw [ByteArray.toList_eq]
theorem eq_lit (s : ByteArray) (m : List UInt8) : (s.toList == m) = decide (s.data.toList = m) := by
  rw [list_data, Bool.eq_iff_iff]; simp
theorem of_lit {s : ByteArray} {m : List UInt8} (h : s.data.toList = m) : s = ⟨m.toArray⟩ := by
  subst h
  cases s with
  | mk d => simp
end Co

set_option maxHeartbeats 400000 in
theorem cdigit_any (c : UInt8) (w : World) :
    Calls Tryz.prog 86 #[.int .u8 (c.toNat : Int)] w fun e w' => e = .returned (.bool (Co.digit c)) ∧ w = w' := by
  have hc := c.toNat_lt
  go_enter Tryz.func86, Tryz.ntmps86
  go_wp2
  all_goals
    go_ret
    refine ⟨ret_bool ?_, rfl⟩
    first
      | exact (Co.digit_yes (by omega)).symm
      | exact (Co.digit_no (by omega)).symm
      | (unfold Co.digit; rw [Bool.eq_iff_iff]; simp; omega)
set_option maxHeartbeats 800000 in
theorem cword_any (c : UInt8) (w : World) :
    Calls Tryz.prog 75 #[.int .u8 (c.toNat : Int)] w fun e w' => e = .returned (.bool (Co.ofWord c)) ∧ w = w' := by
  have hc := c.toNat_lt
  have hd := cdigit_any c
  have hw : Co.ofWord c = ((decide (97 ≤ c.toNat) && decide (c.toNat ≤ 122)) || Co.digit c || decide (c.toNat = 95)) := rfl
  have hn : Co.digit c = true → ¬ (97 ≤ c.toNat) := by unfold Co.digit; simp; omega
  have HW := Lib.hid hw
  have HN := Lib.hid hn
  clear hw hn
  generalize Co.ofWord c = r at *
  cases hq : Co.digit c with
  | true =>
    rw [hq] at hd HW
    have HQ := Lib.hid (HN.out hq)
    clear hq HN
    go_enter Tryz.func75, Tryz.ntmps75
    go_wp2_with (go_at_call 86; refine (hd _).mono ?_; rintro e w' ⟨rfl, rfl⟩)
    all_goals
      go_ret
      refine ⟨ret_bool ?_, rfl⟩
      have h1 := HW.out
      have h2 := HQ.out
      rw [h1]
      first
        | (simp; done)
        | (rw [Bool.eq_iff_iff]; simp; omega)
  | false =>
    rw [hq] at hd HW
    clear hq HN
    go_enter Tryz.func75, Tryz.ntmps75
    go_wp2_with (go_at_call 86; refine (hd _).mono ?_; rintro e w' ⟨rfl, rfl⟩)
    all_goals
      go_ret
      refine ⟨ret_bool ?_, rfl⟩
      have h1 := HW.out
      rw [h1]
      first
        | (rw [Bool.eq_iff_iff]; simp; omega)
        | (rw [Bool.eq_iff_iff]; simp; done)
end Go.Proofs.YtddedbpbenkdoaaGreatDoor
namespace Go.Proofs.YtddedbpbenkdoaaGreatDoor
open Go.RowKit

theorem ret_nat {k : IntKind} {a b : Nat} (h : a = b) : Ending.returned (.int k (a : Int)) = .returned (.int k (b : Int)) := by rw [h]
theorem Co.kind_mark {t : List UInt8} (h : t = [111, 114] ∨ t = [97, 110, 100] ∨ t = [110, 111, 116]) : Co.kindOf t = 6 := if_pos h
section
variable {t : List UInt8}
theorem Co.kind_num (h : ¬ (t = [111, 114] ∨ t = [97, 110, 100] ∨ t = [110, 111, 116])) (h2 : ¬ (t = [116, 114, 117, 101] ∨ t = [102, 97, 108, 115, 101])) (h3 : t.length ≤ 9) (h4 : t.all Co.digit = true) : Co.kindOf t = 2 := by
  unfold Co.kindOf; rw [if_neg h, if_neg h2, if_pos ⟨h3, h4⟩]
theorem Co.kind_rest (h : ¬ (t = [111, 114] ∨ t = [97, 110, 100] ∨ t = [110, 111, 116])) (h2 : ¬ (t = [116, 114, 117, 101] ∨ t = [102, 97, 108, 115, 101])) (h3 : ¬ (t.length ≤ 9 ∧ t.all Co.digit = true)) :
    Co.kindOf t = if Co.digit t[0]! = false ∧ t[0]! ≠ 95 ∧ Vr.name t = true then 5 else 0 := by
  unfold Co.kindOf; rw [if_neg h, if_neg h2, if_neg h3]
end

set_option maxHeartbeats 1600000 in
theorem ckind_any (s : ByteArray) (w : World) (h0 : 0 < s.size) (h80 : s.size ≤ 80) :
    Calls Tryz.prog 76 #[.string s] w fun e w' => e = .returned (.int .i64 (Co.kindOf s.data.toList : Int)) ∧ Below w.heap.size w w' := by
  by_cases m1 : s.data.toList = [111, 114]
  · obtain rfl := Co.of_lit m1
    clear m1 h0 h80
    go_enter Tryz.func76, Tryz.ntmps76
    go_wp2
    go_ret
    exact ⟨rfl, Below.refl _ _⟩
  by_cases m2 : s.data.toList = [97, 110, 100]
  · obtain rfl := Co.of_lit m2
    clear m1 m2 h0 h80
    go_enter Tryz.func76, Tryz.ntmps76
    go_wp2
    go_ret
    exact ⟨rfl, Below.refl _ _⟩
  by_cases m3 : s.data.toList = [110, 111, 116]
  · obtain rfl := Co.of_lit m3
    clear m1 m2 m3 h0 h80
    go_enter Tryz.func76, Tryz.ntmps76
    go_wp2
    go_ret
    exact ⟨rfl, Below.refl _ _⟩
  by_cases m4 : s.data.toList = [116, 114, 117, 101]
  · obtain rfl := Co.of_lit m4
    clear m1 m2 m3 m4 h0 h80
    go_enter Tryz.func76, Tryz.ntmps76
    go_wp2
    go_ret
    exact ⟨rfl, Below.refl _ _⟩
  by_cases m5 : s.data.toList = [102, 97, 108, 115, 101]
  · obtain rfl := Co.of_lit m5
    clear m1 m2 m3 m4 m5 h0 h80
    go_enter Tryz.func76, Tryz.ntmps76
    go_wp2
    go_ret
    exact ⟨rfl, Below.refl _ _⟩
  have M1 : ¬ (s.data.toList = [111, 114] ∨ s.data.toList = [97, 110, 100] ∨ s.data.toList = [110, 111, 116]) := by simp [m1, m2, m3]
  have M2 : ¬ (s.data.toList = [116, 114, 117, 101] ∨ s.data.toList = [102, 97, 108, 115, 101]) := by simp [m4, m5]
  have b1 : (s.toList == [111, 114]) = false := by rw [Co.eq_lit]; simpa using m1
  have b2 : (s.toList == [97, 110, 100]) = false := by rw [Co.eq_lit]; simpa using m2
  have b3 : (s.toList == [110, 111, 116]) = false := by rw [Co.eq_lit]; simpa using m3
  have b4 : (s.toList == [116, 114, 117, 101]) = false := by rw [Co.eq_lit]; simpa using m4
  have b5 : (s.toList == [102, 97, 108, 115, 101]) = false := by rw [Co.eq_lit]; simpa using m5
  have K2 := Lib.hid (@Co.kind_num s.data.toList M1 M2)
  have K3 := Lib.hid (@Co.kind_rest s.data.toList M1 M2)
  clear m1 m2 m3 m4 m5 M1 M2
  have hl : s.data.toList.length = s.size := by simp
  have hs0 : s.data.toList[0]! = s[0] := by
    rw [getElem!_pos s.data.toList 0 (by omega)]
    simp [ByteArray.getElem_eq_getElem_data]
  have hD := fun W => cdigit_any s[0] W
  have hN := fun W => name_any s W (by omega)
  have hT : ∀ W, Calls Tryz.prog 87 #[.string s, .string ⟨#[48, 49, 50, 51, 52, 53, 54, 55, 56, 57]⟩] W fun e w' => e = .returned (.string ⟨(Lib.trimS s.data.toList [48, 49, 50, 51, 52, 53, 54, 55, 56, 57]).toArray⟩) ∧ Below W.heap.size W w' :=
    fun W => Any.strings_Trim_laid shLays160 (by kernel_rfl) s ⟨#[48, 49, 50, 51, 52, 53, 54, 55, 56, 57]⟩ W (by omega) (by decide) (ascii_of_all (by decide))
  obtain ⟨tr, htr⟩ : ∃ tr : ByteArray, tr = ⟨(Lib.trimS s.data.toList [48, 49, 50, 51, 52, 53, 54, 55, 56, 57]).toArray⟩ := ⟨_, rfl⟩
  rw [← htr] at hT
  have hte : (tr.toList == []) = s.data.toList.all Co.digit := by
    rw [Co.eq_lit, htr, Bool.eq_iff_iff]
    simpa using Co.trim_digits s.data.toList
  have HD := Lib.hid hD
  have HN := Lib.hid hN
  have HT := Lib.hid hT
  have h0' : (0 : Int) < (s.size : Int) := by omega
  clear htr hD hN hT
  have HL := Lib.hid hl
  have HS := Lib.hid hs0
  clear hl hs0
  have hdc : Co.digit s[0] = true ∨ Co.digit s[0] = false := by cases Co.digit s[0] <;> simp
  have h95 : s[0] = 95 ∨ ¬ (s[0].toNat : Int) = 95 := by
    by_cases e : s[0] = 95
    · exact .inl e
    · exact .inr (fun h => e (UInt8.toNat_inj.1 (by simp; omega)))
  have hnm : Vr.name s.data.toList = true ∨ Vr.name s.data.toList = false := by cases Vr.name s.data.toList <;> simp
  by_cases h9 : s.size ≤ 9
  · have h9' : (s.size : Int) ≤ 9 := by omega
    cases hall : s.data.toList.all Co.digit with
    | true =>
      rw [hall] at hte
      have HA := Lib.hid (K2.out (by rw [HL.out]; exact h9) hall)
      clear hall h9 hdc h95 hnm
      go_enter Tryz.func76, Tryz.ntmps76
      go_wp2_with (go_at_call 87; refine (HT.out _).mono ?_; rintro e w' ⟨rfl, hb⟩)
      go_ret
      rw [HA.out]
      exact ⟨rfl, hb⟩
    | false =>
      rw [hall] at hte
      have HA := Lib.hid (K3.out (by rw [hall]; simp))
      clear hall h9
      rcases hdc with hd | hd
      · have HA2 : Hid (Co.kindOf s.data.toList = 0) := by
          have := HA.out
          rw [HS.out, hd] at this
          exact this
        rw [hd] at HD
        clear hd h95 hnm HA
        go_enter Tryz.func76, Tryz.ntmps76
        go_wp2_with (first | (go_at_call 87; refine (HT.out _).mono ?_; rintro e w' ⟨rfl, hb⟩) | (go_at_call 86; refine (HD.out _).mono ?_; rintro e w' ⟨rfl, rfl⟩) | (go_at_call 18; refine (HN.out _).mono ?_; rintro e w' ⟨rfl, rfl⟩))
        go_ret
        rw [HA2.out]
        exact ⟨rfl, hb⟩
      · rcases h95 with h95 | h95
        · have HA2 : Hid (Co.kindOf s.data.toList = 0) := by
            have h := HA.out
            rw [HS.out, h95, if_neg (by simp)] at h
            exact h
          rw [hd] at HD
          have hx : ((s[0].toNat : Int) != 95) = false := by rw [h95]; rfl
          clear hd hnm HA h95
          go_enter Tryz.func76, Tryz.ntmps76
          go_wp2_with (first | (go_at_call 87; refine (HT.out _).mono ?_; rintro e w' ⟨rfl, hb⟩) | (go_at_call 86; refine (HD.out _).mono ?_; rintro e w' ⟨rfl, rfl⟩) | (go_at_call 18; refine (HN.out _).mono ?_; rintro e w' ⟨rfl, rfl⟩))
          go_ret
          rw [HA2.out]
          exact ⟨rfl, hb⟩
        · have n95 : s[0] ≠ 95 := fun e => h95 (by rw [e]; rfl)
          rcases hnm with hnm | hnm
          · have HA2 : Hid (Co.kindOf s.data.toList = 5) := by
              have h := HA.out
              rw [HS.out, if_pos ⟨hd, n95, hnm⟩] at h
              exact h
            rw [hd] at HD
            rw [hnm] at HN
            clear hd hnm HA n95
            go_enter Tryz.func76, Tryz.ntmps76
            go_wp2_with (first | (go_at_call 87; refine (HT.out _).mono ?_; rintro e w' ⟨rfl, hb⟩) | (go_at_call 86; refine (HD.out _).mono ?_; rintro e w' ⟨rfl, rfl⟩) | (go_at_call 18; refine (HN.out _).mono ?_; rintro e w' ⟨rfl, rfl⟩))
            go_ret
            rw [HA2.out]
            exact ⟨rfl, hb⟩
          · have HA2 : Hid (Co.kindOf s.data.toList = 0) := by
              have h := HA.out
              rw [hnm, if_neg (by simp)] at h
              exact h
            rw [hd] at HD
            rw [hnm] at HN
            clear hd hnm HA n95
            go_enter Tryz.func76, Tryz.ntmps76
            go_wp2_with (first | (go_at_call 87; refine (HT.out _).mono ?_; rintro e w' ⟨rfl, hb⟩) | (go_at_call 86; refine (HD.out _).mono ?_; rintro e w' ⟨rfl, rfl⟩) | (go_at_call 18; refine (HN.out _).mono ?_; rintro e w' ⟨rfl, rfl⟩))
            go_ret
            rw [HA2.out]
            exact ⟨rfl, hb⟩
  · have h9' : 9 < (s.size : Int) := by omega
    have HA := Lib.hid (K3.out (by rw [HL.out]; simp [h9]))
    clear h9
    rcases hdc with hd | hd
    · have HA2 : Hid (Co.kindOf s.data.toList = 0) := by
        have := HA.out
        rw [HS.out, hd] at this
        exact this
      rw [hd] at HD
      clear hd h95 hnm HA
      go_enter Tryz.func76, Tryz.ntmps76
      go_wp2_with (first | (go_at_call 87; refine (HT.out _).mono ?_; rintro e w' ⟨rfl, hb⟩) | (go_at_call 86; refine (HD.out _).mono ?_; rintro e w' ⟨rfl, rfl⟩) | (go_at_call 18; refine (HN.out _).mono ?_; rintro e w' ⟨rfl, rfl⟩))
      go_ret
      rw [HA2.out]
      exact ⟨rfl, Below.refl _ _⟩
    · rcases h95 with h95 | h95
      · have HA2 : Hid (Co.kindOf s.data.toList = 0) := by
          have h := HA.out
          rw [HS.out, h95, if_neg (by simp)] at h
          exact h
        rw [hd] at HD
        have hx : ((s[0].toNat : Int) != 95) = false := by rw [h95]; rfl
        clear hd hnm HA h95
        go_enter Tryz.func76, Tryz.ntmps76
        go_wp2_with (first | (go_at_call 87; refine (HT.out _).mono ?_; rintro e w' ⟨rfl, hb⟩) | (go_at_call 86; refine (HD.out _).mono ?_; rintro e w' ⟨rfl, rfl⟩) | (go_at_call 18; refine (HN.out _).mono ?_; rintro e w' ⟨rfl, rfl⟩))
        go_ret
        rw [HA2.out]
        exact ⟨rfl, Below.refl _ _⟩
      · have n95 : s[0] ≠ 95 := fun e => h95 (by rw [e]; rfl)
        rcases hnm with hnm | hnm
        · have HA2 : Hid (Co.kindOf s.data.toList = 5) := by
            have h := HA.out
            rw [HS.out, if_pos ⟨hd, n95, hnm⟩] at h
            exact h
          rw [hd] at HD
          rw [hnm] at HN
          clear hd hnm HA n95
          go_enter Tryz.func76, Tryz.ntmps76
          go_wp2_with (first | (go_at_call 87; refine (HT.out _).mono ?_; rintro e w' ⟨rfl, hb⟩) | (go_at_call 86; refine (HD.out _).mono ?_; rintro e w' ⟨rfl, rfl⟩) | (go_at_call 18; refine (HN.out _).mono ?_; rintro e w' ⟨rfl, rfl⟩))
          go_ret
          rw [HA2.out]
          exact ⟨rfl, Below.refl _ _⟩
        · have HA2 : Hid (Co.kindOf s.data.toList = 0) := by
            have h := HA.out
            rw [hnm, if_neg (by simp)] at h
            exact h
          rw [hd] at HD
          rw [hnm] at HN
          clear hd hnm HA n95
          go_enter Tryz.func76, Tryz.ntmps76
          go_wp2_with (first | (go_at_call 87; refine (HT.out _).mono ?_; rintro e w' ⟨rfl, hb⟩) | (go_at_call 86; refine (HD.out _).mono ?_; rintro e w' ⟨rfl, rfl⟩) | (go_at_call 18; refine (HN.out _).mono ?_; rintro e w' ⟨rfl, rfl⟩))
          go_ret
          rw [HA2.out]
          exact ⟨rfl, Below.refl _ _⟩
end Go.Proofs.YtddedbpbenkdoaaGreatDoor
