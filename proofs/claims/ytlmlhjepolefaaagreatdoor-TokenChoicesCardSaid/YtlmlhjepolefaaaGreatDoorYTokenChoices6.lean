/- Walks of package cond: what a condition with parts comes to. The walks of the statements on package token: what each asks first; boards at hand. -/
import Derived.Test.YtlmlhjepolefaaaGreatDoorEeY
import Derived.Test.YtlmlhjepolefaaaGreatDoorZnY
namespace Go.Proofs.YtlmlhjepolefaaaGreatDoor
open Go.RowKit

/-- What Eval answers of the condition t, wherever it lies. -/
def EvalC (E : Int → Option Addr) (V : World) (A : Option Addr) (n c : Nat) (l : List Vr.V) (t : Co.Tr) : Prop :=
  ∀ (w : World) (N : Nat → Prop) (x : Ex), Below V.heap.size V w → At w N t x → Calls Tryz.prog 64 #[x.val, .slice A n c] w
    fun r w' => (∃ e, r = .returned (.tuple #[(Co.ev l t).2.val, e]) ∧ SeenBy E e (Co.ev l t).1) ∧ Below w.heap.size w w'
section
variable {E : Int → Option Addr} {V w : World} {A : Option Addr} {n c : Nat} {l : List Vr.V} {t : Co.Tr}
theorem Ex.lit (w : World) (x : Ex) : Cel (w.alloc (.cells #[.int .i64 x.op, .int .i64 x.kind, .int .i64 x.num, .string x.txt, .string x.name, .slice x.A x.n x.c] 112)) w.heap.size x.list := Cel.lit w _ _
set_option maxHeartbeats 1600000 in
theorem eholds_any (hE : CoErrsE V E) (hT : EvalC E V A n c l t) (N : Nat → Prop) (x : Ex) (hb : Below V.heap.size V w) (ha : At w N t x) :
    Calls Tryz.prog 78 #[x.val, .slice A n c] w fun r w' => (∃ e, r = .returned (.tuple #[.bool (Co.hold (Co.ev l t)).2, e]) ∧ SeenBy E e (Co.hold (Co.ev l t)).1) ∧ Below w.heap.size w w' := by
  have hb1 : Below w.heap.size w (w.alloc (.cells #[.int .i64 x.op, .int .i64 x.kind, .int .i64 x.num, .string x.txt, .string x.name, .slice x.A x.n x.c] 112)) := (Below.refl _ _).alloc (Nat.le_refl _) _
  have HT := Lib.hid (hT _ N x (hb.trans (hb1.mono hb.size)) (ha.alloc _))
  have hh : Co.hold (Co.ev l t) = if (Co.ev l t).1 = 0 then Co.truth (Co.ev l t).2 else ((Co.ev l t).1, false) := rfl
  generalize Co.ev l t = R at *
  obtain ⟨cd, v⟩ := R
  dsimp only at hh HT
  rw [hh]
  have HB1 := Lib.hid hb1
  have HV := Lib.hid hb
  have HE := Lib.hid hE
  clear hb1 hb ha hT hE hh
  unfold Ex.val at *
  by_cases h0 : cd = 0
  · subst h0
    rw [if_pos rfl]
    go_enter Tryz.func78, Tryz.ntmps78
    go_wp2_with fail
    refine HT.out.mono ?_
    rintro r w1 ⟨⟨e, rfl, hs⟩, hb2⟩
    obtain rfl := seen_nil hs
    have hbw : Below w.heap.size w w1 := HB1.out.trans (hb2.mono HB1.out.size)
    have hb3 : Below w1.heap.size w1 (w1.alloc (.cells #[.int .i64 v.kind, .int .i64 v.num, .string v.txt] 50)) := (Below.refl _ _).alloc (Nat.le_refl _) _
    have hb4 := hbw.trans (hb3.mono hbw.size)
    have HX := Lib.hid (etruth_any HE.out (HV.out.trans (hb4.mono HV.out.size)) v)
    have HB4 := Lib.hid hb4
    clear hs hb2 hbw hb3 hb4
    unfold Vl.val at *
    go_wp2_with fail
    refine HX.out.mono ?_
    rintro r w5 ⟨⟨e, rfl, hs⟩, hb5⟩
    have HBF := Lib.hid (HB4.out.trans (hb5.mono HB4.out.size))
    have HS := Lib.hid hs
    clear hs hb5
    go_wp2
    go_ret2
    exact ⟨⟨_, rfl, HS.out⟩, HBF.out⟩
  · rw [if_neg h0]
    have H0 := Lib.hid h0
    clear h0
    go_enter Tryz.func78, Tryz.ntmps78
    go_wp2_with fail
    refine HT.out.mono ?_
    rintro r w1 ⟨⟨e, rfl, hs⟩, hb2⟩
    obtain ⟨a, rfl, hka⟩ := seen_err hs H0.out
    have HBF := Lib.hid ((HB1.out.trans (hb2.mono HB1.out.size)).alloc (Nat.le_trans HB1.out.size hb2.size) (.cells #[.int .i64 v.kind, .int .i64 v.num, .string v.txt] 50))
    have HKA := Lib.hid hka
    clear hs hb2 hka
    unfold errV Vl.val
    go_wp2
    go_ret2
    exact ⟨⟨_, rfl, .err _ a HKA.out H0.out⟩, HBF.out⟩
end
end Go.Proofs.YtlmlhjepolefaaaGreatDoor
namespace Go.Proofs.YtlmlhjepolefaaaGreatDoor
open Go.RowKit

namespace Pr
def bd0 (k : Int) : Bd := ⟨⟨⟨#[]⟩, [], []⟩, [], [], k⟩
def bv0 (k : Int) : BdV := ⟨⟨#[]⟩, none, 0, 0, none, 0, 0, none, 0, 0, none, 0, 0, k⟩
theorem bv0_in (w : World) (B : Nat) (k : Int) : BdIn w B (bv0 k) (bd0 k) :=
  ⟨rfl, rfl, KRow.nil _ _ _, KRow.nil _ _ _, KRow.nil _ _ _, KRow.nil _ _ _, fun _ => ⟨rfl, rfl⟩, fun _ => ⟨rfl, rfl⟩, fun _ => ⟨rfl, rfl⟩, fun _ => ⟨rfl, rfl⟩⟩
theorem bd0_few {k : Int} (h0 : 0 ≤ k) (h1 : k ≤ 10) : (bd0 k).Few := ⟨Nat.zero_le _, Nat.zero_le _, Nat.zero_le _, Nat.zero_le _, by show (-1000000000 : Int) ≤ k; omega, by show k ≤ (1000000000 : Int); omega⟩
set_option maxHeartbeats 1600000 in
theorem tfirst_any (w : World) : Calls Tryz.prog 7 #[] w fun e w' => e = .returned (.bool true) ∧ Below w.heap.size w w' := by
  have hb0 : Below w.heap.size w (w.alloc (.cells #[.int .i64 9, .int .i64 2, .int .i64 0, .bool false] 34)) := (Below.refl _ _).alloc (Nat.le_refl _) _
  have HR := Lib.hid (KRow.lit (κ := Tk.κ) w 34 [⟨9, 2, 0, false⟩] #[.int .i64 9, .int .i64 2, .int .i64 0, .bool false] rfl)
  have HB0 := Lib.hid hb0
  have HP := Lib.hid (put_any (bv0 1) (bd0 1) (some ⟨w.heap.size, 0, none⟩) 1 1 [⟨9, 2, 0, false⟩] _ (bv0_in _ _ 1) (bd0_few (by decide) (by decide)) (HR.out.mono (by simp)) (by decide))
  have HY := Lib.hid (fun W => ready_any 0 (bv0 0) (bd0 0) W (bv0_in _ _ 0) (bd0_few (by decide) (by decide)) List.Pairwise.nil)
  have hput : (bd0 1).put [⟨9, 2, 0, false⟩] = ⟨⟨⟨#[]⟩, [], []⟩, [], [⟨1, 2, 0, false⟩], 2⟩ := rfl
  rw [hput] at HP
  unfold BdV.val bv0 at HP HY
  dsimp only at HP HY
  clear hb0 hput
  go_enter Tryz.func7, Tryz.ntmps7
  go_upto_region 2 with (go_at_call 12; refine HP.out.mono ?_; rintro e w1 ⟨⟨⟨ys, yA, yn, yc, yF, ym, yd, yV, ynv, ycv, yT, ynt, yct, yk⟩, rfl, hO⟩, hb1⟩; dsimp only [BdV.val])
  have hk : yk = 2 := hO.k
  have ht : ynt = 1 := hO.inn.ht
  subst hk ht
  obtain ⟨g, hg, _, _⟩ := hO.toks.some_of (show 0 < 1 by decide)
  dsimp only at hg
  subst hg
  obtain ⟨t0, _, _, _⟩ := tk_at (j := 0) hO.toks.row (show 0 < 1 by decide)
  have HO := Lib.hid (Cel.lit w1 #[.string ys, .slice yA yn yc, .slice yF ym yd, .slice yV ynv ycv, .slice (some ⟨g, 0, none⟩) 1 yct, .int .i64 2] 38)
  have hb2 : Below w1.heap.size w1 (w1.alloc (.cells #[.string ys, .slice yA yn yc, .slice yF ym yd, .slice yV ynv ycv, .slice (some ⟨g, 0, none⟩) 1 yct, .int .i64 2] 38)) := (Below.refl _ _).alloc (Nat.le_refl _) _
  have t0' := below_cells hb2 t0
  have hb3 := hb1.trans (hb2.mono hb1.size)
  have HB2 := Lib.hid (HB0.out.trans (hb3.mono HB0.out.size))
  clear t0 hb2 hb3 hb1 hO HP HR
  have HT := Lib.hid t0'
  generalize w1.alloc _ = w2 at *
  generalize w1.heap.size = q at *
  have HY2 := Lib.hid (HY.out w2)
  have hrd : ∀ r : Bool, (r = true ↔ Rdy (bd0 0) 0) → r = false := fun r h => by
    cases r with
    | false => rfl
    | true => obtain ⟨k, _, hk, _⟩ := h.1 rfl; exact absurd hk (Nat.not_lt_zero _)
  have HRD := Lib.hid hrd
  clear HY t0' hrd
  obtain ⟨⟨z0, z1, z2, z3, z4, z5⟩, _⟩ := six_facts HO.out
  go_wp2_with (go_at_call 10; refine HY2.out.mono ?_; rintro e w3 ⟨⟨r, rfl, hr⟩, hb3⟩; obtain rfl := HRD.out r hr; have HB3 := Lib.hid (HB2.out.trans (hb3.mono HB2.out.size)); have t1 := below_cells hb3 HT.out; obtain ⟨⟨d0, d1, d2, d3, d4, d5⟩, _⟩ := six_facts (HO.out.below hb3 (Nat.le_refl _)); clear hb3 hr)
  go_ret
  exact ⟨rfl, HB3.out⟩
end Pr
end Go.Proofs.YtlmlhjepolefaaaGreatDoor
