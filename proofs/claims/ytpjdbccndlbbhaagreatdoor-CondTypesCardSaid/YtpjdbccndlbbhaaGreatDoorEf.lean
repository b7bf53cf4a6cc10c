/- Walks of package cond: what a condition with parts comes to. -/
import Derived.Test.YtpjdbccndlbbhaaGreatDoorEe
namespace Go.Proofs.YtpjdbccndlbbhaaGreatDoor
open Go.RowKit

/-- What Eval answers of the condition t, wherever it lies. -/
def EvalC (E : Int → Option Addr) (V : World) (A : Option Addr) (n c : Nat) (l : List Vr.V) (t : Co.Tr) : Prop :=
  ∀ (w : World) (N : Nat → Prop) (x : Ex), Below V.heap.size V w → At w N t x → Calls Tryz.prog 12 #[x.val, .slice A n c] w
    fun r w' => (∃ e, r = .returned (.tuple #[(Co.ev l t).2.val, e]) ∧ SeenBy E e (Co.ev l t).1) ∧ Below w.heap.size w w'
section
variable {E : Int → Option Addr} {V w : World} {A : Option Addr} {n c : Nat} {l : List Vr.V} {t : Co.Tr}
theorem Ex.lit (w : World) (x : Ex) : Cel (w.alloc (.cells #[.int .i64 x.op, .int .i64 x.kind, .int .i64 x.num, .string x.txt, .string x.name, .slice x.A x.n x.c] 39)) w.heap.size x.list := Cel.lit w _ _
set_option maxHeartbeats 1600000 in
theorem eholds_any (hE : CoErrs V E) (hT : EvalC E V A n c l t) (N : Nat → Prop) (x : Ex) (hb : Below V.heap.size V w) (ha : At w N t x) :
    Calls Tryz.prog 33 #[x.val, .slice A n c] w fun r w' => (∃ e, r = .returned (.tuple #[.bool (Co.hold (Co.ev l t)).2, e]) ∧ SeenBy E e (Co.hold (Co.ev l t)).1) ∧ Below w.heap.size w w' := by
  have hb1 : Below w.heap.size w (w.alloc (.cells #[.int .i64 x.op, .int .i64 x.kind, .int .i64 x.num, .string x.txt, .string x.name, .slice x.A x.n x.c] 39)) := (Below.refl _ _).alloc (Nat.le_refl _) _
  have HT := Lib.hid (hT _ N x (hb.trans (hb1.mono hb.size)) (ha.alloc _))
  have hh : Co.hold (Co.ev l t) = if (Co.ev l t).1 = 0 then Co.truth (Co.ev l t).2 else ((Co.ev l t).1, false) := rfl
  generalize Co.ev l t = R at *
  obtain ⟨cd, v⟩ := R
  dsimp only at hh HT
  rw [hh]
  have HB1 := Lib.hid hb1
  have HV := Lib.hid hb
  have HE := Lib.hid hE
  clear hb1 hb ha hT hE hh
  unfold Ex.val at *
  by_cases h0 : cd = 0
  · subst h0
    rw [if_pos rfl]
    go_enter Tryz.func33, Tryz.ntmps33
    go_wp2_with fail
    refine HT.out.mono ?_
    rintro r w1 ⟨⟨e, rfl, hs⟩, hb2⟩
    obtain rfl := seen_nil hs
    have hbw : Below w.heap.size w w1 := HB1.out.trans (hb2.mono HB1.out.size)
    have hb3 : Below w1.heap.size w1 (w1.alloc (.cells #[.int .i64 v.kind, .int .i64 v.num, .string v.txt] 24)) := (Below.refl _ _).alloc (Nat.le_refl _) _
    have hb4 := hbw.trans (hb3.mono hbw.size)
    have HX := Lib.hid (etruth_any HE.out (HV.out.trans (hb4.mono HV.out.size)) v)
    have HB4 := Lib.hid hb4
    clear hs hb2 hbw hb3 hb4
    unfold Vl.val at *
    go_wp2_with fail
    refine HX.out.mono ?_
    rintro r w5 ⟨⟨e, rfl, hs⟩, hb5⟩
    have HBF := Lib.hid (HB4.out.trans (hb5.mono HB4.out.size))
    have HS := Lib.hid hs
    clear hs hb5
    go_wp2
    go_ret2
    exact ⟨⟨_, rfl, HS.out⟩, HBF.out⟩
  · rw [if_neg h0]
    have H0 := Lib.hid h0
    clear h0
    go_enter Tryz.func33, Tryz.ntmps33
    go_wp2_with fail
    refine HT.out.mono ?_
    rintro r w1 ⟨⟨e, rfl, hs⟩, hb2⟩
    obtain ⟨a, rfl, hka⟩ := seen_err hs H0.out
    have HBF := Lib.hid ((HB1.out.trans (hb2.mono HB1.out.size)).alloc (Nat.le_trans HB1.out.size hb2.size) (.cells #[.int .i64 v.kind, .int .i64 v.num, .string v.txt] 24))
    have HKA := Lib.hid hka
    clear hs hb2 hka
    unfold errV Vl.val
    go_wp2
    go_ret2
    exact ⟨⟨_, rfl, .err _ a HKA.out H0.out⟩, HBF.out⟩
end
end Go.Proofs.YtpjdbccndlbbhaaGreatDoor
