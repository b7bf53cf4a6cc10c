/- Walks of package cond: Holds; what the walks of the statements ask first. -/
import Derived.Test.YtpjdbccndlbbhaaGreatDoorCv
import Derived.Test.YtpjdbccndlbbhaaGreatDoorPe
namespace Go.Proofs.YtpjdbccndlbbhaaGreatDoor
open Go.RowKit

section
variable {E : Int → Option Addr} {V w : World} {A : Option Addr} {n c : Nat} {l : List Vr.V}
/-- A text that Parse takes, which Eval may be asked of. -/
structure Co.Tx.Fit (x : Co.Tx) : Prop where
  ok : x.ok
  wf : Co.wf x.t = true
  lite : Co.lite x.t = true
  len : x.s.length ≤ 80
/-- Variables that Eval may be asked with. -/
structure VarsC (V : World) (A : Option Addr) (n : Nat) (l : List Vr.V) : Prop where
  row : VRow V V.heap.size A n l
  n : n ≤ 9223372036854775807
  lite : ∀ v ∈ l, v.text.size ≤ 80
theorem cpars_any {W : World} (hE : CoErrs W E) (hb : Below W.heap.size W w) (x : Co.Tx) (hx : x.Fit) :
    Calls Tryz.prog 11 #[.string ⟨x.s.toArray⟩] w fun r w' => (∃ y, r = .returned (.tuple #[Ex.val y, .nilIface]) ∧ At w' (fun b => w.heap.size ≤ b) x.t y) ∧ Below w.heap.size w w' := by
  have hsz : (⟨x.s.toArray⟩ : ByteArray).size ≤ 80 := by have := hx.len; simpa [ByteArray.size] using this
  refine (cparse_any hE hb hsz x.t none (by have := hx.ok; unfold Co.Tx.ok at this; simpa using this)).mono ?_
  rintro r w' ⟨⟨y, ev, rfl, ha, he⟩, hb'⟩
  obtain rfl : ev = .nilIface := he
  exact ⟨⟨y, rfl, ha⟩, hb'⟩
theorem ceval_any (hE : CoErrs V E) (hV : VarsC V A n l) (x : Co.Tx) (hx : x.Fit) : EvalC E V A n c l x.t :=
  eval_any hE hV.row hV.n hV.lite x.t hx.wf hx.lite
set_option maxHeartbeats 1600000 in
theorem cholds_any (hE : CoErrs V E) (hV : VarsC V A n l) (x : Co.Tx) (hx : x.Fit) (hb : Below V.heap.size V w) :
    Calls Tryz.prog 10 #[.string ⟨x.s.toArray⟩, .slice A n c] w fun r w' => (∃ e, r = .returned (.tuple #[.bool (Co.hold (Co.ev l x.t)).2, e]) ∧ SeenBy E e (Co.hold (Co.ev l x.t)).1) ∧ Below w.heap.size w w' := by
  have HP := Lib.hid (cpars_any hE hb x hx)
  have HT := Lib.hid (ceval_any (c := c) hE hV x hx)
  have hh : Co.hold (Co.ev l x.t) = if (Co.ev l x.t).1 = 0 then Co.truth (Co.ev l x.t).2 else ((Co.ev l x.t).1, false) := rfl
  unfold EvalC at HT
  generalize Co.ev l x.t = R at *
  obtain ⟨cd, v⟩ := R
  dsimp only at hh HT
  rw [hh]
  have HV := Lib.hid hb
  have HE := Lib.hid hE
  clear hb hE hh hV hx
  by_cases h0 : cd = 0
  · subst h0
    rw [if_pos rfl]
    go_enter Tryz.func10, Tryz.ntmps10
    go_wp2_with fail
    refine HP.out.mono ?_
    rintro r w1 ⟨⟨y, rfl, hat⟩, hb1⟩
    have hb1a : Below w.heap.size w (w1.alloc (.cells #[.int .i64 y.op, .int .i64 y.kind, .int .i64 y.num, .string y.txt, .string y.name, .slice y.A y.n y.c] 39)) := hb1.alloc hb1.size _
    have HX := Lib.hid (HT.out _ _ y (HV.out.trans (hb1a.mono HV.out.size)) (hat.alloc _))
    have HZ := Lib.hid (Ex.lit w1 y)
    obtain ⟨⟨x0, x1, x2, x3, x4, x5⟩, _⟩ := HZ.out.six_of
    have hlx : w1.heap.size < (w1.alloc (.cells #[.int .i64 y.op, .int .i64 y.kind, .int .i64 y.num, .string y.txt, .string y.name, .slice y.A y.n y.c] 39)).heap.size := HZ.out.lt
    have HB1 := Lib.hid hb1a
    clear hat hb1 hb1a
    unfold Ex.val at *
    go_wp2_with fail
    refine HX.out.mono ?_
    rintro r w2 ⟨⟨e, rfl, hs⟩, hb2⟩
    obtain rfl := seen_nil hs
    have hbw : Below w.heap.size w w2 := HB1.out.trans (hb2.mono HB1.out.size)
    have hb3 : Below w2.heap.size w2 (w2.alloc (.cells #[.int .i64 v.kind, .int .i64 v.num, .string v.txt] 24)) := (Below.refl _ _).alloc (Nat.le_refl _) _
    have hb4 := hbw.trans (hb3.mono hbw.size)
    have HX2 := Lib.hid (etruth_any HE.out (HV.out.trans (hb4.mono HV.out.size)) v)
    have HB4 := Lib.hid hb4
    clear hs hb2 hbw hb3 hb4 x0 x1 x2 x3 x4 x5
    unfold Vl.val at *
    go_wp2_with fail
    refine HX2.out.mono ?_
    rintro r w5 ⟨⟨e, rfl, hs⟩, hb5⟩
    have HBF := Lib.hid (HB4.out.trans (hb5.mono HB4.out.size))
    have HS := Lib.hid hs
    clear hs hb5
    go_wp2
    go_ret2
    exact ⟨⟨_, rfl, HS.out⟩, HBF.out⟩
  · rw [if_neg h0]
    have H0 := Lib.hid h0
    clear h0
    go_enter Tryz.func10, Tryz.ntmps10
    go_wp2_with fail
    refine HP.out.mono ?_
    rintro r w1 ⟨⟨y, rfl, hat⟩, hb1⟩
    have hb1a : Below w.heap.size w (w1.alloc (.cells #[.int .i64 y.op, .int .i64 y.kind, .int .i64 y.num, .string y.txt, .string y.name, .slice y.A y.n y.c] 39)) := hb1.alloc hb1.size _
    have HX := Lib.hid (HT.out _ _ y (HV.out.trans (hb1a.mono HV.out.size)) (hat.alloc _))
    have HZ := Lib.hid (Ex.lit w1 y)
    obtain ⟨⟨x0, x1, x2, x3, x4, x5⟩, _⟩ := HZ.out.six_of
    have hlx : w1.heap.size < (w1.alloc (.cells #[.int .i64 y.op, .int .i64 y.kind, .int .i64 y.num, .string y.txt, .string y.name, .slice y.A y.n y.c] 39)).heap.size := HZ.out.lt
    have HB1 := Lib.hid hb1a
    clear hat hb1 hb1a
    unfold Ex.val at *
    go_wp2_with fail
    refine HX.out.mono ?_
    rintro r w2 ⟨⟨e, rfl, hs⟩, hb2⟩
    obtain ⟨a, rfl, hka⟩ := seen_err hs H0.out
    have HBF := Lib.hid ((HB1.out.trans (hb2.mono HB1.out.size)).alloc (Nat.le_trans HB1.out.size hb2.size) (.cells #[.int .i64 v.kind, .int .i64 v.num, .string v.txt] 24))
    have HKA := Lib.hid hka
    clear hs hb2 hka x0 x1 x2 x3 x4 x5
    unfold errV Vl.val
    go_wp2
    go_ret2
    exact ⟨⟨_, rfl, .err _ a HKA.out H0.out⟩, HBF.out⟩
end
theorem VarsC.nil (V : World) : VarsC V none 0 [] := ⟨VRow.nil _ _ _, by decide, by simp⟩
theorem txF_fit : Co.txF.Fit := ⟨Co.txF_ok, rfl, rfl, by decide⟩
theorem cfirst_any {E : Int → Option Addr} {W w : World} (hE : CoErrs W E) (hb : Below W.heap.size W w) :
    Calls Tryz.prog 8 #[] w fun r w' => r = .returned (.bool true) ∧ Below w.heap.size w w' := by
  have h0 := cholds_any (w := w) (c := 0) hE (VarsC.nil W) Co.txF txF_fit hb
  rw [Co.evF] at h0
  have H := Lib.hid h0
  clear h0 hE hb
  go_enter Tryz.func8, Tryz.ntmps8
  go_wp2_with fail
  refine H.out.mono ?_
  rintro r w1 ⟨⟨e, rfl, hs⟩, hb1⟩
  obtain rfl := seen_nil hs
  have HB := Lib.hid hb1
  clear hs hb1
  go_wp2
  go_ret
  exact ⟨rfl, HB.out⟩
theorem cflag_any (b : Bool) (w : World) :
    Calls Tryz.prog 9 #[.bool b] w fun r w' => r = .returned (.agg #[.int .i64 2, .int .i64 (Co.bn b), .string ⟨#[]⟩]) ∧ Below w.heap.size w w' := by
  cases b with
  | true =>
    have HB := Lib.hid ((Below.refl w.heap.size w).alloc (Nat.le_refl _) (.cells #[.int .i64 2, .int .i64 1, .string ⟨#[]⟩] 24))
    have HL : Hid (Cel (w.alloc (.cells #[.int .i64 2, .int .i64 1, .string ⟨#[]⟩] 24)) w.heap.size (Co.flag true).list) := Cel.lit w _ _
    go_enter Tryz.func9, Tryz.ntmps9
    go_wp2
    generalize w.alloc _ = wf at *
    obtain ⟨⟨k0, k1, k2⟩, _⟩ := HL.out.tri_of
    exact bodyPost_ret (v := Vl.val (Co.flag true)) (by simp [results, Tryz.results9, go_sem, k0, k1, k2, Vl.val]) rfl ⟨rfl, HB.out⟩
  | false =>
    have HB := Lib.hid ((Below.refl w.heap.size w).alloc (Nat.le_refl _) (.cells #[.int .i64 2, .int .i64 0, .string ⟨#[]⟩] 24))
    have HL : Hid (Cel (w.alloc (.cells #[.int .i64 2, .int .i64 0, .string ⟨#[]⟩] 24)) w.heap.size (Co.flag false).list) := Cel.lit w _ _
    go_enter Tryz.func9, Tryz.ntmps9
    go_wp2
    generalize w.alloc _ = wf at *
    obtain ⟨⟨k0, k1, k2⟩, _⟩ := HL.out.tri_of
    exact bodyPost_ret (v := Vl.val (Co.flag false)) (by simp [results, Tryz.results9, go_sem, k0, k1, k2, Vl.val]) rfl ⟨rfl, HB.out⟩
end Go.Proofs.YtpjdbccndlbbhaaGreatDoor
