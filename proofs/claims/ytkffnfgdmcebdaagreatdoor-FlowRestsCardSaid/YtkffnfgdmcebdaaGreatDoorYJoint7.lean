/- Walks of package cond: what a condition with parts comes to. Walks of package cond: or, and; not, a sign. The walk of leaseholdmake.Light. -/
import Derived.Test.YtkffnfgdmcebdaaGreatDoorEeY
import Derived.Test.YtkffnfgdmcebdaaGreatDoorYJoint22
import Derived.Test.YtkffnfgdmcebdaaGreatDoorYJoint19
import Derived.Deep.CutRange
namespace Go.Proofs.YtkffnfgdmcebdaaGreatDoor
open Go.RowKit

/-- What Eval answers of the condition t, wherever it lies. -/
def EvalC (E : Int → Option Addr) (V : World) (A : Option Addr) (n c : Nat) (l : List Vr.V) (t : Co.Tr) : Prop :=
  ∀ (w : World) (N : Nat → Prop) (x : Ex), Below V.heap.size V w → At w N t x → Calls Tryz.prog 140 #[x.val, .slice A n c] w
    fun r w' => (∃ e, r = .returned (.tuple #[(Co.ev l t).2.val, e]) ∧ SeenBy E e (Co.ev l t).1) ∧ Below w.heap.size w w'
section
variable {E : Int → Option Addr} {V w : World} {A : Option Addr} {n c : Nat} {l : List Vr.V} {t : Co.Tr}
theorem Ex.lit (w : World) (x : Ex) : Cel (w.alloc (.cells #[.int .i64 x.op, .int .i64 x.kind, .int .i64 x.num, .string x.txt, .string x.name, .slice x.A x.n x.c] 185)) w.heap.size x.list := Cel.lit w _ _
set_option maxHeartbeats 1600000 in
theorem eholds_any (hE : CoErrsE V E) (hT : EvalC E V A n c l t) (N : Nat → Prop) (x : Ex) (hb : Below V.heap.size V w) (ha : At w N t x) :
    Calls Tryz.prog 157 #[x.val, .slice A n c] w fun r w' => (∃ e, r = .returned (.tuple #[.bool (Co.hold (Co.ev l t)).2, e]) ∧ SeenBy E e (Co.hold (Co.ev l t)).1) ∧ Below w.heap.size w w' := by
  have hb1 : Below w.heap.size w (w.alloc (.cells #[.int .i64 x.op, .int .i64 x.kind, .int .i64 x.num, .string x.txt, .string x.name, .slice x.A x.n x.c] 185)) := (Below.refl _ _).alloc (Nat.le_refl _) _
  have HT := Lib.hid (hT _ N x (hb.trans (hb1.mono hb.size)) (ha.alloc _))
  have hh : Co.hold (Co.ev l t) = if (Co.ev l t).1 = 0 then Co.truth (Co.ev l t).2 else ((Co.ev l t).1, false) := rfl
  generalize Co.ev l t = R at *
  obtain ⟨cd, v⟩ := R
  dsimp only at hh HT
  rw [hh]
  have HB1 := Lib.hid hb1
  have HV := Lib.hid hb
  have HE := Lib.hid hE
  clear hb1 hb ha hT hE hh
  unfold Ex.val at *
  by_cases h0 : cd = 0
  · subst h0
    rw [if_pos rfl]
    go_enter Tryz.func157, Tryz.ntmps157
    go_wp2_with fail
    refine HT.out.mono ?_
    rintro r w1 ⟨⟨e, rfl, hs⟩, hb2⟩
    obtain rfl := seen_nil hs
    have hbw : Below w.heap.size w w1 := HB1.out.trans (hb2.mono HB1.out.size)
    have hb3 : Below w1.heap.size w1 (w1.alloc (.cells #[.int .i64 v.kind, .int .i64 v.num, .string v.txt] 94)) := (Below.refl _ _).alloc (Nat.le_refl _) _
    have hb4 := hbw.trans (hb3.mono hbw.size)
    have HX := Lib.hid (etruth_any HE.out (HV.out.trans (hb4.mono HV.out.size)) v)
    have HB4 := Lib.hid hb4
    clear hs hb2 hbw hb3 hb4
    unfold Vl.val at *
    go_wp2_with fail
    refine HX.out.mono ?_
    rintro r w5 ⟨⟨e, rfl, hs⟩, hb5⟩
    have HBF := Lib.hid (HB4.out.trans (hb5.mono HB4.out.size))
    have HS := Lib.hid hs
    clear hs hb5
    go_wp2
    go_ret2
    exact ⟨⟨_, rfl, HS.out⟩, HBF.out⟩
  · rw [if_neg h0]
    have H0 := Lib.hid h0
    clear h0
    go_enter Tryz.func157, Tryz.ntmps157
    go_wp2_with fail
    refine HT.out.mono ?_
    rintro r w1 ⟨⟨e, rfl, hs⟩, hb2⟩
    obtain ⟨a, rfl, hka⟩ := seen_err hs H0.out
    have HBF := Lib.hid ((HB1.out.trans (hb2.mono HB1.out.size)).alloc (Nat.le_trans HB1.out.size hb2.size) (.cells #[.int .i64 v.kind, .int .i64 v.num, .string v.txt] 94))
    have HKA := Lib.hid hka
    clear hs hb2 hka
    unfold errV Vl.val
    go_wp2
    go_ret2
    exact ⟨⟨_, rfl, .err _ a HKA.out H0.out⟩, HBF.out⟩
end
end Go.Proofs.YtkffnfgdmcebdaaGreatDoor
namespace Go.Proofs.YtkffnfgdmcebdaaGreatDoor
open Go.RowKit

section
variable {E : Int → Option Addr} {V w : World} {A : Option Addr} {n c : Nat} {l : List Vr.V} {t t2 : Co.Tr}
theorem cells6 {w : World} {b : Nat} {y : Ex} {cs : Array Value} {T : TypeId} (h : w.heap[b]? = some (.cells cs T (0, 0))) (hc : cs[0]? = some (.int .i64 y.op) ∧ cs[1]? = some (.int .i64 y.kind) ∧ cs[2]? = some (.int .i64 y.num) ∧ cs[3]? = some (.string y.txt) ∧ cs[4]? = some (.string y.name) ∧ cs[5]? = some (.slice y.A y.n y.c)) :
    w.cell? ⟨b, 0, none⟩ = some (.int .i64 y.op) ∧ w.cell? ⟨b, 1, none⟩ = some (.int .i64 y.kind) ∧ w.cell? ⟨b, 2, none⟩ = some (.int .i64 y.num) ∧ w.cell? ⟨b, 3, none⟩ = some (.string y.txt) ∧ w.cell? ⟨b, 4, none⟩ = some (.string y.name) ∧ w.cell? ⟨b, 5, none⟩ = some (.slice y.A y.n y.c) :=
  ⟨(cell_of_row w b 0 _ _ (0, 0) h).trans (hc.1), (cell_of_row w b 1 _ _ (0, 0) h).trans (hc.2.1), (cell_of_row w b 2 _ _ (0, 0) h).trans (hc.2.2.1),
    (cell_of_row w b 3 _ _ (0, 0) h).trans (hc.2.2.2.1), (cell_of_row w b 4 _ _ (0, 0) h).trans (hc.2.2.2.2.1), (cell_of_row w b 5 _ _ (0, 0) h).trans (hc.2.2.2.2.2)⟩
theorem cells12 {w : World} {b : Nat} {y : Ex} {cs : Array Value} {T : TypeId} (h : w.heap[b]? = some (.cells cs T (0, 0))) (hc : cs[6]? = some (.int .i64 y.op) ∧ cs[7]? = some (.int .i64 y.kind) ∧ cs[8]? = some (.int .i64 y.num) ∧ cs[9]? = some (.string y.txt) ∧ cs[10]? = some (.string y.name) ∧ cs[11]? = some (.slice y.A y.n y.c)) :
    w.cell? ⟨b, 6, none⟩ = some (.int .i64 y.op) ∧ w.cell? ⟨b, 7, none⟩ = some (.int .i64 y.kind) ∧ w.cell? ⟨b, 8, none⟩ = some (.int .i64 y.num) ∧ w.cell? ⟨b, 9, none⟩ = some (.string y.txt) ∧ w.cell? ⟨b, 10, none⟩ = some (.string y.name) ∧ w.cell? ⟨b, 11, none⟩ = some (.slice y.A y.n y.c) :=
  ⟨(cell_of_row w b 6 _ _ (0, 0) h).trans (hc.1), (cell_of_row w b 7 _ _ (0, 0) h).trans (hc.2.1), (cell_of_row w b 8 _ _ (0, 0) h).trans (hc.2.2.1),
    (cell_of_row w b 9 _ _ (0, 0) h).trans (hc.2.2.2.1), (cell_of_row w b 10 _ _ (0, 0) h).trans (hc.2.2.2.2.1), (cell_of_row w b 11 _ _ (0, 0) h).trans (hc.2.2.2.2.2)⟩
set_option maxHeartbeats 3200000 in
theorem enot_any (hE : CoErrsE V E) (hT : EvalC E V A n c l t) (N : Nat → Prop) (b : Nat) (y : Ex) (hb : Below V.heap.size V w) (hh : w.heap[b]? = some (.cells #[.int .i64 y.op, .int .i64 y.kind, .int .i64 y.num, .string y.txt, .string y.name, .slice y.A y.n y.c] 185 (0, 0))) (ha : At w N t y) :
    Calls Tryz.prog 151 #[Ex.val ⟨5, 0, 0, ⟨#[]⟩, ⟨#[]⟩, some ⟨b, 0, none⟩, 1, 1⟩, .slice A n c] w fun r w' => (∃ e, r = .returned (.tuple #[(Co.notR (Co.hold (Co.ev l t))).2.val, e]) ∧ SeenBy E e (Co.notR (Co.hold (Co.ev l t))).1) ∧ Below w.heap.size w w' := by
  have HBA : Hid (Below w.heap.size w ((w.alloc (.cells #[.int .i64 5, .int .i64 0, .int .i64 0, .string ⟨#[]⟩, .string ⟨#[]⟩, .slice (some ⟨b, 0, none⟩) 1 1] 185)).alloc (.cells #[.int .i64 0, .int .i64 0, .string ⟨#[]⟩] 94))) := ((Below.refl _ _).alloc (Nat.le_refl _) _).alloc (by simp) _
  have HZ : Hid (Cel ((w.alloc (.cells #[.int .i64 5, .int .i64 0, .int .i64 0, .string ⟨#[]⟩, .string ⟨#[]⟩, .slice (some ⟨b, 0, none⟩) 1 1] 185)).alloc (.cells #[.int .i64 0, .int .i64 0, .string ⟨#[]⟩] 94)) (w.heap.size + 1) Vl.zero.list) := by
    have := Cel.lit (w.alloc (.cells #[.int .i64 5, .int .i64 0, .int .i64 0, .string ⟨#[]⟩, .string ⟨#[]⟩, .slice (some ⟨b, 0, none⟩) 1 1] 185)) #[.int .i64 0, .int .i64 0, .string ⟨#[]⟩] 94
    rwa [show (w.alloc (.cells #[.int .i64 5, .int .i64 0, .int .i64 0, .string ⟨#[]⟩, .string ⟨#[]⟩, .slice (some ⟨b, 0, none⟩) 1 1] 185)).heap.size = w.heap.size + 1 from by simp] at this
  have HX : Hid (Cel ((w.alloc (.cells #[.int .i64 5, .int .i64 0, .int .i64 0, .string ⟨#[]⟩, .string ⟨#[]⟩, .slice (some ⟨b, 0, none⟩) 1 1] 185)).alloc (.cells #[.int .i64 0, .int .i64 0, .string ⟨#[]⟩] 94)) w.heap.size (Ex.list ⟨5, 0, 0, ⟨#[]⟩, ⟨#[]⟩, some ⟨b, 0, none⟩, 1, 1⟩)) := (Ex.lit w ⟨5, 0, 0, ⟨#[]⟩, ⟨#[]⟩, some ⟨b, 0, none⟩, 1, 1⟩).alloc _
  have HV := Lib.hid hb
  have HVA := Lib.hid (hb.trans (HBA.out.mono hb.size))
  have hbl := blk_lt hh
  have HH := Lib.hid (eholds_any hE hT N y HVA.out ((ha.alloc _).alloc _))
  obtain ⟨y0, y1, y2, y3, y4, y5⟩ := cells6 (y := y) hh ⟨rfl, rfl, rfl, rfl, rfl, rfl⟩
  have hr : Co.notR (Co.hold (Co.ev l t)) = if (Co.hold (Co.ev l t)).1 = 0 then (0, Co.flag (!(Co.hold (Co.ev l t)).2)) else ((Co.hold (Co.ev l t)).1, Vl.zero) := rfl
  generalize Co.hold (Co.ev l t) = R at *
  obtain ⟨cd, is⟩ := R
  dsimp only at hr HH
  rw [hr]
  clear hE hT hb hh ha hr
  unfold Ex.val at *
  dsimp only at *
  by_cases h0 : cd = 0
  · subst h0
    rw [if_pos rfl]
    go_enter Tryz.func151, Tryz.ntmps151
    go_wp2_with fail
    refine HH.out.mono ?_
    rintro r w1 ⟨⟨e, rfl, hs⟩, hb2⟩
    obtain rfl := seen_nil hs
    have HB2 := Lib.hid hb2
    clear hs hb2
    go_wp2_with fail
    refine (eflag_any _ _).mono ?_
    rintro r w3 ⟨rfl, hb3⟩
    have HB3 := Lib.hid (HB2.out.trans (hb3.mono HB2.out.size))
    clear hb3
    have hz1 : Cel w3 (w.heap.size + 1) Vl.zero.list := HZ.out.below HB3.out (Nat.le_refl _)
    have hbw : Below w.heap.size w w3 := HBA.out.trans (HB3.out.mono HBA.out.size)
    obtain ⟨⟨z0, z1, z2⟩, g0, g1, g2⟩ := hz1.tri_of
    have HFIN := Lib.hid (hz1.tri (Co.flag (!is)))
    have HBF := Lib.hid (below_tri (z := w.heap.size + 1) hbw (by omega) (Co.flag (!is)))
    clear hz1 hbw
    go_wp2
    show bodyPost _ _ _ _ _ (tri w3 (w.heap.size + 1) (Co.flag (!is)))
    generalize tri w3 (w.heap.size + 1) _ = wf at *
    obtain ⟨⟨k0, k1, k2⟩, _⟩ := HFIN.out.tri_of
    exact bodyPost_ret (v := .tuple #[Vl.val (Co.flag (!is)), .nilIface]) (by simp [results, Tryz.results151, go_sem, k0, k1, k2, Vl.val]) rfl ⟨⟨_, rfl, .nil⟩, HBF.out⟩
  · rw [if_neg h0]
    have HNZ := Lib.hid h0
    clear h0
    go_enter Tryz.func151, Tryz.ntmps151
    go_wp2_with fail
    refine HH.out.mono ?_
    rintro r w1 ⟨⟨e, rfl, hs⟩, hb2⟩
    obtain ⟨aa, rfl, hka⟩ := seen_err hs HNZ.out
    have HB2 := Lib.hid hb2
    have HKA := Lib.hid hka
    clear hs hb2 hka
    unfold errV
    have hz1 : Cel w1 (w.heap.size + 1) Vl.zero.list := HZ.out.below HB2.out (Nat.le_refl _)
    have hbw : Below w.heap.size w w1 := HBA.out.trans (HB2.out.mono HBA.out.size)
    obtain ⟨⟨z0, z1, z2⟩, g0, g1, g2⟩ := hz1.tri_of
    have HFIN := Lib.hid (hz1.tri Vl.zero)
    have HBF := Lib.hid (below_tri (z := w.heap.size + 1) hbw (by omega) Vl.zero)
    clear hz1 hbw
    go_wp2
    show bodyPost _ _ _ _ _ (tri w1 (w.heap.size + 1) Vl.zero)
    generalize tri w1 (w.heap.size + 1) _ = wf at *
    obtain ⟨⟨k0, k1, k2⟩, _⟩ := HFIN.out.tri_of
    exact bodyPost_ret (v := .tuple #[Vl.val Vl.zero, errV aa]) (by simp [results, Tryz.results151, go_sem, k0, k1, k2, Vl.val, errV]) rfl ⟨⟨_, rfl, .err _ aa HKA.out HNZ.out⟩, HBF.out⟩
set_option maxHeartbeats 3200000 in
theorem eneg_any (hE : CoErrsE V E) (hT : EvalC E V A n c l t) (N : Nat → Prop) (b : Nat) (y : Ex) (hb : Below V.heap.size V w) (hh : w.heap[b]? = some (.cells #[.int .i64 y.op, .int .i64 y.kind, .int .i64 y.num, .string y.txt, .string y.name, .slice y.A y.n y.c] 185 (0, 0))) (ha : At w N t y) :
    Calls Tryz.prog 151 #[Ex.val ⟨17, 0, 0, ⟨#[]⟩, ⟨#[]⟩, some ⟨b, 0, none⟩, 1, 1⟩, .slice A n c] w fun r w' => (∃ e, r = .returned (.tuple #[(Co.negR (Co.ev l t)).2.val, e]) ∧ SeenBy E e (Co.negR (Co.ev l t)).1) ∧ Below w.heap.size w w' := by
  have HBA : Hid (Below w.heap.size w ((w.alloc (.cells #[.int .i64 17, .int .i64 0, .int .i64 0, .string ⟨#[]⟩, .string ⟨#[]⟩, .slice (some ⟨b, 0, none⟩) 1 1] 185)).alloc (.cells #[.int .i64 0, .int .i64 0, .string ⟨#[]⟩] 94))) := ((Below.refl _ _).alloc (Nat.le_refl _) _).alloc (by simp) _
  have HZ : Hid (Cel ((w.alloc (.cells #[.int .i64 17, .int .i64 0, .int .i64 0, .string ⟨#[]⟩, .string ⟨#[]⟩, .slice (some ⟨b, 0, none⟩) 1 1] 185)).alloc (.cells #[.int .i64 0, .int .i64 0, .string ⟨#[]⟩] 94)) (w.heap.size + 1) Vl.zero.list) := by
    have := Cel.lit (w.alloc (.cells #[.int .i64 17, .int .i64 0, .int .i64 0, .string ⟨#[]⟩, .string ⟨#[]⟩, .slice (some ⟨b, 0, none⟩) 1 1] 185)) #[.int .i64 0, .int .i64 0, .string ⟨#[]⟩] 94
    rwa [show (w.alloc (.cells #[.int .i64 17, .int .i64 0, .int .i64 0, .string ⟨#[]⟩, .string ⟨#[]⟩, .slice (some ⟨b, 0, none⟩) 1 1] 185)).heap.size = w.heap.size + 1 from by simp] at this
  have HX : Hid (Cel ((w.alloc (.cells #[.int .i64 17, .int .i64 0, .int .i64 0, .string ⟨#[]⟩, .string ⟨#[]⟩, .slice (some ⟨b, 0, none⟩) 1 1] 185)).alloc (.cells #[.int .i64 0, .int .i64 0, .string ⟨#[]⟩] 94)) w.heap.size (Ex.list ⟨17, 0, 0, ⟨#[]⟩, ⟨#[]⟩, some ⟨b, 0, none⟩, 1, 1⟩)) := (Ex.lit w ⟨17, 0, 0, ⟨#[]⟩, ⟨#[]⟩, some ⟨b, 0, none⟩, 1, 1⟩).alloc _
  have HV := Lib.hid hb
  have HVA := Lib.hid (hb.trans (HBA.out.mono hb.size))
  have hbl := blk_lt hh
  have HH := Lib.hid (hT _ N y HVA.out ((ha.alloc _).alloc _))
  obtain ⟨y0, y1, y2, y3, y4, y5⟩ := cells6 (y := y) hh ⟨rfl, rfl, rfl, rfl, rfl, rfl⟩
  have hr : Co.negR (Co.ev l t) = if (Co.ev l t).1 = 0 then if (Co.ev l t).2.kind = 1 then (0, ⟨1, wrap64 (-(Co.ev l t).2.num), ⟨#[]⟩⟩) else (110, Vl.zero) else ((Co.ev l t).1, Vl.zero) := rfl
  generalize Co.ev l t = R at *
  obtain ⟨cd, v⟩ := R
  dsimp only at hr HH
  rw [hr]
  have HE := Lib.hid hE
  clear hE hT hb hh ha hr
  unfold Ex.val Vl.val at *
  dsimp only at *
  by_cases h0 : cd = 0
  · subst h0
    rw [if_pos rfl]
    by_cases h1 : v.kind = 1
    · rw [if_pos h1]
      rw [h1] at HH
      clear h1
      go_enter Tryz.func151, Tryz.ntmps151
      go_wp2_with fail
      refine HH.out.mono ?_
      rintro r w1 ⟨⟨e, rfl, hs⟩, hb2⟩
      obtain rfl := seen_nil hs
      have HB2 := Lib.hid (hb2.alloc hb2.size (.cells #[.int .i64 1, .int .i64 v.num, .string v.txt] 94))
      clear hs hb2
      go_wp2_with fail
      refine (vnum_any _ _).mono ?_
      rintro r w3 ⟨rfl, hb3⟩
      have HB3 := Lib.hid (HB2.out.trans (hb3.mono HB2.out.size))
      clear hb3
      have hz1 : Cel w3 (w.heap.size + 1) Vl.zero.list := HZ.out.below HB3.out (Nat.le_refl _)
      have hbw : Below w.heap.size w w3 := HBA.out.trans (HB3.out.mono HBA.out.size)
      obtain ⟨⟨z0, z1, z2⟩, g0, g1, g2⟩ := hz1.tri_of
      have HFIN := Lib.hid (hz1.tri (⟨1, wrap64 (-v.num), ⟨#[]⟩⟩))
      have HBF := Lib.hid (below_tri (z := w.heap.size + 1) hbw (by omega) (⟨1, wrap64 (-v.num), ⟨#[]⟩⟩))
      clear hz1 hbw
      go_wp2
      show bodyPost _ _ _ _ _ (tri w3 (w.heap.size + 1) (⟨1, wrap64 (-v.num), ⟨#[]⟩⟩))
      generalize tri w3 (w.heap.size + 1) _ = wf at *
      obtain ⟨⟨k0, k1, k2⟩, _⟩ := HFIN.out.tri_of
      exact bodyPost_ret (v := .tuple #[Vl.val (⟨1, wrap64 (-v.num), ⟨#[]⟩⟩), .nilIface]) (by simp [results, Tryz.results151, go_sem, k0, k1, k2, Vl.val]) rfl ⟨⟨_, rfl, .nil⟩, HBF.out⟩
    · rw [if_neg h1]
      have hk1 : (v.kind == 1) = false := by rw [beq_eq_false_iff_ne]; exact h1
      clear h1
      go_enter Tryz.func151, Tryz.ntmps151
      go_wp2_with fail
      refine HH.out.mono ?_
      rintro r w1 ⟨⟨e, rfl, hs⟩, hb2⟩
      obtain rfl := seen_nil hs
      have HB2 := Lib.hid hb2
      have hz1 : Cel w1 (w.heap.size + 1) Vl.zero.list := HZ.out.below hb2 (Nat.le_refl _)
      have hbw : Below w.heap.size w w1 := HBA.out.trans (hb2.mono HBA.out.size)
      obtain ⟨⟨z0, z1, z2⟩, g0, g1, g2⟩ := hz1.tri_of
      obtain ⟨aa, hka, hg⟩ := (HE.out.below (HV.out.trans (hbw.mono HV.out.size))).e110
      have hgl := cell_lt hg
      have hgn : 10 < w.heap.size := by
        obtain ⟨_, _, hg⟩ := (HE.out.below HV.out).e110
        exact cell_lt hg
      have hzl : w.heap.size + 1 < w1.heap.size := hz1.lt
      unfold errV at hg
      have HKA := Lib.hid hka
      have HFIN := Lib.hid (((hz1.tri Vl.zero).alloc (.cells #[.int .i64 v.kind, .int .i64 v.num, .string v.txt] 94)).drewN 1)
      have HBF := Lib.hid ((below_tri (z := w.heap.size + 1) hbw (by omega) Vl.zero).alloc (by simp [tri]; omega) (.cells #[.int .i64 v.kind, .int .i64 v.num, .string v.txt] 94)).drew
      clear hs hb2 hka hz1 hbw
      go_wp2_with fail
      go_region
      go_wp2
      show bodyPost _ _ _ _ _ ((tri w1 (w.heap.size + 1) Vl.zero).alloc (.cells #[.int .i64 v.kind, .int .i64 v.num, .string v.txt] 94)).drew
      have hfin : Cel ((tri w1 (w.heap.size + 1) Vl.zero).alloc (.cells #[.int .i64 v.kind, .int .i64 v.num, .string v.txt] 94)).drew (w.heap.size + 1) Vl.zero.list := HFIN.out
      have hbf : Below w.heap.size w ((tri w1 (w.heap.size + 1) Vl.zero).alloc (.cells #[.int .i64 v.kind, .int .i64 v.num, .string v.txt] 94)).drew := HBF.out
      generalize ((tri w1 (w.heap.size + 1) _).alloc _).drew = wf at *
      obtain ⟨⟨k0, k1, k2⟩, _⟩ := hfin.tri_of
      exact bodyPost_ret (v := .tuple #[Vl.val Vl.zero, errV aa]) (by simp [results, Tryz.results151, go_sem, k0, k1, k2, Vl.val, errV]) rfl ⟨⟨_, rfl, .err 110 aa HKA.out (by decide)⟩, hbf⟩
  · rw [if_neg h0]
    have HNZ := Lib.hid h0
    clear h0
    go_enter Tryz.func151, Tryz.ntmps151
    go_wp2_with fail
    refine HH.out.mono ?_
    rintro r w1 ⟨⟨e, rfl, hs⟩, hb2⟩
    obtain ⟨aa, rfl, hka⟩ := seen_err hs HNZ.out
    have hz1 : Cel w1 (w.heap.size + 1) Vl.zero.list := HZ.out.below hb2 (Nat.le_refl _)
    have hbw : Below w.heap.size w w1 := HBA.out.trans (hb2.mono HBA.out.size)
    obtain ⟨⟨z0, z1, z2⟩, g0, g1, g2⟩ := hz1.tri_of
    have hzl : w.heap.size + 1 < w1.heap.size := hz1.lt
    have HFIN := Lib.hid ((hz1.tri Vl.zero).alloc (.cells #[.int .i64 v.kind, .int .i64 v.num, .string v.txt] 94))
    have HBF := Lib.hid ((below_tri (z := w.heap.size + 1) hbw (by omega) Vl.zero).alloc (by simp [tri]; omega) (.cells #[.int .i64 v.kind, .int .i64 v.num, .string v.txt] 94))
    have HKA := Lib.hid hka
    clear hs hb2 hka hz1 hbw
    unfold errV
    go_wp2
    show bodyPost _ _ _ _ _ ((tri w1 (w.heap.size + 1) Vl.zero).alloc (.cells #[.int .i64 v.kind, .int .i64 v.num, .string v.txt] 94))
    generalize (tri w1 (w.heap.size + 1) _).alloc _ = wf at *
    obtain ⟨⟨k0, k1, k2⟩, _⟩ := HFIN.out.tri_of
    exact bodyPost_ret (v := .tuple #[Vl.val Vl.zero, errV aa]) (by simp [results, Tryz.results151, go_sem, k0, k1, k2, Vl.val, errV]) rfl ⟨⟨_, rfl, .err _ aa HKA.out HNZ.out⟩, HBF.out⟩
end
end Go.Proofs.YtkffnfgdmcebdaaGreatDoor
namespace Go.Proofs.YtkffnfgdmcebdaaGreatDoor
open Go.RowKit

namespace Pr
theorem quad_facts {w : World} {z : Nat} {a0 a1 a2 a3 : Value} (h : Cel w z [a0, a1, a2, a3]) : w.cell? ⟨z, 0, none⟩ = some a0 ∧ w.cell? ⟨z, 1, none⟩ = some a1 ∧ w.cell? ⟨z, 2, none⟩ = some a2 ∧ w.cell? ⟨z, 3, none⟩ = some a3 :=
  ⟨h.cell 0 _ rfl, h.cell 1 _ rfl, h.cell 2 _ rfl, h.cell 3 _ rfl⟩
def light (s : SeedV) : Bool := decide (s.name.size ≤ 30) && (decide (s.kn ≤ 28) && (decide (s.en ≤ 60) && decide (s.mn ≤ 60)))
set_option maxHeartbeats 800000 in
theorem mlight_any (s : SeedV) (w : World) : Calls Tryz.prog 10 #[s.val] w fun e w' => e = .returned (.bool (light s)) ∧ Below w.heap.size w w' := by
  have HP := Lib.hid (Cel.lit w #[.string s.name, .slice s.KA s.kn s.kc, .slice s.EA s.en s.ec, .slice s.MA s.mn s.mc] 24)
  have HB := Lib.hid ((Below.refl w.heap.size w).alloc (Nat.le_refl _) (.cells #[.string s.name, .slice s.KA s.kn s.kc, .slice s.EA s.en s.ec, .slice s.MA s.mn s.mc] 24))
  obtain ⟨R, hR⟩ : ∃ R, R = light s := ⟨_, rfl⟩
  rw [← hR]
  unfold light at hR
  unfold SeedV.val
  generalize s.name = a at *
  generalize s.kn = k at *
  generalize s.en = e at *
  generalize s.mn = m at *
  go_enter Tryz.func10, Tryz.ntmps10
  go_upto_region 1 with (fail)
  generalize w.alloc _ = wb at *
  obtain ⟨z0, z1, z2, z3⟩ := quad_facts HP.out
  by_cases h1 : a.size ≤ 30
  · have h1I : (a.size : Int) ≤ 30 := by omega
    rw [decide_eq_true h1] at hR
    by_cases h2 : k ≤ 28
    · have h2I : (k : Int) ≤ 28 := by omega
      rw [decide_eq_true h2] at hR
      by_cases h3 : e ≤ 60
      · have h3I : (e : Int) ≤ 60 := by omega
        rw [decide_eq_true h3] at hR
        by_cases h4 : m ≤ 60
        · have h4I : (m : Int) ≤ 60 := by omega
          rw [decide_eq_true h4] at hR
          simp at hR
          have HR := Lib.hid hR
          clear hR
          go_wp2
          go_ret
          exact ⟨by rw [HR.out]; rfl, HB.out⟩
        · have h4I : ¬ (m : Int) ≤ 60 := by omega
          rw [decide_eq_false h4] at hR
          simp at hR
          have HR := Lib.hid hR
          clear hR h4
          go_wp2
          go_ret
          exact ⟨by rw [HR.out]; rfl, HB.out⟩
      · have h3I : ¬ (e : Int) ≤ 60 := by omega
        rw [decide_eq_false h3] at hR
        simp at hR
        have HR := Lib.hid hR
        clear hR h3
        go_wp2
        go_ret
        exact ⟨by rw [HR.out]; rfl, HB.out⟩
    · have h2I : ¬ (k : Int) ≤ 28 := by omega
      rw [decide_eq_false h2] at hR
      simp at hR
      have HR := Lib.hid hR
      clear hR h2
      go_wp2
      go_ret
      exact ⟨by rw [HR.out]; rfl, HB.out⟩
  · have h1I : ¬ (a.size : Int) ≤ 30 := by omega
    rw [decide_eq_false h1] at hR
    simp at hR
    have HR := Lib.hid hR
    clear hR h1
    go_wp2
    go_ret
    exact ⟨by rw [HR.out]; rfl, HB.out⟩
end Pr
end Go.Proofs.YtkffnfgdmcebdaaGreatDoor
