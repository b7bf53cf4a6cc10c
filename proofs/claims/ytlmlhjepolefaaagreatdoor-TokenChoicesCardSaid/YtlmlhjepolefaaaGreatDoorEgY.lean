/- Walks of package cond: or, and; not, a sign. -/
import Derived.Test.YtlmlhjepolefaaaGreatDoorYTokenChoices6
namespace Go.Proofs.YtlmlhjepolefaaaGreatDoor
open Go.RowKit

section
variable {E : Int → Option Addr} {V w : World} {A : Option Addr} {n c : Nat} {l : List Vr.V} {t t2 : Co.Tr}
theorem cells6 {w : World} {b : Nat} {y : Ex} {cs : Array Value} {T : TypeId} (h : w.heap[b]? = some (.cells cs T (0, 0))) (hc : cs[0]? = some (.int .i64 y.op) ∧ cs[1]? = some (.int .i64 y.kind) ∧ cs[2]? = some (.int .i64 y.num) ∧ cs[3]? = some (.string y.txt) ∧ cs[4]? = some (.string y.name) ∧ cs[5]? = some (.slice y.A y.n y.c)) :
    w.cell? ⟨b, 0, none⟩ = some (.int .i64 y.op) ∧ w.cell? ⟨b, 1, none⟩ = some (.int .i64 y.kind) ∧ w.cell? ⟨b, 2, none⟩ = some (.int .i64 y.num) ∧ w.cell? ⟨b, 3, none⟩ = some (.string y.txt) ∧ w.cell? ⟨b, 4, none⟩ = some (.string y.name) ∧ w.cell? ⟨b, 5, none⟩ = some (.slice y.A y.n y.c) :=
  ⟨(cell_of_row w b 0 _ _ (0, 0) h).trans (hc.1), (cell_of_row w b 1 _ _ (0, 0) h).trans (hc.2.1), (cell_of_row w b 2 _ _ (0, 0) h).trans (hc.2.2.1),
    (cell_of_row w b 3 _ _ (0, 0) h).trans (hc.2.2.2.1), (cell_of_row w b 4 _ _ (0, 0) h).trans (hc.2.2.2.2.1), (cell_of_row w b 5 _ _ (0, 0) h).trans (hc.2.2.2.2.2)⟩
theorem cells12 {w : World} {b : Nat} {y : Ex} {cs : Array Value} {T : TypeId} (h : w.heap[b]? = some (.cells cs T (0, 0))) (hc : cs[6]? = some (.int .i64 y.op) ∧ cs[7]? = some (.int .i64 y.kind) ∧ cs[8]? = some (.int .i64 y.num) ∧ cs[9]? = some (.string y.txt) ∧ cs[10]? = some (.string y.name) ∧ cs[11]? = some (.slice y.A y.n y.c)) :
    w.cell? ⟨b, 6, none⟩ = some (.int .i64 y.op) ∧ w.cell? ⟨b, 7, none⟩ = some (.int .i64 y.kind) ∧ w.cell? ⟨b, 8, none⟩ = some (.int .i64 y.num) ∧ w.cell? ⟨b, 9, none⟩ = some (.string y.txt) ∧ w.cell? ⟨b, 10, none⟩ = some (.string y.name) ∧ w.cell? ⟨b, 11, none⟩ = some (.slice y.A y.n y.c) :=
  ⟨(cell_of_row w b 6 _ _ (0, 0) h).trans (hc.1), (cell_of_row w b 7 _ _ (0, 0) h).trans (hc.2.1), (cell_of_row w b 8 _ _ (0, 0) h).trans (hc.2.2.1),
    (cell_of_row w b 9 _ _ (0, 0) h).trans (hc.2.2.2.1), (cell_of_row w b 10 _ _ (0, 0) h).trans (hc.2.2.2.2.1), (cell_of_row w b 11 _ _ (0, 0) h).trans (hc.2.2.2.2.2)⟩
set_option maxHeartbeats 3200000 in
theorem enot_any (hE : CoErrsE V E) (hT : EvalC E V A n c l t) (N : Nat → Prop) (b : Nat) (y : Ex) (hb : Below V.heap.size V w) (hh : w.heap[b]? = some (.cells #[.int .i64 y.op, .int .i64 y.kind, .int .i64 y.num, .string y.txt, .string y.name, .slice y.A y.n y.c] 112 (0, 0))) (ha : At w N t y) :
    Calls Tryz.prog 72 #[Ex.val ⟨5, 0, 0, ⟨#[]⟩, ⟨#[]⟩, some ⟨b, 0, none⟩, 1, 1⟩, .slice A n c] w fun r w' => (∃ e, r = .returned (.tuple #[(Co.notR (Co.hold (Co.ev l t))).2.val, e]) ∧ SeenBy E e (Co.notR (Co.hold (Co.ev l t))).1) ∧ Below w.heap.size w w' := by
  have HBA : Hid (Below w.heap.size w ((w.alloc (.cells #[.int .i64 5, .int .i64 0, .int .i64 0, .string ⟨#[]⟩, .string ⟨#[]⟩, .slice (some ⟨b, 0, none⟩) 1 1] 112)).alloc (.cells #[.int .i64 0, .int .i64 0, .string ⟨#[]⟩] 50))) := ((Below.refl _ _).alloc (Nat.le_refl _) _).alloc (by simp) _
  have HZ : Hid (Cel ((w.alloc (.cells #[.int .i64 5, .int .i64 0, .int .i64 0, .string ⟨#[]⟩, .string ⟨#[]⟩, .slice (some ⟨b, 0, none⟩) 1 1] 112)).alloc (.cells #[.int .i64 0, .int .i64 0, .string ⟨#[]⟩] 50)) (w.heap.size + 1) Vl.zero.list) := by
    have := Cel.lit (w.alloc (.cells #[.int .i64 5, .int .i64 0, .int .i64 0, .string ⟨#[]⟩, .string ⟨#[]⟩, .slice (some ⟨b, 0, none⟩) 1 1] 112)) #[.int .i64 0, .int .i64 0, .string ⟨#[]⟩] 50
    rwa [show (w.alloc (.cells #[.int .i64 5, .int .i64 0, .int .i64 0, .string ⟨#[]⟩, .string ⟨#[]⟩, .slice (some ⟨b, 0, none⟩) 1 1] 112)).heap.size = w.heap.size + 1 from by simp] at this
  have HX : Hid (Cel ((w.alloc (.cells #[.int .i64 5, .int .i64 0, .int .i64 0, .string ⟨#[]⟩, .string ⟨#[]⟩, .slice (some ⟨b, 0, none⟩) 1 1] 112)).alloc (.cells #[.int .i64 0, .int .i64 0, .string ⟨#[]⟩] 50)) w.heap.size (Ex.list ⟨5, 0, 0, ⟨#[]⟩, ⟨#[]⟩, some ⟨b, 0, none⟩, 1, 1⟩)) := (Ex.lit w ⟨5, 0, 0, ⟨#[]⟩, ⟨#[]⟩, some ⟨b, 0, none⟩, 1, 1⟩).alloc _
  have HV := Lib.hid hb
  have HVA := Lib.hid (hb.trans (HBA.out.mono hb.size))
  have hbl := blk_lt hh
  have HH := Lib.hid (eholds_any hE hT N y HVA.out ((ha.alloc _).alloc _))
  obtain ⟨y0, y1, y2, y3, y4, y5⟩ := cells6 (y := y) hh ⟨rfl, rfl, rfl, rfl, rfl, rfl⟩
  have hr : Co.notR (Co.hold (Co.ev l t)) = if (Co.hold (Co.ev l t)).1 = 0 then (0, Co.flag (!(Co.hold (Co.ev l t)).2)) else ((Co.hold (Co.ev l t)).1, Vl.zero) := rfl
  generalize Co.hold (Co.ev l t) = R at *
  obtain ⟨cd, is⟩ := R
  dsimp only at hr HH
  rw [hr]
  clear hE hT hb hh ha hr
  unfold Ex.val at *
  dsimp only at *
  by_cases h0 : cd = 0
  · subst h0
    rw [if_pos rfl]
    go_enter Tryz.func72, Tryz.ntmps72
    go_wp2_with fail
    refine HH.out.mono ?_
    rintro r w1 ⟨⟨e, rfl, hs⟩, hb2⟩
    obtain rfl := seen_nil hs
    have HB2 := Lib.hid hb2
    clear hs hb2
    go_wp2_with fail
    refine (eflag_any _ _).mono ?_
    rintro r w3 ⟨rfl, hb3⟩
    have HB3 := Lib.hid (HB2.out.trans (hb3.mono HB2.out.size))
    clear hb3
    have hz1 : Cel w3 (w.heap.size + 1) Vl.zero.list := HZ.out.below HB3.out (Nat.le_refl _)
    have hbw : Below w.heap.size w w3 := HBA.out.trans (HB3.out.mono HBA.out.size)
    obtain ⟨⟨z0, z1, z2⟩, g0, g1, g2⟩ := hz1.tri_of
    have HFIN := Lib.hid (hz1.tri (Co.flag (!is)))
    have HBF := Lib.hid (below_tri (z := w.heap.size + 1) hbw (by omega) (Co.flag (!is)))
    clear hz1 hbw
    go_wp2
    show bodyPost _ _ _ _ _ (tri w3 (w.heap.size + 1) (Co.flag (!is)))
    generalize tri w3 (w.heap.size + 1) _ = wf at *
    obtain ⟨⟨k0, k1, k2⟩, _⟩ := HFIN.out.tri_of
    exact bodyPost_ret (v := .tuple #[Vl.val (Co.flag (!is)), .nilIface]) (by simp [results, Tryz.results72, go_sem, k0, k1, k2, Vl.val]) rfl ⟨⟨_, rfl, .nil⟩, HBF.out⟩
  · rw [if_neg h0]
    have HNZ := Lib.hid h0
    clear h0
    go_enter Tryz.func72, Tryz.ntmps72
    go_wp2_with fail
    refine HH.out.mono ?_
    rintro r w1 ⟨⟨e, rfl, hs⟩, hb2⟩
    obtain ⟨aa, rfl, hka⟩ := seen_err hs HNZ.out
    have HB2 := Lib.hid hb2
    have HKA := Lib.hid hka
    clear hs hb2 hka
    unfold errV
    have hz1 : Cel w1 (w.heap.size + 1) Vl.zero.list := HZ.out.below HB2.out (Nat.le_refl _)
    have hbw : Below w.heap.size w w1 := HBA.out.trans (HB2.out.mono HBA.out.size)
    obtain ⟨⟨z0, z1, z2⟩, g0, g1, g2⟩ := hz1.tri_of
    have HFIN := Lib.hid (hz1.tri Vl.zero)
    have HBF := Lib.hid (below_tri (z := w.heap.size + 1) hbw (by omega) Vl.zero)
    clear hz1 hbw
    go_wp2
    show bodyPost _ _ _ _ _ (tri w1 (w.heap.size + 1) Vl.zero)
    generalize tri w1 (w.heap.size + 1) _ = wf at *
    obtain ⟨⟨k0, k1, k2⟩, _⟩ := HFIN.out.tri_of
    exact bodyPost_ret (v := .tuple #[Vl.val Vl.zero, errV aa]) (by simp [results, Tryz.results72, go_sem, k0, k1, k2, Vl.val, errV]) rfl ⟨⟨_, rfl, .err _ aa HKA.out HNZ.out⟩, HBF.out⟩
set_option maxHeartbeats 3200000 in
theorem eneg_any (hE : CoErrsE V E) (hT : EvalC E V A n c l t) (N : Nat → Prop) (b : Nat) (y : Ex) (hb : Below V.heap.size V w) (hh : w.heap[b]? = some (.cells #[.int .i64 y.op, .int .i64 y.kind, .int .i64 y.num, .string y.txt, .string y.name, .slice y.A y.n y.c] 112 (0, 0))) (ha : At w N t y) :
    Calls Tryz.prog 72 #[Ex.val ⟨17, 0, 0, ⟨#[]⟩, ⟨#[]⟩, some ⟨b, 0, none⟩, 1, 1⟩, .slice A n c] w fun r w' => (∃ e, r = .returned (.tuple #[(Co.negR (Co.ev l t)).2.val, e]) ∧ SeenBy E e (Co.negR (Co.ev l t)).1) ∧ Below w.heap.size w w' := by
  have HBA : Hid (Below w.heap.size w ((w.alloc (.cells #[.int .i64 17, .int .i64 0, .int .i64 0, .string ⟨#[]⟩, .string ⟨#[]⟩, .slice (some ⟨b, 0, none⟩) 1 1] 112)).alloc (.cells #[.int .i64 0, .int .i64 0, .string ⟨#[]⟩] 50))) := ((Below.refl _ _).alloc (Nat.le_refl _) _).alloc (by simp) _
  have HZ : Hid (Cel ((w.alloc (.cells #[.int .i64 17, .int .i64 0, .int .i64 0, .string ⟨#[]⟩, .string ⟨#[]⟩, .slice (some ⟨b, 0, none⟩) 1 1] 112)).alloc (.cells #[.int .i64 0, .int .i64 0, .string ⟨#[]⟩] 50)) (w.heap.size + 1) Vl.zero.list) := by
    have := Cel.lit (w.alloc (.cells #[.int .i64 17, .int .i64 0, .int .i64 0, .string ⟨#[]⟩, .string ⟨#[]⟩, .slice (some ⟨b, 0, none⟩) 1 1] 112)) #[.int .i64 0, .int .i64 0, .string ⟨#[]⟩] 50
    rwa [show (w.alloc (.cells #[.int .i64 17, .int .i64 0, .int .i64 0, .string ⟨#[]⟩, .string ⟨#[]⟩, .slice (some ⟨b, 0, none⟩) 1 1] 112)).heap.size = w.heap.size + 1 from by simp] at this
  have HX : Hid (Cel ((w.alloc (.cells #[.int .i64 17, .int .i64 0, .int .i64 0, .string ⟨#[]⟩, .string ⟨#[]⟩, .slice (some ⟨b, 0, none⟩) 1 1] 112)).alloc (.cells #[.int .i64 0, .int .i64 0, .string ⟨#[]⟩] 50)) w.heap.size (Ex.list ⟨17, 0, 0, ⟨#[]⟩, ⟨#[]⟩, some ⟨b, 0, none⟩, 1, 1⟩)) := (Ex.lit w ⟨17, 0, 0, ⟨#[]⟩, ⟨#[]⟩, some ⟨b, 0, none⟩, 1, 1⟩).alloc _
  have HV := Lib.hid hb
  have HVA := Lib.hid (hb.trans (HBA.out.mono hb.size))
  have hbl := blk_lt hh
  have HH := Lib.hid (hT _ N y HVA.out ((ha.alloc _).alloc _))
  obtain ⟨y0, y1, y2, y3, y4, y5⟩ := cells6 (y := y) hh ⟨rfl, rfl, rfl, rfl, rfl, rfl⟩
  have hr : Co.negR (Co.ev l t) = if (Co.ev l t).1 = 0 then if (Co.ev l t).2.kind = 1 then (0, ⟨1, wrap64 (-(Co.ev l t).2.num), ⟨#[]⟩⟩) else (110, Vl.zero) else ((Co.ev l t).1, Vl.zero) := rfl
  generalize Co.ev l t = R at *
  obtain ⟨cd, v⟩ := R
  dsimp only at hr HH
  rw [hr]
  have HE := Lib.hid hE
  clear hE hT hb hh ha hr
  unfold Ex.val Vl.val at *
  dsimp only at *
  by_cases h0 : cd = 0
  · subst h0
    rw [if_pos rfl]
    by_cases h1 : v.kind = 1
    · rw [if_pos h1]
      rw [h1] at HH
      clear h1
      go_enter Tryz.func72, Tryz.ntmps72
      go_wp2_with fail
      refine HH.out.mono ?_
      rintro r w1 ⟨⟨e, rfl, hs⟩, hb2⟩
      obtain rfl := seen_nil hs
      have HB2 := Lib.hid (hb2.alloc hb2.size (.cells #[.int .i64 1, .int .i64 v.num, .string v.txt] 50))
      clear hs hb2
      go_wp2_with fail
      refine (vnum_any _ _).mono ?_
      rintro r w3 ⟨rfl, hb3⟩
      have HB3 := Lib.hid (HB2.out.trans (hb3.mono HB2.out.size))
      clear hb3
      have hz1 : Cel w3 (w.heap.size + 1) Vl.zero.list := HZ.out.below HB3.out (Nat.le_refl _)
      have hbw : Below w.heap.size w w3 := HBA.out.trans (HB3.out.mono HBA.out.size)
      obtain ⟨⟨z0, z1, z2⟩, g0, g1, g2⟩ := hz1.tri_of
      have HFIN := Lib.hid (hz1.tri (⟨1, wrap64 (-v.num), ⟨#[]⟩⟩))
      have HBF := Lib.hid (below_tri (z := w.heap.size + 1) hbw (by omega) (⟨1, wrap64 (-v.num), ⟨#[]⟩⟩))
      clear hz1 hbw
      go_wp2
      show bodyPost _ _ _ _ _ (tri w3 (w.heap.size + 1) (⟨1, wrap64 (-v.num), ⟨#[]⟩⟩))
      generalize tri w3 (w.heap.size + 1) _ = wf at *
      obtain ⟨⟨k0, k1, k2⟩, _⟩ := HFIN.out.tri_of
      exact bodyPost_ret (v := .tuple #[Vl.val (⟨1, wrap64 (-v.num), ⟨#[]⟩⟩), .nilIface]) (by simp [results, Tryz.results72, go_sem, k0, k1, k2, Vl.val]) rfl ⟨⟨_, rfl, .nil⟩, HBF.out⟩
    · rw [if_neg h1]
      have hk1 : (v.kind == 1) = false := by rw [beq_eq_false_iff_ne]; exact h1
      clear h1
      go_enter Tryz.func72, Tryz.ntmps72
      go_wp2_with fail
      refine HH.out.mono ?_
      rintro r w1 ⟨⟨e, rfl, hs⟩, hb2⟩
      obtain rfl := seen_nil hs
      have HB2 := Lib.hid hb2
      have hz1 : Cel w1 (w.heap.size + 1) Vl.zero.list := HZ.out.below hb2 (Nat.le_refl _)
      have hbw : Below w.heap.size w w1 := HBA.out.trans (hb2.mono HBA.out.size)
      obtain ⟨⟨z0, z1, z2⟩, g0, g1, g2⟩ := hz1.tri_of
      obtain ⟨aa, hka, hg⟩ := (HE.out.below (HV.out.trans (hbw.mono HV.out.size))).e110
      have hgl := cell_lt hg
      have hgn : 10 < w.heap.size := by
        obtain ⟨_, _, hg⟩ := (HE.out.below HV.out).e110
        exact cell_lt hg
      have hzl : w.heap.size + 1 < w1.heap.size := hz1.lt
      unfold errV at hg
      have HKA := Lib.hid hka
      have HFIN := Lib.hid (((hz1.tri Vl.zero).alloc (.cells #[.int .i64 v.kind, .int .i64 v.num, .string v.txt] 50)).drewN 1)
      have HBF := Lib.hid ((below_tri (z := w.heap.size + 1) hbw (by omega) Vl.zero).alloc (by simp [tri]; omega) (.cells #[.int .i64 v.kind, .int .i64 v.num, .string v.txt] 50)).drew
      clear hs hb2 hka hz1 hbw
      go_wp2_with fail
      go_region
      go_wp2
      show bodyPost _ _ _ _ _ ((tri w1 (w.heap.size + 1) Vl.zero).alloc (.cells #[.int .i64 v.kind, .int .i64 v.num, .string v.txt] 50)).drew
      have hfin : Cel ((tri w1 (w.heap.size + 1) Vl.zero).alloc (.cells #[.int .i64 v.kind, .int .i64 v.num, .string v.txt] 50)).drew (w.heap.size + 1) Vl.zero.list := HFIN.out
      have hbf : Below w.heap.size w ((tri w1 (w.heap.size + 1) Vl.zero).alloc (.cells #[.int .i64 v.kind, .int .i64 v.num, .string v.txt] 50)).drew := HBF.out
      generalize ((tri w1 (w.heap.size + 1) _).alloc _).drew = wf at *
      obtain ⟨⟨k0, k1, k2⟩, _⟩ := hfin.tri_of
      exact bodyPost_ret (v := .tuple #[Vl.val Vl.zero, errV aa]) (by simp [results, Tryz.results72, go_sem, k0, k1, k2, Vl.val, errV]) rfl ⟨⟨_, rfl, .err 110 aa HKA.out (by decide)⟩, hbf⟩
  · rw [if_neg h0]
    have HNZ := Lib.hid h0
    clear h0
    go_enter Tryz.func72, Tryz.ntmps72
    go_wp2_with fail
    refine HH.out.mono ?_
    rintro r w1 ⟨⟨e, rfl, hs⟩, hb2⟩
    obtain ⟨aa, rfl, hka⟩ := seen_err hs HNZ.out
    have hz1 : Cel w1 (w.heap.size + 1) Vl.zero.list := HZ.out.below hb2 (Nat.le_refl _)
    have hbw : Below w.heap.size w w1 := HBA.out.trans (hb2.mono HBA.out.size)
    obtain ⟨⟨z0, z1, z2⟩, g0, g1, g2⟩ := hz1.tri_of
    have hzl : w.heap.size + 1 < w1.heap.size := hz1.lt
    have HFIN := Lib.hid ((hz1.tri Vl.zero).alloc (.cells #[.int .i64 v.kind, .int .i64 v.num, .string v.txt] 50))
    have HBF := Lib.hid ((below_tri (z := w.heap.size + 1) hbw (by omega) Vl.zero).alloc (by simp [tri]; omega) (.cells #[.int .i64 v.kind, .int .i64 v.num, .string v.txt] 50))
    have HKA := Lib.hid hka
    clear hs hb2 hka hz1 hbw
    unfold errV
    go_wp2
    show bodyPost _ _ _ _ _ ((tri w1 (w.heap.size + 1) Vl.zero).alloc (.cells #[.int .i64 v.kind, .int .i64 v.num, .string v.txt] 50))
    generalize (tri w1 (w.heap.size + 1) _).alloc _ = wf at *
    obtain ⟨⟨k0, k1, k2⟩, _⟩ := HFIN.out.tri_of
    exact bodyPost_ret (v := .tuple #[Vl.val Vl.zero, errV aa]) (by simp [results, Tryz.results72, go_sem, k0, k1, k2, Vl.val, errV]) rfl ⟨⟨_, rfl, .err _ aa HKA.out HNZ.out⟩, HBF.out⟩
end
end Go.Proofs.YtlmlhjepolefaaaGreatDoor
