/- Walks of package cond: or, and; two parts. -/
import Derived.Test.YtkffnfgdmcebdaaGreatDoorYJoint7
namespace Go.Proofs.YtkffnfgdmcebdaaGreatDoor
open Go.RowKit

section
variable {E : Int → Option Addr} {V w : World} {A : Option Addr} {n c : Nat} {l : List Vr.V} {t t2 : Co.Tr}
set_option maxHeartbeats 6400000 in
theorem ejoinor_any (hE : CoErrsE V E) (hT : EvalC E V A n c l t) (hT2 : EvalC E V A n c l t2) (N : Nat → Prop) (b : Nat) (y y2 : Ex) (hb : Below V.heap.size V w) (hh : w.heap[b]? = some (.cells #[.int .i64 y.op, .int .i64 y.kind, .int .i64 y.num, .string y.txt, .string y.name, .slice y.A y.n y.c, .int .i64 y2.op, .int .i64 y2.kind, .int .i64 y2.num, .string y2.txt, .string y2.name, .slice y2.A y2.n y2.c] 185 (0, 0))) (ha : At w N t y) (ha2 : At w N t2 y2) :
    Calls Tryz.prog 150 #[Ex.val ⟨3, 0, 0, ⟨#[]⟩, ⟨#[]⟩, some ⟨b, 0, none⟩, 2, 2⟩, .slice A n c] w fun r w' => (∃ e, r = .returned (.tuple #[(Co.joinR 3 (Co.hold (Co.ev l t)) (Co.hold (Co.ev l t2))).2.val, e]) ∧ SeenBy E e (Co.joinR 3 (Co.hold (Co.ev l t)) (Co.hold (Co.ev l t2))).1) ∧ Below w.heap.size w w' := by
  have HBA : Hid (Below w.heap.size w ((w.alloc (.cells #[.int .i64 3, .int .i64 0, .int .i64 0, .string ⟨#[]⟩, .string ⟨#[]⟩, .slice (some ⟨b, 0, none⟩) 2 2] 185)).alloc (.cells #[.int .i64 0, .int .i64 0, .string ⟨#[]⟩] 94))) := ((Below.refl _ _).alloc (Nat.le_refl _) _).alloc (by simp) _
  have HZ : Hid (Cel ((w.alloc (.cells #[.int .i64 3, .int .i64 0, .int .i64 0, .string ⟨#[]⟩, .string ⟨#[]⟩, .slice (some ⟨b, 0, none⟩) 2 2] 185)).alloc (.cells #[.int .i64 0, .int .i64 0, .string ⟨#[]⟩] 94)) (w.heap.size + 1) Vl.zero.list) := by
    have := Cel.lit (w.alloc (.cells #[.int .i64 3, .int .i64 0, .int .i64 0, .string ⟨#[]⟩, .string ⟨#[]⟩, .slice (some ⟨b, 0, none⟩) 2 2] 185)) #[.int .i64 0, .int .i64 0, .string ⟨#[]⟩] 94
    rwa [show (w.alloc (.cells #[.int .i64 3, .int .i64 0, .int .i64 0, .string ⟨#[]⟩, .string ⟨#[]⟩, .slice (some ⟨b, 0, none⟩) 2 2] 185)).heap.size = w.heap.size + 1 from by simp] at this
  have HX : Hid (Cel ((w.alloc (.cells #[.int .i64 3, .int .i64 0, .int .i64 0, .string ⟨#[]⟩, .string ⟨#[]⟩, .slice (some ⟨b, 0, none⟩) 2 2] 185)).alloc (.cells #[.int .i64 0, .int .i64 0, .string ⟨#[]⟩] 94)) w.heap.size (Ex.list ⟨3, 0, 0, ⟨#[]⟩, ⟨#[]⟩, some ⟨b, 0, none⟩, 2, 2⟩)) := (Ex.lit w ⟨3, 0, 0, ⟨#[]⟩, ⟨#[]⟩, some ⟨b, 0, none⟩, 2, 2⟩).alloc _
  have HV := Lib.hid hb
  have HVA := Lib.hid (hb.trans (HBA.out.mono hb.size))
  have hbl := blk_lt hh
  have HH := Lib.hid (eholds_any hE hT N y HVA.out ((ha.alloc _).alloc _))
  have HHH := Lib.hid hh
  have HH2 : ∀ w1, Below ((w.alloc (.cells #[.int .i64 3, .int .i64 0, .int .i64 0, .string ⟨#[]⟩, .string ⟨#[]⟩, .slice (some ⟨b, 0, none⟩) 2 2] 185)).alloc (.cells #[.int .i64 0, .int .i64 0, .string ⟨#[]⟩] 94)).heap.size ((w.alloc (.cells #[.int .i64 3, .int .i64 0, .int .i64 0, .string ⟨#[]⟩, .string ⟨#[]⟩, .slice (some ⟨b, 0, none⟩) 2 2] 185)).alloc (.cells #[.int .i64 0, .int .i64 0, .string ⟨#[]⟩] 94)) w1 → Hid (Calls Tryz.prog 157 #[y2.val, .slice A n c] w1 fun r w' => (∃ e, r = .returned (.tuple #[.bool (Co.hold (Co.ev l t2)).2, e]) ∧ SeenBy E e (Co.hold (Co.ev l t2)).1) ∧ Below w1.heap.size w1 w') := fun w1 h1 =>
    eholds_any hE hT2 N y2 (HVA.out.trans (h1.mono HVA.out.size)) (((ha2.alloc _).alloc _).below h1 (Nat.le_refl _))
  have HHT := Lib.hid HH2
  obtain ⟨y0, y1, y2', y3, y4, y5⟩ := cells6 (y := y) hh ⟨rfl, rfl, rfl, rfl, rfl, rfl⟩
  have hr : Co.joinR 3 (Co.hold (Co.ev l t)) (Co.hold (Co.ev l t2)) = if (Co.hold (Co.ev l t)).1 = 0 ∧ (Co.hold (Co.ev l t)).2 ≠ true then Co.flagR (Co.hold (Co.ev l t2)) else Co.flagR (Co.hold (Co.ev l t)) := rfl
  generalize Co.hold (Co.ev l t) = R at *
  generalize Co.hold (Co.ev l t2) = R2 at *
  obtain ⟨cd, is⟩ := R
  obtain ⟨cd2, is2⟩ := R2
  dsimp only at hr HH HHT
  rw [hr]
  clear hE hT hT2 hb hh ha ha2 hr HH2
  unfold Ex.val at *
  dsimp only at *
  by_cases h0 : cd = 0
  · subst h0
    by_cases h1 : is = true
    · subst h1
      rw [if_neg (by simp)]
      have hf : Co.flagR ((0 : Int), true) = (0, Co.flag true) := rfl
      rw [hf]
      clear hf
      go_enter Tryz.func150, Tryz.ntmps150
      go_wp2_with fail
      refine HH.out.mono ?_
      rintro r w1 ⟨⟨e, rfl, hs⟩, hb2⟩
      obtain rfl := seen_nil hs
      have hX1 := HX.out.below hb2 (Nat.le_refl _)
      obtain ⟨⟨x0, x1, x2, x3, x4, x5⟩, _⟩ := hX1.six_of
      dsimp only at x0
      have HB2 := Lib.hid hb2
      clear hs hb2 hX1 x1 x2 x3 x4 x5
      go_wp2_with fail
      refine (eflag_any _ _).mono ?_
      rintro r w3 ⟨rfl, hb3⟩
      have HB3 := Lib.hid (HB2.out.trans (hb3.mono HB2.out.size))
      clear hb3
      have hz1 : Cel w3 (w.heap.size + 1) Vl.zero.list := HZ.out.below HB3.out (Nat.le_refl _)
      have hbw : Below w.heap.size w w3 := HBA.out.trans (HB3.out.mono HBA.out.size)
      obtain ⟨⟨z0, z1, z2⟩, g0, g1, g2⟩ := hz1.tri_of
      have HFIN := Lib.hid (hz1.tri (Co.flag true))
      have HBF := Lib.hid (below_tri (z := w.heap.size + 1) hbw (by omega) (Co.flag true))
      clear hz1 hbw
      go_wp2
      show bodyPost _ _ _ _ _ (tri w3 (w.heap.size + 1) (Co.flag true))
      generalize tri w3 (w.heap.size + 1) _ = wf at *
      obtain ⟨⟨k0, k1, k2⟩, _⟩ := HFIN.out.tri_of
      exact bodyPost_ret (v := .tuple #[Vl.val (Co.flag true), .nilIface]) (by simp [results, Tryz.results150, go_sem, k0, k1, k2, Vl.val]) rfl ⟨⟨_, rfl, .nil⟩, HBF.out⟩
    · have h1 : is = false := by cases is <;> simp_all
      subst h1
      rw [if_pos ⟨rfl, by simp⟩]
      by_cases h2 : cd2 = 0
      · subst h2
        have hf : Co.flagR ((0 : Int), is2) = (0, Co.flag is2) := rfl
        rw [hf]
        clear hf
        go_enter Tryz.func150, Tryz.ntmps150
        go_wp2_with fail
        refine HH.out.mono ?_
        rintro r w1 ⟨⟨e, rfl, hs⟩, hb2⟩
        obtain rfl := seen_nil hs
        have hX1 := HX.out.below hb2 (Nat.le_refl _)
        have hh1 : w1.heap[b]? = some (.cells #[.int .i64 y.op, .int .i64 y.kind, .int .i64 y.num, .string y.txt, .string y.name, .slice y.A y.n y.c, .int .i64 y2.op, .int .i64 y2.kind, .int .i64 y2.num, .string y2.txt, .string y2.name, .slice y2.A y2.n y2.c] 185 (0, 0)) := by
          rw [hb2.block b (by simp; omega), HBA.out.block b hbl]; exact HHH.out
        obtain ⟨⟨x0, x1, x2, x3, x4, x5⟩, _⟩ := hX1.six_of
        obtain ⟨p0, p1, p2, p3, p4, p5⟩ := cells12 (y := y2) hh1 ⟨rfl, rfl, rfl, rfl, rfl, rfl⟩
        have hbl1 := blk_lt hh1
        dsimp only at x0 x1 x2 x3 x4 x5
        have HB2 := Lib.hid hb2
        have HS2 := HHT.out w1 hb2
        clear hs hb2 hX1 hh1
        go_wp2_with fail
        refine HS2.out.mono ?_
        rintro r w2 ⟨⟨e, rfl, hs⟩, hb3⟩
        obtain rfl := seen_nil hs
        have HB3 := Lib.hid (HB2.out.trans (hb3.mono HB2.out.size))
        clear hb3 hs
        go_wp2_with fail
        refine (eflag_any _ _).mono ?_
        rintro r w3 ⟨rfl, hb4⟩
        have HB4 := Lib.hid (HB3.out.trans (hb4.mono HB3.out.size))
        clear hb4
        have hz1 : Cel w3 (w.heap.size + 1) Vl.zero.list := HZ.out.below HB4.out (Nat.le_refl _)
        have hbw : Below w.heap.size w w3 := HBA.out.trans (HB4.out.mono HBA.out.size)
        obtain ⟨⟨z0, z1, z2⟩, g0, g1, g2⟩ := hz1.tri_of
        have HFIN := Lib.hid (hz1.tri (Co.flag is2))
        have HBF := Lib.hid (below_tri (z := w.heap.size + 1) hbw (by omega) (Co.flag is2))
        clear hz1 hbw
        go_wp2
        show bodyPost _ _ _ _ _ (tri w3 (w.heap.size + 1) (Co.flag is2))
        generalize tri w3 (w.heap.size + 1) _ = wf at *
        obtain ⟨⟨k0, k1, k2⟩, _⟩ := HFIN.out.tri_of
        exact bodyPost_ret (v := .tuple #[Vl.val (Co.flag is2), .nilIface]) (by simp [results, Tryz.results150, go_sem, k0, k1, k2, Vl.val]) rfl ⟨⟨_, rfl, .nil⟩, HBF.out⟩
      · have hf : Co.flagR (cd2, is2) = (cd2, Vl.zero) := if_neg h2
        rw [hf]
        have HNZ := Lib.hid h2
        clear hf h2
        go_enter Tryz.func150, Tryz.ntmps150
        go_wp2_with fail
        refine HH.out.mono ?_
        rintro r w1 ⟨⟨e, rfl, hs⟩, hb2⟩
        obtain rfl := seen_nil hs
        have hX1 := HX.out.below hb2 (Nat.le_refl _)
        have hh1 : w1.heap[b]? = some (.cells #[.int .i64 y.op, .int .i64 y.kind, .int .i64 y.num, .string y.txt, .string y.name, .slice y.A y.n y.c, .int .i64 y2.op, .int .i64 y2.kind, .int .i64 y2.num, .string y2.txt, .string y2.name, .slice y2.A y2.n y2.c] 185 (0, 0)) := by
          rw [hb2.block b (by simp; omega), HBA.out.block b hbl]; exact HHH.out
        obtain ⟨⟨x0, x1, x2, x3, x4, x5⟩, _⟩ := hX1.six_of
        obtain ⟨p0, p1, p2, p3, p4, p5⟩ := cells12 (y := y2) hh1 ⟨rfl, rfl, rfl, rfl, rfl, rfl⟩
        have hbl1 := blk_lt hh1
        dsimp only at x0 x1 x2 x3 x4 x5
        have HB2 := Lib.hid hb2
        have HS2 := HHT.out w1 hb2
        clear hs hb2 hX1 hh1
        go_wp2_with fail
        refine HS2.out.mono ?_
        rintro r w2 ⟨⟨e, rfl, hs⟩, hb3⟩
        obtain ⟨aa, rfl, hka⟩ := seen_err hs HNZ.out
        have HKA := Lib.hid hka
        have HB3 := Lib.hid (HB2.out.trans (hb3.mono HB2.out.size))
        clear hb3 hs hka
        unfold errV
        have hz1 : Cel w2 (w.heap.size + 1) Vl.zero.list := HZ.out.below HB3.out (Nat.le_refl _)
        have hbw : Below w.heap.size w w2 := HBA.out.trans (HB3.out.mono HBA.out.size)
        obtain ⟨⟨z0, z1, z2⟩, g0, g1, g2⟩ := hz1.tri_of
        have HFIN := Lib.hid (hz1.tri Vl.zero)
        have HBF := Lib.hid (below_tri (z := w.heap.size + 1) hbw (by omega) Vl.zero)
        clear hz1 hbw
        go_wp2
        show bodyPost _ _ _ _ _ (tri w2 (w.heap.size + 1) Vl.zero)
        generalize tri w2 (w.heap.size + 1) _ = wf at *
        obtain ⟨⟨k0, k1, k2⟩, _⟩ := HFIN.out.tri_of
        exact bodyPost_ret (v := .tuple #[Vl.val Vl.zero, errV aa]) (by simp [results, Tryz.results150, go_sem, k0, k1, k2, Vl.val, errV]) rfl ⟨⟨_, rfl, .err _ aa HKA.out HNZ.out⟩, HBF.out⟩
  · rw [if_neg (fun h => h0 h.1)]
    have hf : Co.flagR (cd, is) = (cd, Vl.zero) := if_neg h0
    rw [hf]
    have HNZ := Lib.hid h0
    clear h0 hf
    obtain ⟨bt, hbt⟩ : ∃ bt, bt = (is == true) := ⟨_, rfl⟩
    go_enter Tryz.func150, Tryz.ntmps150
    go_wp2_with fail
    refine HH.out.mono ?_
    rintro r w1 ⟨⟨e, rfl, hs⟩, hb2⟩
    obtain ⟨aa, rfl, hka⟩ := seen_err hs HNZ.out
    have hX1 := HX.out.below hb2 (Nat.le_refl _)
    obtain ⟨⟨x0, x1, x2, x3, x4, x5⟩, _⟩ := hX1.six_of
    dsimp only at x0
    have HB2 := Lib.hid hb2
    have HKA := Lib.hid hka
    clear hs hb2 hka hX1 x1 x2 x3 x4 x5 hbt
    unfold errV
    have hz1 : Cel w1 (w.heap.size + 1) Vl.zero.list := HZ.out.below HB2.out (Nat.le_refl _)
    have hbw : Below w.heap.size w w1 := HBA.out.trans (HB2.out.mono HBA.out.size)
    obtain ⟨⟨z0, z1, z2⟩, g0, g1, g2⟩ := hz1.tri_of
    have HFIN := Lib.hid (hz1.tri Vl.zero)
    have HBF := Lib.hid (below_tri (z := w.heap.size + 1) hbw (by omega) Vl.zero)
    clear hz1 hbw
    go_wp2
    show bodyPost _ _ _ _ _ (tri w1 (w.heap.size + 1) Vl.zero)
    generalize tri w1 (w.heap.size + 1) _ = wf at *
    obtain ⟨⟨k0, k1, k2⟩, _⟩ := HFIN.out.tri_of
    exact bodyPost_ret (v := .tuple #[Vl.val Vl.zero, errV aa]) (by simp [results, Tryz.results150, go_sem, k0, k1, k2, Vl.val, errV]) rfl ⟨⟨_, rfl, .err _ aa HKA.out HNZ.out⟩, HBF.out⟩
set_option maxHeartbeats 6400000 in
theorem ejoinand_any (hE : CoErrsE V E) (hT : EvalC E V A n c l t) (hT2 : EvalC E V A n c l t2) (N : Nat → Prop) (b : Nat) (y y2 : Ex) (hb : Below V.heap.size V w) (hh : w.heap[b]? = some (.cells #[.int .i64 y.op, .int .i64 y.kind, .int .i64 y.num, .string y.txt, .string y.name, .slice y.A y.n y.c, .int .i64 y2.op, .int .i64 y2.kind, .int .i64 y2.num, .string y2.txt, .string y2.name, .slice y2.A y2.n y2.c] 185 (0, 0))) (ha : At w N t y) (ha2 : At w N t2 y2) :
    Calls Tryz.prog 150 #[Ex.val ⟨4, 0, 0, ⟨#[]⟩, ⟨#[]⟩, some ⟨b, 0, none⟩, 2, 2⟩, .slice A n c] w fun r w' => (∃ e, r = .returned (.tuple #[(Co.joinR 4 (Co.hold (Co.ev l t)) (Co.hold (Co.ev l t2))).2.val, e]) ∧ SeenBy E e (Co.joinR 4 (Co.hold (Co.ev l t)) (Co.hold (Co.ev l t2))).1) ∧ Below w.heap.size w w' := by
  have HBA : Hid (Below w.heap.size w ((w.alloc (.cells #[.int .i64 4, .int .i64 0, .int .i64 0, .string ⟨#[]⟩, .string ⟨#[]⟩, .slice (some ⟨b, 0, none⟩) 2 2] 185)).alloc (.cells #[.int .i64 0, .int .i64 0, .string ⟨#[]⟩] 94))) := ((Below.refl _ _).alloc (Nat.le_refl _) _).alloc (by simp) _
  have HZ : Hid (Cel ((w.alloc (.cells #[.int .i64 4, .int .i64 0, .int .i64 0, .string ⟨#[]⟩, .string ⟨#[]⟩, .slice (some ⟨b, 0, none⟩) 2 2] 185)).alloc (.cells #[.int .i64 0, .int .i64 0, .string ⟨#[]⟩] 94)) (w.heap.size + 1) Vl.zero.list) := by
    have := Cel.lit (w.alloc (.cells #[.int .i64 4, .int .i64 0, .int .i64 0, .string ⟨#[]⟩, .string ⟨#[]⟩, .slice (some ⟨b, 0, none⟩) 2 2] 185)) #[.int .i64 0, .int .i64 0, .string ⟨#[]⟩] 94
    rwa [show (w.alloc (.cells #[.int .i64 4, .int .i64 0, .int .i64 0, .string ⟨#[]⟩, .string ⟨#[]⟩, .slice (some ⟨b, 0, none⟩) 2 2] 185)).heap.size = w.heap.size + 1 from by simp] at this
  have HX : Hid (Cel ((w.alloc (.cells #[.int .i64 4, .int .i64 0, .int .i64 0, .string ⟨#[]⟩, .string ⟨#[]⟩, .slice (some ⟨b, 0, none⟩) 2 2] 185)).alloc (.cells #[.int .i64 0, .int .i64 0, .string ⟨#[]⟩] 94)) w.heap.size (Ex.list ⟨4, 0, 0, ⟨#[]⟩, ⟨#[]⟩, some ⟨b, 0, none⟩, 2, 2⟩)) := (Ex.lit w ⟨4, 0, 0, ⟨#[]⟩, ⟨#[]⟩, some ⟨b, 0, none⟩, 2, 2⟩).alloc _
  have HV := Lib.hid hb
  have HVA := Lib.hid (hb.trans (HBA.out.mono hb.size))
  have hbl := blk_lt hh
  have HH := Lib.hid (eholds_any hE hT N y HVA.out ((ha.alloc _).alloc _))
  have HHH := Lib.hid hh
  have HH2 : ∀ w1, Below ((w.alloc (.cells #[.int .i64 4, .int .i64 0, .int .i64 0, .string ⟨#[]⟩, .string ⟨#[]⟩, .slice (some ⟨b, 0, none⟩) 2 2] 185)).alloc (.cells #[.int .i64 0, .int .i64 0, .string ⟨#[]⟩] 94)).heap.size ((w.alloc (.cells #[.int .i64 4, .int .i64 0, .int .i64 0, .string ⟨#[]⟩, .string ⟨#[]⟩, .slice (some ⟨b, 0, none⟩) 2 2] 185)).alloc (.cells #[.int .i64 0, .int .i64 0, .string ⟨#[]⟩] 94)) w1 → Hid (Calls Tryz.prog 157 #[y2.val, .slice A n c] w1 fun r w' => (∃ e, r = .returned (.tuple #[.bool (Co.hold (Co.ev l t2)).2, e]) ∧ SeenBy E e (Co.hold (Co.ev l t2)).1) ∧ Below w1.heap.size w1 w') := fun w1 h1 =>
    eholds_any hE hT2 N y2 (HVA.out.trans (h1.mono HVA.out.size)) (((ha2.alloc _).alloc _).below h1 (Nat.le_refl _))
  have HHT := Lib.hid HH2
  obtain ⟨y0, y1, y2', y3, y4, y5⟩ := cells6 (y := y) hh ⟨rfl, rfl, rfl, rfl, rfl, rfl⟩
  have hr : Co.joinR 4 (Co.hold (Co.ev l t)) (Co.hold (Co.ev l t2)) = if (Co.hold (Co.ev l t)).1 = 0 ∧ (Co.hold (Co.ev l t)).2 ≠ false then Co.flagR (Co.hold (Co.ev l t2)) else Co.flagR (Co.hold (Co.ev l t)) := rfl
  generalize Co.hold (Co.ev l t) = R at *
  generalize Co.hold (Co.ev l t2) = R2 at *
  obtain ⟨cd, is⟩ := R
  obtain ⟨cd2, is2⟩ := R2
  dsimp only at hr HH HHT
  rw [hr]
  clear hE hT hT2 hb hh ha ha2 hr HH2
  unfold Ex.val at *
  dsimp only at *
  by_cases h0 : cd = 0
  · subst h0
    by_cases h1 : is = false
    · subst h1
      rw [if_neg (by simp)]
      have hf : Co.flagR ((0 : Int), false) = (0, Co.flag false) := rfl
      rw [hf]
      clear hf
      go_enter Tryz.func150, Tryz.ntmps150
      go_wp2_with fail
      refine HH.out.mono ?_
      rintro r w1 ⟨⟨e, rfl, hs⟩, hb2⟩
      obtain rfl := seen_nil hs
      have hX1 := HX.out.below hb2 (Nat.le_refl _)
      obtain ⟨⟨x0, x1, x2, x3, x4, x5⟩, _⟩ := hX1.six_of
      dsimp only at x0
      have HB2 := Lib.hid hb2
      clear hs hb2 hX1 x1 x2 x3 x4 x5
      go_wp2_with fail
      refine (eflag_any _ _).mono ?_
      rintro r w3 ⟨rfl, hb3⟩
      have HB3 := Lib.hid (HB2.out.trans (hb3.mono HB2.out.size))
      clear hb3
      have hz1 : Cel w3 (w.heap.size + 1) Vl.zero.list := HZ.out.below HB3.out (Nat.le_refl _)
      have hbw : Below w.heap.size w w3 := HBA.out.trans (HB3.out.mono HBA.out.size)
      obtain ⟨⟨z0, z1, z2⟩, g0, g1, g2⟩ := hz1.tri_of
      have HFIN := Lib.hid (hz1.tri (Co.flag false))
      have HBF := Lib.hid (below_tri (z := w.heap.size + 1) hbw (by omega) (Co.flag false))
      clear hz1 hbw
      go_wp2
      show bodyPost _ _ _ _ _ (tri w3 (w.heap.size + 1) (Co.flag false))
      generalize tri w3 (w.heap.size + 1) _ = wf at *
      obtain ⟨⟨k0, k1, k2⟩, _⟩ := HFIN.out.tri_of
      exact bodyPost_ret (v := .tuple #[Vl.val (Co.flag false), .nilIface]) (by simp [results, Tryz.results150, go_sem, k0, k1, k2, Vl.val]) rfl ⟨⟨_, rfl, .nil⟩, HBF.out⟩
    · have h1 : is = true := by cases is <;> simp_all
      subst h1
      rw [if_pos ⟨rfl, by simp⟩]
      by_cases h2 : cd2 = 0
      · subst h2
        have hf : Co.flagR ((0 : Int), is2) = (0, Co.flag is2) := rfl
        rw [hf]
        clear hf
        go_enter Tryz.func150, Tryz.ntmps150
        go_wp2_with fail
        refine HH.out.mono ?_
        rintro r w1 ⟨⟨e, rfl, hs⟩, hb2⟩
        obtain rfl := seen_nil hs
        have hX1 := HX.out.below hb2 (Nat.le_refl _)
        have hh1 : w1.heap[b]? = some (.cells #[.int .i64 y.op, .int .i64 y.kind, .int .i64 y.num, .string y.txt, .string y.name, .slice y.A y.n y.c, .int .i64 y2.op, .int .i64 y2.kind, .int .i64 y2.num, .string y2.txt, .string y2.name, .slice y2.A y2.n y2.c] 185 (0, 0)) := by
          rw [hb2.block b (by simp; omega), HBA.out.block b hbl]; exact HHH.out
        obtain ⟨⟨x0, x1, x2, x3, x4, x5⟩, _⟩ := hX1.six_of
        obtain ⟨p0, p1, p2, p3, p4, p5⟩ := cells12 (y := y2) hh1 ⟨rfl, rfl, rfl, rfl, rfl, rfl⟩
        have hbl1 := blk_lt hh1
        dsimp only at x0 x1 x2 x3 x4 x5
        have HB2 := Lib.hid hb2
        have HS2 := HHT.out w1 hb2
        clear hs hb2 hX1 hh1
        go_wp2_with fail
        refine HS2.out.mono ?_
        rintro r w2 ⟨⟨e, rfl, hs⟩, hb3⟩
        obtain rfl := seen_nil hs
        have HB3 := Lib.hid (HB2.out.trans (hb3.mono HB2.out.size))
        clear hb3 hs
        go_wp2_with fail
        refine (eflag_any _ _).mono ?_
        rintro r w3 ⟨rfl, hb4⟩
        have HB4 := Lib.hid (HB3.out.trans (hb4.mono HB3.out.size))
        clear hb4
        have hz1 : Cel w3 (w.heap.size + 1) Vl.zero.list := HZ.out.below HB4.out (Nat.le_refl _)
        have hbw : Below w.heap.size w w3 := HBA.out.trans (HB4.out.mono HBA.out.size)
        obtain ⟨⟨z0, z1, z2⟩, g0, g1, g2⟩ := hz1.tri_of
        have HFIN := Lib.hid (hz1.tri (Co.flag is2))
        have HBF := Lib.hid (below_tri (z := w.heap.size + 1) hbw (by omega) (Co.flag is2))
        clear hz1 hbw
        go_wp2
        show bodyPost _ _ _ _ _ (tri w3 (w.heap.size + 1) (Co.flag is2))
        generalize tri w3 (w.heap.size + 1) _ = wf at *
        obtain ⟨⟨k0, k1, k2⟩, _⟩ := HFIN.out.tri_of
        exact bodyPost_ret (v := .tuple #[Vl.val (Co.flag is2), .nilIface]) (by simp [results, Tryz.results150, go_sem, k0, k1, k2, Vl.val]) rfl ⟨⟨_, rfl, .nil⟩, HBF.out⟩
      · have hf : Co.flagR (cd2, is2) = (cd2, Vl.zero) := if_neg h2
        rw [hf]
        have HNZ := Lib.hid h2
        clear hf h2
        go_enter Tryz.func150, Tryz.ntmps150
        go_wp2_with fail
        refine HH.out.mono ?_
        rintro r w1 ⟨⟨e, rfl, hs⟩, hb2⟩
        obtain rfl := seen_nil hs
        have hX1 := HX.out.below hb2 (Nat.le_refl _)
        have hh1 : w1.heap[b]? = some (.cells #[.int .i64 y.op, .int .i64 y.kind, .int .i64 y.num, .string y.txt, .string y.name, .slice y.A y.n y.c, .int .i64 y2.op, .int .i64 y2.kind, .int .i64 y2.num, .string y2.txt, .string y2.name, .slice y2.A y2.n y2.c] 185 (0, 0)) := by
          rw [hb2.block b (by simp; omega), HBA.out.block b hbl]; exact HHH.out
        obtain ⟨⟨x0, x1, x2, x3, x4, x5⟩, _⟩ := hX1.six_of
        obtain ⟨p0, p1, p2, p3, p4, p5⟩ := cells12 (y := y2) hh1 ⟨rfl, rfl, rfl, rfl, rfl, rfl⟩
        have hbl1 := blk_lt hh1
        dsimp only at x0 x1 x2 x3 x4 x5
        have HB2 := Lib.hid hb2
        have HS2 := HHT.out w1 hb2
        clear hs hb2 hX1 hh1
        go_wp2_with fail
        refine HS2.out.mono ?_
        rintro r w2 ⟨⟨e, rfl, hs⟩, hb3⟩
        obtain ⟨aa, rfl, hka⟩ := seen_err hs HNZ.out
        have HKA := Lib.hid hka
        have HB3 := Lib.hid (HB2.out.trans (hb3.mono HB2.out.size))
        clear hb3 hs hka
        unfold errV
        have hz1 : Cel w2 (w.heap.size + 1) Vl.zero.list := HZ.out.below HB3.out (Nat.le_refl _)
        have hbw : Below w.heap.size w w2 := HBA.out.trans (HB3.out.mono HBA.out.size)
        obtain ⟨⟨z0, z1, z2⟩, g0, g1, g2⟩ := hz1.tri_of
        have HFIN := Lib.hid (hz1.tri Vl.zero)
        have HBF := Lib.hid (below_tri (z := w.heap.size + 1) hbw (by omega) Vl.zero)
        clear hz1 hbw
        go_wp2
        show bodyPost _ _ _ _ _ (tri w2 (w.heap.size + 1) Vl.zero)
        generalize tri w2 (w.heap.size + 1) _ = wf at *
        obtain ⟨⟨k0, k1, k2⟩, _⟩ := HFIN.out.tri_of
        exact bodyPost_ret (v := .tuple #[Vl.val Vl.zero, errV aa]) (by simp [results, Tryz.results150, go_sem, k0, k1, k2, Vl.val, errV]) rfl ⟨⟨_, rfl, .err _ aa HKA.out HNZ.out⟩, HBF.out⟩
  · rw [if_neg (fun h => h0 h.1)]
    have hf : Co.flagR (cd, is) = (cd, Vl.zero) := if_neg h0
    rw [hf]
    have HNZ := Lib.hid h0
    clear h0 hf
    obtain ⟨bt, hbt⟩ : ∃ bt, bt = (is == false) := ⟨_, rfl⟩
    go_enter Tryz.func150, Tryz.ntmps150
    go_wp2_with fail
    refine HH.out.mono ?_
    rintro r w1 ⟨⟨e, rfl, hs⟩, hb2⟩
    obtain ⟨aa, rfl, hka⟩ := seen_err hs HNZ.out
    have hX1 := HX.out.below hb2 (Nat.le_refl _)
    obtain ⟨⟨x0, x1, x2, x3, x4, x5⟩, _⟩ := hX1.six_of
    dsimp only at x0
    have HB2 := Lib.hid hb2
    have HKA := Lib.hid hka
    clear hs hb2 hka hX1 x1 x2 x3 x4 x5 hbt
    unfold errV
    have hz1 : Cel w1 (w.heap.size + 1) Vl.zero.list := HZ.out.below HB2.out (Nat.le_refl _)
    have hbw : Below w.heap.size w w1 := HBA.out.trans (HB2.out.mono HBA.out.size)
    obtain ⟨⟨z0, z1, z2⟩, g0, g1, g2⟩ := hz1.tri_of
    have HFIN := Lib.hid (hz1.tri Vl.zero)
    have HBF := Lib.hid (below_tri (z := w.heap.size + 1) hbw (by omega) Vl.zero)
    clear hz1 hbw
    go_wp2
    show bodyPost _ _ _ _ _ (tri w1 (w.heap.size + 1) Vl.zero)
    generalize tri w1 (w.heap.size + 1) _ = wf at *
    obtain ⟨⟨k0, k1, k2⟩, _⟩ := HFIN.out.tri_of
    exact bodyPost_ret (v := .tuple #[Vl.val Vl.zero, errV aa]) (by simp [results, Tryz.results150, go_sem, k0, k1, k2, Vl.val, errV]) rfl ⟨⟨_, rfl, .err _ aa HKA.out HNZ.out⟩, HBF.out⟩
end
end Go.Proofs.YtkffnfgdmcebdaaGreatDoor
