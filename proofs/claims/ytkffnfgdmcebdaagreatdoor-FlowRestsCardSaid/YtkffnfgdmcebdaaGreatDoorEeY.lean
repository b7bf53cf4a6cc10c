/- Walks of package cond: orders. -/
import Derived.Test.YtkffnfgdmcebdaaGreatDoorYJoint6
namespace Go.Proofs.YtkffnfgdmcebdaaGreatDoor
open Go.RowKit

section
variable {E : Int → Option Addr} {V w : World}
theorem Co.by8 (c : Int) : Co.byOp 8 c = decide (c < 0) := rfl
theorem Co.by9 (c : Int) : Co.byOp 9 c = decide (c ≤ 0) := rfl
theorem Co.by10 (c : Int) : Co.byOp 10 c = decide (0 < c) := rfl
theorem Co.by11 {op : Int} (c : Int) (h8 : ¬ op = 8) (h9 : ¬ op = 9) (h10 : ¬ op = 10) : Co.byOp op c = decide (0 ≤ c) := by
  unfold Co.byOp; rw [if_neg h8, if_neg h9, if_neg h10]
set_option maxHeartbeats 6400000 in
theorem eord_any (hE : CoErrsE V E) (hb : Below V.heap.size V w) (op : Int) (a b : Vl) :
    Calls Tryz.prog 161 #[.int .i64 op, a.val, b.val] w fun r w' => (∃ e, r = .returned (.tuple #[(Co.ordered op a b).2.val, e]) ∧ SeenBy E e (Co.ordered op a b).1) ∧ Below w.heap.size w w' := by
  have HB1 := Lib.hid (eboth_any 1 a b)
  have HB3 := Lib.hid (eboth_any 3 a b)
  obtain ⟨ka, na, ta⟩ := a
  obtain ⟨kb, nb, tb⟩ := b
  have hcc : Co.ordered op ⟨ka, na, ta⟩ ⟨kb, nb, tb⟩ = if ka = 1 ∧ kb = 1 then (0, Co.flag (Co.byOp op (Co.cmpI na nb))) else if ka = 3 ∧ kb = 3 then (0, Co.flag (Co.byOp op (Lib.compareBytes ta.data.toList tb.data.toList))) else (110, Vl.zero) := rfl
  obtain ⟨R, hR⟩ : ∃ R, R = Co.ordered op ⟨ka, na, ta⟩ ⟨kb, nb, tb⟩ := ⟨_, rfl⟩
  rw [← hR] at hcc ⊢
  unfold Vl.val at *
  dsimp only at *
  have hb1 : Below w.heap.size w (((w.alloc (.cells #[.int .i64 ka, .int .i64 na, .string ta] 94)).alloc (.cells #[.int .i64 kb, .int .i64 nb, .string tb] 94)).alloc (.cells #[.int .i64 0, .int .i64 0, .string ⟨#[]⟩] 94)) := (((Below.refl _ _).alloc (Nat.le_refl _) _).alloc (by simp) _).alloc (by simp; omega) _
  have HZ : Hid (Cel (((w.alloc (.cells #[.int .i64 ka, .int .i64 na, .string ta] 94)).alloc (.cells #[.int .i64 kb, .int .i64 nb, .string tb] 94)).alloc (.cells #[.int .i64 0, .int .i64 0, .string ⟨#[]⟩] 94)) (w.heap.size + 1 + 1) Vl.zero.list) := by
    have := Cel.lit ((w.alloc (.cells #[.int .i64 ka, .int .i64 na, .string ta] 94)).alloc (.cells #[.int .i64 kb, .int .i64 nb, .string tb] 94)) #[.int .i64 0, .int .i64 0, .string ⟨#[]⟩] 94
    rwa [show ((w.alloc (.cells #[.int .i64 ka, .int .i64 na, .string ta] 94)).alloc (.cells #[.int .i64 kb, .int .i64 nb, .string tb] 94)).heap.size = w.heap.size + 1 + 1 from by simp] at this
  have HA : Hid (Cel (((w.alloc (.cells #[.int .i64 ka, .int .i64 na, .string ta] 94)).alloc (.cells #[.int .i64 kb, .int .i64 nb, .string tb] 94)).alloc (.cells #[.int .i64 0, .int .i64 0, .string ⟨#[]⟩] 94)) w.heap.size (Vl.list ⟨ka, na, ta⟩)) := ((Cel.lit w #[.int .i64 ka, .int .i64 na, .string ta] 94).alloc _).alloc _
  have HC : Hid (Cel (((w.alloc (.cells #[.int .i64 ka, .int .i64 na, .string ta] 94)).alloc (.cells #[.int .i64 kb, .int .i64 nb, .string tb] 94)).alloc (.cells #[.int .i64 0, .int .i64 0, .string ⟨#[]⟩] 94)) (w.heap.size + 1) (Vl.list ⟨kb, nb, tb⟩)) := by
    have := (Cel.lit (w.alloc (.cells #[.int .i64 ka, .int .i64 na, .string ta] 94)) #[.int .i64 kb, .int .i64 nb, .string tb] 94).alloc (.cells #[.int .i64 0, .int .i64 0, .string ⟨#[]⟩] 94)
    rwa [show (w.alloc (.cells #[.int .i64 ka, .int .i64 na, .string ta] 94)).heap.size = w.heap.size + 1 from by simp] at this
  have HBB := Lib.hid hb1
  have HE := Lib.hid hE
  have HV := Lib.hid hb
  clear hb1 hR hE hb
  have fin : ∀ (bb : Bool) (w1 : World), Below (((w.alloc (.cells #[.int .i64 ka, .int .i64 na, .string ta] 94)).alloc (.cells #[.int .i64 kb, .int .i64 nb, .string tb] 94)).alloc (.cells #[.int .i64 0, .int .i64 0, .string ⟨#[]⟩] 94)).heap.size (((w.alloc (.cells #[.int .i64 ka, .int .i64 na, .string ta] 94)).alloc (.cells #[.int .i64 kb, .int .i64 nb, .string tb] 94)).alloc (.cells #[.int .i64 0, .int .i64 0, .string ⟨#[]⟩] 94)) w1 →
      Cel (tri w1 (w.heap.size + 1 + 1) (Co.flag bb)) (w.heap.size + 1 + 1) (Vl.list (Co.flag bb)) ∧ Below w.heap.size w (tri w1 (w.heap.size + 1 + 1) (Co.flag bb)) ∧ Cel w1 (w.heap.size + 1 + 1) Vl.zero.list := fun bb w1 hb2 => by
    have hz1 : Cel w1 (w.heap.size + 1 + 1) Vl.zero.list := HZ.out.below hb2 (Nat.le_refl _)
    exact ⟨hz1.tri _, below_tri (HBB.out.trans (hb2.mono HBB.out.size)) (by omega) _, hz1⟩
  have FIN := Lib.hid fin
  clear fin
  by_cases h1 : ka = 1 ∧ kb = 1
  · rw [if_pos h1] at hcc
    have hbb : (ka == 1 && kb == 1) = true := by rw [h1.1, h1.2]; rfl
    rw [hbb] at HB1
    have HCM := Lib.hid (ecmp_any na nb)
    obtain ⟨c, hc⟩ : ∃ c, c = Co.cmpI na nb := ⟨_, rfl⟩
    rw [← hc] at hcc HCM
    have HCX := Lib.hid hc
    clear h1 hbb hc HB3
    by_cases h8 : op = 8
    · subst h8
      rw [Co.by8] at hcc
      subst hcc
      clear HCX
      go_enter Tryz.func161, Tryz.ntmps161
      go_wp2_with fail
      refine (HB1.out _).mono ?_
      rintro x w2 ⟨rfl, hb2⟩
      have HBW := Lib.hid hb2
      have HA2 := HA.out.below hb2 (Nat.le_refl _)
      have HC2 := HC.out.below hb2 (Nat.le_refl _)
      obtain ⟨⟨a0, a1, a2⟩, _⟩ := HA2.tri_of
      obtain ⟨⟨e0, e1, e2⟩, _⟩ := HC2.tri_of
      dsimp only at a0 a1 a2 e0 e1 e2
      clear hb2 HA2 HC2
      go_wp2_with fail
      refine (HCM.out _).mono ?_
      rintro x w3 ⟨rfl, rfl⟩
      go_wp2_with fail
      refine (eflag_any _ _).mono ?_
      rintro x w5 ⟨rfl, hb5⟩
      obtain ⟨hfin, hbf, hz1⟩ := FIN.out (decide (c < 0)) w5 (HBW.out.trans (hb5.mono HBW.out.size))
      obtain ⟨⟨z0, z1, z2⟩, g0, g1, g2⟩ := hz1.tri_of
      have HFIN := Lib.hid hfin
      have HBF := Lib.hid hbf
      clear hfin hbf hb5 hz1
      go_wp2
      show bodyPost _ _ _ _ _ (tri w5 (w.heap.size + 1 + 1) (Co.flag (decide (c < 0))))
      generalize tri w5 (w.heap.size + 1 + 1) _ = wf at *
      obtain ⟨⟨k0, k1, k2⟩, _⟩ := HFIN.out.tri_of
      exact bodyPost_ret (v := .tuple #[Vl.val (Co.flag (decide (c < 0))), .nilIface]) (by simp [results, Tryz.results161, go_sem, k0, k1, k2, Vl.val]) rfl ⟨⟨_, rfl, .nil⟩, HBF.out⟩
    have i8 : (op == 8) = false := by rw [beq_eq_false_iff_ne]; exact h8
    by_cases h9 : op = 9
    · subst h9
      rw [Co.by9] at hcc
      subst hcc
      clear i8
      clear HCX
      go_enter Tryz.func161, Tryz.ntmps161
      go_wp2_with fail
      refine (HB1.out _).mono ?_
      rintro x w2 ⟨rfl, hb2⟩
      have HBW := Lib.hid hb2
      have HA2 := HA.out.below hb2 (Nat.le_refl _)
      have HC2 := HC.out.below hb2 (Nat.le_refl _)
      obtain ⟨⟨a0, a1, a2⟩, _⟩ := HA2.tri_of
      obtain ⟨⟨e0, e1, e2⟩, _⟩ := HC2.tri_of
      dsimp only at a0 a1 a2 e0 e1 e2
      clear hb2 HA2 HC2
      go_wp2_with fail
      refine (HCM.out _).mono ?_
      rintro x w3 ⟨rfl, rfl⟩
      go_wp2_with fail
      refine (eflag_any _ _).mono ?_
      rintro x w5 ⟨rfl, hb5⟩
      obtain ⟨hfin, hbf, hz1⟩ := FIN.out (decide (c ≤ 0)) w5 (HBW.out.trans (hb5.mono HBW.out.size))
      obtain ⟨⟨z0, z1, z2⟩, g0, g1, g2⟩ := hz1.tri_of
      have HFIN := Lib.hid hfin
      have HBF := Lib.hid hbf
      clear hfin hbf hb5 hz1
      go_wp2
      show bodyPost _ _ _ _ _ (tri w5 (w.heap.size + 1 + 1) (Co.flag (decide (c ≤ 0))))
      generalize tri w5 (w.heap.size + 1 + 1) _ = wf at *
      obtain ⟨⟨k0, k1, k2⟩, _⟩ := HFIN.out.tri_of
      exact bodyPost_ret (v := .tuple #[Vl.val (Co.flag (decide (c ≤ 0))), .nilIface]) (by simp [results, Tryz.results161, go_sem, k0, k1, k2, Vl.val]) rfl ⟨⟨_, rfl, .nil⟩, HBF.out⟩
    have i9 : (op == 9) = false := by rw [beq_eq_false_iff_ne]; exact h9
    by_cases h10 : op = 10
    · subst h10
      rw [Co.by10] at hcc
      subst hcc
      clear i8 i9
      clear HCX
      go_enter Tryz.func161, Tryz.ntmps161
      go_wp2_with fail
      refine (HB1.out _).mono ?_
      rintro x w2 ⟨rfl, hb2⟩
      have HBW := Lib.hid hb2
      have HA2 := HA.out.below hb2 (Nat.le_refl _)
      have HC2 := HC.out.below hb2 (Nat.le_refl _)
      obtain ⟨⟨a0, a1, a2⟩, _⟩ := HA2.tri_of
      obtain ⟨⟨e0, e1, e2⟩, _⟩ := HC2.tri_of
      dsimp only at a0 a1 a2 e0 e1 e2
      clear hb2 HA2 HC2
      go_wp2_with fail
      refine (HCM.out _).mono ?_
      rintro x w3 ⟨rfl, rfl⟩
      go_wp2_with fail
      refine (eflag_any _ _).mono ?_
      rintro x w5 ⟨rfl, hb5⟩
      obtain ⟨hfin, hbf, hz1⟩ := FIN.out (decide (0 < c)) w5 (HBW.out.trans (hb5.mono HBW.out.size))
      obtain ⟨⟨z0, z1, z2⟩, g0, g1, g2⟩ := hz1.tri_of
      have HFIN := Lib.hid hfin
      have HBF := Lib.hid hbf
      clear hfin hbf hb5 hz1
      go_wp2
      show bodyPost _ _ _ _ _ (tri w5 (w.heap.size + 1 + 1) (Co.flag (decide (0 < c))))
      generalize tri w5 (w.heap.size + 1 + 1) _ = wf at *
      obtain ⟨⟨k0, k1, k2⟩, _⟩ := HFIN.out.tri_of
      exact bodyPost_ret (v := .tuple #[Vl.val (Co.flag (decide (0 < c))), .nilIface]) (by simp [results, Tryz.results161, go_sem, k0, k1, k2, Vl.val]) rfl ⟨⟨_, rfl, .nil⟩, HBF.out⟩
    have i10 : (op == 10) = false := by rw [beq_eq_false_iff_ne]; exact h10
    rw [Co.by11 c h8 h9 h10] at hcc
    subst hcc
    clear h8 h9 h10 HCX
    go_enter Tryz.func161, Tryz.ntmps161
    go_wp2_with fail
    refine (HB1.out _).mono ?_
    rintro x w2 ⟨rfl, hb2⟩
    have HBW := Lib.hid hb2
    have HA2 := HA.out.below hb2 (Nat.le_refl _)
    have HC2 := HC.out.below hb2 (Nat.le_refl _)
    obtain ⟨⟨a0, a1, a2⟩, _⟩ := HA2.tri_of
    obtain ⟨⟨e0, e1, e2⟩, _⟩ := HC2.tri_of
    dsimp only at a0 a1 a2 e0 e1 e2
    clear hb2 HA2 HC2
    go_wp2_with fail
    refine (HCM.out _).mono ?_
    rintro x w3 ⟨rfl, rfl⟩
    go_wp2_with fail
    refine (eflag_any _ _).mono ?_
    rintro x w5 ⟨rfl, hb5⟩
    obtain ⟨hfin, hbf, hz1⟩ := FIN.out (decide (0 ≤ c)) w5 (HBW.out.trans (hb5.mono HBW.out.size))
    obtain ⟨⟨z0, z1, z2⟩, g0, g1, g2⟩ := hz1.tri_of
    have HFIN := Lib.hid hfin
    have HBF := Lib.hid hbf
    clear hfin hbf hb5 hz1
    go_wp2
    show bodyPost _ _ _ _ _ (tri w5 (w.heap.size + 1 + 1) (Co.flag (decide (0 ≤ c))))
    generalize tri w5 (w.heap.size + 1 + 1) _ = wf at *
    obtain ⟨⟨k0, k1, k2⟩, _⟩ := HFIN.out.tri_of
    exact bodyPost_ret (v := .tuple #[Vl.val (Co.flag (decide (0 ≤ c))), .nilIface]) (by simp [results, Tryz.results161, go_sem, k0, k1, k2, Vl.val]) rfl ⟨⟨_, rfl, .nil⟩, HBF.out⟩
  rw [if_neg h1] at hcc
  have hbb : (ka == 1 && kb == 1) = false := by
    rw [Bool.eq_false_iff]
    intro h
    simp at h
    exact h1 h
  rw [hbb] at HB1
  clear h1 hbb
  by_cases h3 : ka = 3 ∧ kb = 3
  · rw [if_pos h3] at hcc
    have hbb : (ka == 3 && kb == 3) = true := by rw [h3.1, h3.2]; rfl
    rw [hbb] at HB3
    have HCM := Lib.hid (estrcmp_any ta tb)
    obtain ⟨c, hc⟩ : ∃ c, c = Lib.compareBytes ta.data.toList tb.data.toList := ⟨_, rfl⟩
    rw [← hc] at hcc HCM
    have HCX := Lib.hid hc
    clear h3 hbb hc
    by_cases h8 : op = 8
    · subst h8
      rw [Co.by8] at hcc
      subst hcc
      clear HCX
      go_enter Tryz.func161, Tryz.ntmps161
      go_wp2_with fail
      refine (HB1.out _).mono ?_
      rintro x w2 ⟨rfl, hb2⟩
      have HBW2 := Lib.hid hb2
      have HA2 := HA.out.below hb2 (Nat.le_refl _)
      have HC2 := HC.out.below hb2 (Nat.le_refl _)
      obtain ⟨⟨a0, a1, a2⟩, _⟩ := HA2.tri_of
      obtain ⟨⟨e0, e1, e2⟩, _⟩ := HC2.tri_of
      dsimp only at a0 a1 a2 e0 e1 e2
      have HA2 := Lib.hid HA2
      have HC2 := Lib.hid HC2
      clear hb2
      go_wp2_with fail
      refine (HB3.out _).mono ?_
      rintro x w4 ⟨rfl, hb4⟩
      have HBW := Lib.hid (HBW2.out.trans (hb4.mono HBW2.out.size))
      have HA4 := HA2.out.below hb4 (Nat.le_refl _)
      have HC4 := HC2.out.below hb4 (Nat.le_refl _)
      clear a0 a1 a2 e0 e1 e2
      obtain ⟨⟨a0, a1, a2⟩, _⟩ := HA4.tri_of
      obtain ⟨⟨e0, e1, e2⟩, _⟩ := HC4.tri_of
      dsimp only at a0 a1 a2 e0 e1 e2
      clear hb4 HA4 HC4
      go_wp2_with fail
      refine (HCM.out _).mono ?_
      rintro x w3 ⟨rfl, rfl⟩
      go_wp2_with fail
      refine (eflag_any _ _).mono ?_
      rintro x w5 ⟨rfl, hb5⟩
      obtain ⟨hfin, hbf, hz1⟩ := FIN.out (decide (c < 0)) w5 (HBW.out.trans (hb5.mono HBW.out.size))
      obtain ⟨⟨z0, z1, z2⟩, g0, g1, g2⟩ := hz1.tri_of
      have HFIN := Lib.hid hfin
      have HBF := Lib.hid hbf
      clear hfin hbf hb5 hz1
      go_wp2
      show bodyPost _ _ _ _ _ (tri w5 (w.heap.size + 1 + 1) (Co.flag (decide (c < 0))))
      generalize tri w5 (w.heap.size + 1 + 1) _ = wf at *
      obtain ⟨⟨k0, k1, k2⟩, _⟩ := HFIN.out.tri_of
      exact bodyPost_ret (v := .tuple #[Vl.val (Co.flag (decide (c < 0))), .nilIface]) (by simp [results, Tryz.results161, go_sem, k0, k1, k2, Vl.val]) rfl ⟨⟨_, rfl, .nil⟩, HBF.out⟩
    have i8 : (op == 8) = false := by rw [beq_eq_false_iff_ne]; exact h8
    by_cases h9 : op = 9
    · subst h9
      rw [Co.by9] at hcc
      subst hcc
      clear i8
      clear HCX
      go_enter Tryz.func161, Tryz.ntmps161
      go_wp2_with fail
      refine (HB1.out _).mono ?_
      rintro x w2 ⟨rfl, hb2⟩
      have HBW2 := Lib.hid hb2
      have HA2 := HA.out.below hb2 (Nat.le_refl _)
      have HC2 := HC.out.below hb2 (Nat.le_refl _)
      obtain ⟨⟨a0, a1, a2⟩, _⟩ := HA2.tri_of
      obtain ⟨⟨e0, e1, e2⟩, _⟩ := HC2.tri_of
      dsimp only at a0 a1 a2 e0 e1 e2
      have HA2 := Lib.hid HA2
      have HC2 := Lib.hid HC2
      clear hb2
      go_wp2_with fail
      refine (HB3.out _).mono ?_
      rintro x w4 ⟨rfl, hb4⟩
      have HBW := Lib.hid (HBW2.out.trans (hb4.mono HBW2.out.size))
      have HA4 := HA2.out.below hb4 (Nat.le_refl _)
      have HC4 := HC2.out.below hb4 (Nat.le_refl _)
      clear a0 a1 a2 e0 e1 e2
      obtain ⟨⟨a0, a1, a2⟩, _⟩ := HA4.tri_of
      obtain ⟨⟨e0, e1, e2⟩, _⟩ := HC4.tri_of
      dsimp only at a0 a1 a2 e0 e1 e2
      clear hb4 HA4 HC4
      go_wp2_with fail
      refine (HCM.out _).mono ?_
      rintro x w3 ⟨rfl, rfl⟩
      go_wp2_with fail
      refine (eflag_any _ _).mono ?_
      rintro x w5 ⟨rfl, hb5⟩
      obtain ⟨hfin, hbf, hz1⟩ := FIN.out (decide (c ≤ 0)) w5 (HBW.out.trans (hb5.mono HBW.out.size))
      obtain ⟨⟨z0, z1, z2⟩, g0, g1, g2⟩ := hz1.tri_of
      have HFIN := Lib.hid hfin
      have HBF := Lib.hid hbf
      clear hfin hbf hb5 hz1
      go_wp2
      show bodyPost _ _ _ _ _ (tri w5 (w.heap.size + 1 + 1) (Co.flag (decide (c ≤ 0))))
      generalize tri w5 (w.heap.size + 1 + 1) _ = wf at *
      obtain ⟨⟨k0, k1, k2⟩, _⟩ := HFIN.out.tri_of
      exact bodyPost_ret (v := .tuple #[Vl.val (Co.flag (decide (c ≤ 0))), .nilIface]) (by simp [results, Tryz.results161, go_sem, k0, k1, k2, Vl.val]) rfl ⟨⟨_, rfl, .nil⟩, HBF.out⟩
    have i9 : (op == 9) = false := by rw [beq_eq_false_iff_ne]; exact h9
    by_cases h10 : op = 10
    · subst h10
      rw [Co.by10] at hcc
      subst hcc
      clear i8 i9
      clear HCX
      go_enter Tryz.func161, Tryz.ntmps161
      go_wp2_with fail
      refine (HB1.out _).mono ?_
      rintro x w2 ⟨rfl, hb2⟩
      have HBW2 := Lib.hid hb2
      have HA2 := HA.out.below hb2 (Nat.le_refl _)
      have HC2 := HC.out.below hb2 (Nat.le_refl _)
      obtain ⟨⟨a0, a1, a2⟩, _⟩ := HA2.tri_of
      obtain ⟨⟨e0, e1, e2⟩, _⟩ := HC2.tri_of
      dsimp only at a0 a1 a2 e0 e1 e2
      have HA2 := Lib.hid HA2
      have HC2 := Lib.hid HC2
      clear hb2
      go_wp2_with fail
      refine (HB3.out _).mono ?_
      rintro x w4 ⟨rfl, hb4⟩
      have HBW := Lib.hid (HBW2.out.trans (hb4.mono HBW2.out.size))
      have HA4 := HA2.out.below hb4 (Nat.le_refl _)
      have HC4 := HC2.out.below hb4 (Nat.le_refl _)
      clear a0 a1 a2 e0 e1 e2
      obtain ⟨⟨a0, a1, a2⟩, _⟩ := HA4.tri_of
      obtain ⟨⟨e0, e1, e2⟩, _⟩ := HC4.tri_of
      dsimp only at a0 a1 a2 e0 e1 e2
      clear hb4 HA4 HC4
      go_wp2_with fail
      refine (HCM.out _).mono ?_
      rintro x w3 ⟨rfl, rfl⟩
      go_wp2_with fail
      refine (eflag_any _ _).mono ?_
      rintro x w5 ⟨rfl, hb5⟩
      obtain ⟨hfin, hbf, hz1⟩ := FIN.out (decide (0 < c)) w5 (HBW.out.trans (hb5.mono HBW.out.size))
      obtain ⟨⟨z0, z1, z2⟩, g0, g1, g2⟩ := hz1.tri_of
      have HFIN := Lib.hid hfin
      have HBF := Lib.hid hbf
      clear hfin hbf hb5 hz1
      go_wp2
      show bodyPost _ _ _ _ _ (tri w5 (w.heap.size + 1 + 1) (Co.flag (decide (0 < c))))
      generalize tri w5 (w.heap.size + 1 + 1) _ = wf at *
      obtain ⟨⟨k0, k1, k2⟩, _⟩ := HFIN.out.tri_of
      exact bodyPost_ret (v := .tuple #[Vl.val (Co.flag (decide (0 < c))), .nilIface]) (by simp [results, Tryz.results161, go_sem, k0, k1, k2, Vl.val]) rfl ⟨⟨_, rfl, .nil⟩, HBF.out⟩
    have i10 : (op == 10) = false := by rw [beq_eq_false_iff_ne]; exact h10
    rw [Co.by11 c h8 h9 h10] at hcc
    subst hcc
    clear h8 h9 h10 HCX
    go_enter Tryz.func161, Tryz.ntmps161
    go_wp2_with fail
    refine (HB1.out _).mono ?_
    rintro x w2 ⟨rfl, hb2⟩
    have HBW2 := Lib.hid hb2
    have HA2 := HA.out.below hb2 (Nat.le_refl _)
    have HC2 := HC.out.below hb2 (Nat.le_refl _)
    obtain ⟨⟨a0, a1, a2⟩, _⟩ := HA2.tri_of
    obtain ⟨⟨e0, e1, e2⟩, _⟩ := HC2.tri_of
    dsimp only at a0 a1 a2 e0 e1 e2
    have HA2 := Lib.hid HA2
    have HC2 := Lib.hid HC2
    clear hb2
    go_wp2_with fail
    refine (HB3.out _).mono ?_
    rintro x w4 ⟨rfl, hb4⟩
    have HBW := Lib.hid (HBW2.out.trans (hb4.mono HBW2.out.size))
    have HA4 := HA2.out.below hb4 (Nat.le_refl _)
    have HC4 := HC2.out.below hb4 (Nat.le_refl _)
    clear a0 a1 a2 e0 e1 e2
    obtain ⟨⟨a0, a1, a2⟩, _⟩ := HA4.tri_of
    obtain ⟨⟨e0, e1, e2⟩, _⟩ := HC4.tri_of
    dsimp only at a0 a1 a2 e0 e1 e2
    clear hb4 HA4 HC4
    go_wp2_with fail
    refine (HCM.out _).mono ?_
    rintro x w3 ⟨rfl, rfl⟩
    go_wp2_with fail
    refine (eflag_any _ _).mono ?_
    rintro x w5 ⟨rfl, hb5⟩
    obtain ⟨hfin, hbf, hz1⟩ := FIN.out (decide (0 ≤ c)) w5 (HBW.out.trans (hb5.mono HBW.out.size))
    obtain ⟨⟨z0, z1, z2⟩, g0, g1, g2⟩ := hz1.tri_of
    have HFIN := Lib.hid hfin
    have HBF := Lib.hid hbf
    clear hfin hbf hb5 hz1
    go_wp2
    show bodyPost _ _ _ _ _ (tri w5 (w.heap.size + 1 + 1) (Co.flag (decide (0 ≤ c))))
    generalize tri w5 (w.heap.size + 1 + 1) _ = wf at *
    obtain ⟨⟨k0, k1, k2⟩, _⟩ := HFIN.out.tri_of
    exact bodyPost_ret (v := .tuple #[Vl.val (Co.flag (decide (0 ≤ c))), .nilIface]) (by simp [results, Tryz.results161, go_sem, k0, k1, k2, Vl.val]) rfl ⟨⟨_, rfl, .nil⟩, HBF.out⟩
  rw [if_neg h3] at hcc
  have hbb : (ka == 3 && kb == 3) = false := by
    rw [Bool.eq_false_iff]
    intro h
    simp at h
    exact h3 h
  rw [hbb] at HB3
  clear h3 hbb
  subst hcc
  go_enter Tryz.func161, Tryz.ntmps161
  go_wp2_with fail
  refine (HB1.out _).mono ?_
  rintro x w2 ⟨rfl, hb2⟩
  have HBW2 := Lib.hid hb2
  have HA2 := HA.out.below hb2 (Nat.le_refl _)
  have HC2 := HC.out.below hb2 (Nat.le_refl _)
  obtain ⟨⟨a0, a1, a2⟩, _⟩ := HA2.tri_of
  obtain ⟨⟨e0, e1, e2⟩, _⟩ := HC2.tri_of
  dsimp only at a0 a1 a2 e0 e1 e2
  clear hb2 HA2 HC2
  go_wp2_with fail
  refine (HB3.out _).mono ?_
  rintro x w4 ⟨rfl, hb4⟩
  have HBW := Lib.hid (HBW2.out.trans (hb4.mono HBW2.out.size))
  have hbw : Below w.heap.size w w4 := HBB.out.trans (HBW.out.mono HBB.out.size)
  obtain ⟨aa, hka, hg⟩ := (HE.out.below (HV.out.trans (hbw.mono HV.out.size))).e110
  have hgl := cell_lt hg
  have hgn : 10 < w.heap.size := by
    obtain ⟨_, _, hg⟩ := (HE.out.below HV.out).e110
    exact cell_lt hg
  unfold errV at hg
  have HKA := Lib.hid hka
  have hz1 : Cel w4 (w.heap.size + 1 + 1) Vl.zero.list := HZ.out.below HBW.out (Nat.le_refl _)
  obtain ⟨⟨z0, z1, z2⟩, g0, g1, g2⟩ := hz1.tri_of
  have HFIN := Lib.hid ((hz1.tri Vl.zero).drewN 1)
  have HBF := Lib.hid (below_tri (z := w.heap.size + 1 + 1) hbw (by omega) Vl.zero).drew
  clear hb4 hka hz1 hbw a0 a1 a2 e0 e1 e2
  go_wp2_with fail
  go_region
  go_wp2
  show bodyPost _ _ _ _ _ (tri w4 (w.heap.size + 1 + 1) Vl.zero).drew
  have hfin : Cel (tri w4 (w.heap.size + 1 + 1) Vl.zero).drew (w.heap.size + 1 + 1) Vl.zero.list := HFIN.out
  have hbf : Below w.heap.size w (tri w4 (w.heap.size + 1 + 1) Vl.zero).drew := HBF.out
  generalize (tri w4 (w.heap.size + 1 + 1) _).drew = wf at *
  obtain ⟨⟨k0, k1, k2⟩, _⟩ := hfin.tri_of
  exact bodyPost_ret (v := .tuple #[Vl.val Vl.zero, errV aa]) (by simp [results, Tryz.results161, go_sem, k0, k1, k2, Vl.val, errV]) rfl ⟨⟨_, rfl, .err 110 aa HKA.out (by decide)⟩, hbf⟩
end
end Go.Proofs.YtkffnfgdmcebdaaGreatDoor
