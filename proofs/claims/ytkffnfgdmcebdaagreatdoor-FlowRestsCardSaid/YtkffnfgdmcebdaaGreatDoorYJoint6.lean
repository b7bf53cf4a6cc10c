/- Walks of package cond: what is reckoned; what is the same. Walks of package cond: what is the same; what stands ahead. -/
import Derived.Test.YtkffnfgdmcebdaaGreatDoorYJoint5
namespace Go.Proofs.YtkffnfgdmcebdaaGreatDoor
open Go.RowKit

section
variable {E : Int → Option Addr} {V w : World}
set_option maxHeartbeats 3200000 in
theorem ecount_any (hE : CoErrsE V E) (hb : Below V.heap.size V w) (op a b : Int) :
    Calls Tryz.prog 165 #[.int .i64 op, .int .i64 a, .int .i64 b] w fun r w' => (∃ e, r = .returned (.tuple #[(Co.counted op a b).2.val, e]) ∧ SeenBy E e (Co.counted op a b).1) ∧ Below w.heap.size w w' := by
  have hb1 : Below w.heap.size w (w.alloc (.cells #[.int .i64 0, .int .i64 0, .string ⟨#[]⟩] 94)) := (Below.refl _ _).alloc (Nat.le_refl _) _
  have HZ : Hid (Cel (w.alloc (.cells #[.int .i64 0, .int .i64 0, .string ⟨#[]⟩] 94)) w.heap.size Vl.zero.list) := Cel.lit w #[.int .i64 0, .int .i64 0, .string ⟨#[]⟩] 94
  have hcc : Co.counted op a b = if op = 12 then (0, ⟨1, wrap64 (a + b), ⟨#[]⟩⟩) else if op = 13 then (0, ⟨1, wrap64 (a - b), ⟨#[]⟩⟩) else if op = 14 then (0, ⟨1, wrap64 (a * b), ⟨#[]⟩⟩)
    else if b = 0 then (113, Vl.zero) else if op = 15 then (0, ⟨1, wrap64 (a.tdiv b), ⟨#[]⟩⟩) else (0, ⟨1, (a.tmod b), ⟨#[]⟩⟩) := rfl
  obtain ⟨R, hR⟩ : ∃ R, R = Co.counted op a b := ⟨_, rfl⟩
  rw [← hR] at hcc ⊢
  obtain ⟨a113, hka, hg⟩ := (hE.below (hb.trans (hb1.mono hb.size))).e113
  have hgl := cell_lt hg
  have hgn : 13 ≠ w.heap.size := by
    obtain ⟨_, _, hg⟩ := (hE.below hb).e113
    exact Nat.ne_of_lt (cell_lt hg)
  unfold errV at hg
  have HKA := Lib.hid hka
  clear hE hb hR hka
  have fin : ∀ (N : Int) (w1 : World), Below (w.alloc (.cells #[.int .i64 0, .int .i64 0, .string ⟨#[]⟩] 94)).heap.size (w.alloc (.cells #[.int .i64 0, .int .i64 0, .string ⟨#[]⟩] 94)) w1 →
      Cel (tri w1 w.heap.size ⟨1, N, ⟨#[]⟩⟩) w.heap.size (Vl.list ⟨1, N, ⟨#[]⟩⟩) ∧ Below w.heap.size w (tri w1 w.heap.size ⟨1, N, ⟨#[]⟩⟩) ∧ Cel w1 w.heap.size Vl.zero.list := fun N w1 hb2 => by
    have hz1 : Cel w1 w.heap.size Vl.zero.list := HZ.out.below hb2 (Nat.le_refl _)
    exact ⟨hz1.tri _, below_tri (hb1.trans (hb2.mono hb1.size)) (Nat.le_refl _) _, hz1⟩
  have FIN := Lib.hid fin
  clear fin
  by_cases h12 : op = 12
  · subst h12
    rw [if_pos rfl] at hcc
    subst hcc
    go_enter Tryz.func165, Tryz.ntmps165
    go_wp2_with fail
    refine (vnum_any _ _).mono ?_
    rintro x w1 ⟨rfl, hb2⟩
    obtain ⟨hfin, hbf, hz1⟩ := FIN.out (wrap64 (a + b)) w1 hb2
    obtain ⟨⟨z0, z1, z2⟩, g0, g1, g2⟩ := hz1.tri_of
    have HFIN := Lib.hid hfin
    have HBF := Lib.hid hbf
    clear hfin hbf hb2
    go_wp2
    show bodyPost _ _ _ _ _ (tri w1 w.heap.size ⟨1, wrap64 (a + b), ⟨#[]⟩⟩)
    generalize tri w1 w.heap.size _ = wf at *
    obtain ⟨⟨k0, k1, k2⟩, _⟩ := HFIN.out.tri_of
    exact bodyPost_ret (v := .tuple #[Vl.val ⟨1, wrap64 (a + b), ⟨#[]⟩⟩, .nilIface]) (by simp [results, Tryz.results165, go_sem, k0, k1, k2, Vl.val]) rfl ⟨⟨_, rfl, .nil⟩, HBF.out⟩
  rw [if_neg h12] at hcc
  have i12 : (op == 12) = false := by rw [beq_eq_false_iff_ne]; exact h12
  clear h12
  by_cases h13 : op = 13
  · subst h13
    rw [if_pos rfl] at hcc
    subst hcc
    clear i12
    go_enter Tryz.func165, Tryz.ntmps165
    go_wp2_with fail
    refine (vnum_any _ _).mono ?_
    rintro x w1 ⟨rfl, hb2⟩
    obtain ⟨hfin, hbf, hz1⟩ := FIN.out (wrap64 (a - b)) w1 hb2
    obtain ⟨⟨z0, z1, z2⟩, g0, g1, g2⟩ := hz1.tri_of
    have HFIN := Lib.hid hfin
    have HBF := Lib.hid hbf
    clear hfin hbf hb2
    go_wp2
    show bodyPost _ _ _ _ _ (tri w1 w.heap.size ⟨1, wrap64 (a - b), ⟨#[]⟩⟩)
    generalize tri w1 w.heap.size _ = wf at *
    obtain ⟨⟨k0, k1, k2⟩, _⟩ := HFIN.out.tri_of
    exact bodyPost_ret (v := .tuple #[Vl.val ⟨1, wrap64 (a - b), ⟨#[]⟩⟩, .nilIface]) (by simp [results, Tryz.results165, go_sem, k0, k1, k2, Vl.val]) rfl ⟨⟨_, rfl, .nil⟩, HBF.out⟩
  rw [if_neg h13] at hcc
  have i13 : (op == 13) = false := by rw [beq_eq_false_iff_ne]; exact h13
  clear h13
  by_cases h14 : op = 14
  · subst h14
    rw [if_pos rfl] at hcc
    subst hcc
    clear i12 i13
    go_enter Tryz.func165, Tryz.ntmps165
    go_wp2_with fail
    refine (vnum_any _ _).mono ?_
    rintro x w1 ⟨rfl, hb2⟩
    obtain ⟨hfin, hbf, hz1⟩ := FIN.out (wrap64 (a * b)) w1 hb2
    obtain ⟨⟨z0, z1, z2⟩, g0, g1, g2⟩ := hz1.tri_of
    have HFIN := Lib.hid hfin
    have HBF := Lib.hid hbf
    clear hfin hbf hb2
    go_wp2
    show bodyPost _ _ _ _ _ (tri w1 w.heap.size ⟨1, wrap64 (a * b), ⟨#[]⟩⟩)
    generalize tri w1 w.heap.size _ = wf at *
    obtain ⟨⟨k0, k1, k2⟩, _⟩ := HFIN.out.tri_of
    exact bodyPost_ret (v := .tuple #[Vl.val ⟨1, wrap64 (a * b), ⟨#[]⟩⟩, .nilIface]) (by simp [results, Tryz.results165, go_sem, k0, k1, k2, Vl.val]) rfl ⟨⟨_, rfl, .nil⟩, HBF.out⟩
  rw [if_neg h14] at hcc
  have i14 : (op == 14) = false := by rw [beq_eq_false_iff_ne]; exact h14
  clear h14
  by_cases hb0 : b = 0
  · subst hb0
    rw [if_pos rfl] at hcc
    subst hcc
    go_enter Tryz.func165, Tryz.ntmps165
    go_wp2_with fail
    go_region
    go_wp2
    have hfin : Cel (w.alloc (.cells #[.int .i64 0, .int .i64 0, .string ⟨#[]⟩] 94)).drew w.heap.size Vl.zero.list := HZ.out.drewN 1
    have hbf := hb1.drew
    show bodyPost _ _ _ _ _ (w.alloc (.cells #[.int .i64 0, .int .i64 0, .string ⟨#[]⟩] 94)).drew
    generalize (w.alloc _).drew = wf at *
    obtain ⟨⟨k0, k1, k2⟩, _⟩ := hfin.tri_of
    exact bodyPost_ret (v := .tuple #[Vl.val Vl.zero, errV a113]) (by simp [results, Tryz.results165, go_sem, k0, k1, k2, Vl.val, errV]) rfl ⟨⟨_, rfl, .err 113 a113 HKA.out (by decide)⟩, hbf⟩
  rw [if_neg hb0] at hcc
  have ib0 : (b == 0) = false := by rw [beq_eq_false_iff_ne]; exact hb0
  by_cases h15 : op = 15
  · subst h15
    rw [if_pos rfl] at hcc
    subst hcc
    clear i12 i13 i14
    go_enter Tryz.func165, Tryz.ntmps165
    go_wp2_with fail
    refine (vnum_any _ _).mono ?_
    rintro x w1 ⟨rfl, hb2⟩
    obtain ⟨hfin, hbf, hz1⟩ := FIN.out (wrap64 (a.tdiv b)) w1 hb2
    obtain ⟨⟨z0, z1, z2⟩, g0, g1, g2⟩ := hz1.tri_of
    have HFIN := Lib.hid hfin
    have HBF := Lib.hid hbf
    clear hfin hbf hb2
    go_wp2
    show bodyPost _ _ _ _ _ (tri w1 w.heap.size ⟨1, wrap64 (a.tdiv b), ⟨#[]⟩⟩)
    generalize tri w1 w.heap.size _ = wf at *
    obtain ⟨⟨k0, k1, k2⟩, _⟩ := HFIN.out.tri_of
    exact bodyPost_ret (v := .tuple #[Vl.val ⟨1, wrap64 (a.tdiv b), ⟨#[]⟩⟩, .nilIface]) (by simp [results, Tryz.results165, go_sem, k0, k1, k2, Vl.val]) rfl ⟨⟨_, rfl, .nil⟩, HBF.out⟩
  rw [if_neg h15] at hcc
  have i15 : (op == 15) = false := by rw [beq_eq_false_iff_ne]; exact h15
  clear h15
  subst hcc
  go_enter Tryz.func165, Tryz.ntmps165
  go_wp2_with fail
  refine (vnum_any _ _).mono ?_
  rintro x w1 ⟨rfl, hb2⟩
  obtain ⟨hfin, hbf, hz1⟩ := FIN.out ((a.tmod b)) w1 hb2
  obtain ⟨⟨z0, z1, z2⟩, g0, g1, g2⟩ := hz1.tri_of
  have HFIN := Lib.hid hfin
  have HBF := Lib.hid hbf
  clear hfin hbf hb2
  go_wp2
  show bodyPost _ _ _ _ _ (tri w1 w.heap.size ⟨1, (a.tmod b), ⟨#[]⟩⟩)
  generalize tri w1 w.heap.size _ = wf at *
  obtain ⟨⟨k0, k1, k2⟩, _⟩ := HFIN.out.tri_of
  exact bodyPost_ret (v := .tuple #[Vl.val ⟨1, (a.tmod b), ⟨#[]⟩⟩, .nilIface]) (by simp [results, Tryz.results165, go_sem, k0, k1, k2, Vl.val]) rfl ⟨⟨_, rfl, .nil⟩, HBF.out⟩
end
end Go.Proofs.YtkffnfgdmcebdaaGreatDoor
namespace Go.Proofs.YtkffnfgdmcebdaaGreatDoor
open Go.RowKit

section
variable {E : Int → Option Addr} {V w : World}
set_option maxHeartbeats 3200000 in
theorem esame_any (hE : CoErrsE V E) (hb : Below V.heap.size V w) (op : Int) (a b : Vl) :
    Calls Tryz.prog 160 #[.int .i64 op, a.val, b.val] w fun r w' => (∃ e, r = .returned (.tuple #[(Co.same op a b).2.val, e]) ∧ SeenBy E e (Co.same op a b).1) ∧ Below w.heap.size w w' := by
  obtain ⟨ka, na, ta⟩ := a
  obtain ⟨kb, nb, tb⟩ := b
  have hcc : Co.same op ⟨ka, na, ta⟩ ⟨kb, nb, tb⟩ = if ka = kb then (0, Co.flag (Co.eqv ⟨ka, na, ta⟩ ⟨kb, nb, tb⟩ == (op == 6))) else (110, Vl.zero) := rfl
  obtain ⟨R, hR⟩ : ∃ R, R = Co.same op ⟨ka, na, ta⟩ ⟨kb, nb, tb⟩ := ⟨_, rfl⟩
  rw [← hR] at hcc ⊢
  unfold Vl.val
  dsimp only
  have hb1 : Below w.heap.size w (((w.alloc (.cells #[.int .i64 ka, .int .i64 na, .string ta] 94)).alloc (.cells #[.int .i64 kb, .int .i64 nb, .string tb] 94)).alloc (.cells #[.int .i64 0, .int .i64 0, .string ⟨#[]⟩] 94)) := (((Below.refl _ _).alloc (Nat.le_refl _) _).alloc (by simp) _).alloc (by simp; omega) _
  have HZ : Hid (Cel (((w.alloc (.cells #[.int .i64 ka, .int .i64 na, .string ta] 94)).alloc (.cells #[.int .i64 kb, .int .i64 nb, .string tb] 94)).alloc (.cells #[.int .i64 0, .int .i64 0, .string ⟨#[]⟩] 94)) (w.heap.size + 1 + 1) Vl.zero.list) := by
    have := Cel.lit ((w.alloc (.cells #[.int .i64 ka, .int .i64 na, .string ta] 94)).alloc (.cells #[.int .i64 kb, .int .i64 nb, .string tb] 94)) #[.int .i64 0, .int .i64 0, .string ⟨#[]⟩] 94
    rwa [show ((w.alloc (.cells #[.int .i64 ka, .int .i64 na, .string ta] 94)).alloc (.cells #[.int .i64 kb, .int .i64 nb, .string tb] 94)).heap.size = w.heap.size + 1 + 1 from by simp] at this
  have HB1 := Lib.hid hb1
  by_cases hk : ka = kb
  · subst hk
    rw [if_pos rfl] at hcc
    clear hR hb1 hE hb
    by_cases hn : na = nb
    · subst hn
      by_cases ht : ta = tb
      · subst ht
        have he : Co.eqv ⟨ka, na, ta⟩ ⟨ka, na, ta⟩ = true := by unfold Co.eqv; simp
        rw [he] at hcc
        have hcc : R = (0, Co.flag (op == 6)) := by rw [hcc]; simp
        subst hcc
        clear he
        go_enter Tryz.func160, Tryz.ntmps160
        go_wp2_with fail
        refine (eflag_any _ _).mono ?_
        rintro x w1 ⟨rfl, hb2⟩
        have hz1 : Cel w1 (w.heap.size + 1 + 1) Vl.zero.list := HZ.out.below hb2 (Nat.le_refl _)
        have hbw : Below w.heap.size w w1 := HB1.out.trans (hb2.mono HB1.out.size)
        obtain ⟨⟨z0, z1, z2⟩, g0, g1, g2⟩ := hz1.tri_of
        have HFIN := Lib.hid (hz1.tri (Co.flag (op == 6)))
        have HBF := Lib.hid (below_tri (z := w.heap.size + 1 + 1) hbw (by omega) (Co.flag (op == 6)))
        clear hb2 hz1 hbw
        go_wp2
        show bodyPost _ _ _ _ _ (tri w1 (w.heap.size + 1 + 1) (Co.flag (op == 6)))
        generalize tri w1 (w.heap.size + 1 + 1) _ = wf at *
        obtain ⟨⟨k0, k1, k2⟩, _⟩ := HFIN.out.tri_of
        exact bodyPost_ret (v := .tuple #[Vl.val (Co.flag (op == 6)), .nilIface]) (by simp [results, Tryz.results160, go_sem, k0, k1, k2, Vl.val]) rfl ⟨⟨_, rfl, .nil⟩, HBF.out⟩
      · have hti : (ta.toList == tb.toList) = false := by
          rw [beq_eq_false_iff_ne]
          exact fun h => ht (Vr.ba_eq h)
        have he : Co.eqv ⟨ka, na, ta⟩ ⟨ka, na, tb⟩ = false := by unfold Co.eqv; simp [hti]
        rw [he] at hcc
        have hcc : R = (0, Co.flag (!(op == 6))) := by rw [hcc]; simp
        subst hcc
        clear he ht
        go_enter Tryz.func160, Tryz.ntmps160
        go_wp2_with fail
        refine (eflag_any _ _).mono ?_
        rintro x w1 ⟨rfl, hb2⟩
        have hz1 : Cel w1 (w.heap.size + 1 + 1) Vl.zero.list := HZ.out.below hb2 (Nat.le_refl _)
        have hbw : Below w.heap.size w w1 := HB1.out.trans (hb2.mono HB1.out.size)
        obtain ⟨⟨z0, z1, z2⟩, g0, g1, g2⟩ := hz1.tri_of
        have HFIN := Lib.hid (hz1.tri (Co.flag (!(op == 6))))
        have HBF := Lib.hid (below_tri (z := w.heap.size + 1 + 1) hbw (by omega) (Co.flag (!(op == 6))))
        clear hb2 hz1 hbw
        go_wp2
        show bodyPost _ _ _ _ _ (tri w1 (w.heap.size + 1 + 1) (Co.flag (!(op == 6))))
        generalize tri w1 (w.heap.size + 1 + 1) _ = wf at *
        obtain ⟨⟨k0, k1, k2⟩, _⟩ := HFIN.out.tri_of
        exact bodyPost_ret (v := .tuple #[Vl.val (Co.flag (!(op == 6))), .nilIface]) (by simp [results, Tryz.results160, go_sem, k0, k1, k2, Vl.val]) rfl ⟨⟨_, rfl, .nil⟩, HBF.out⟩
    · have hni : (na == nb) = false := by rw [beq_eq_false_iff_ne]; exact hn
      have he : Co.eqv ⟨ka, na, ta⟩ ⟨ka, nb, tb⟩ = false := by unfold Co.eqv; simp [hni]
      rw [he] at hcc
      have hcc : R = (0, Co.flag (!(op == 6))) := by rw [hcc]; simp
      subst hcc
      clear he hn
      go_enter Tryz.func160, Tryz.ntmps160
      go_wp2_with fail
      refine (eflag_any _ _).mono ?_
      rintro x w1 ⟨rfl, hb2⟩
      have hz1 : Cel w1 (w.heap.size + 1 + 1) Vl.zero.list := HZ.out.below hb2 (Nat.le_refl _)
      have hbw : Below w.heap.size w w1 := HB1.out.trans (hb2.mono HB1.out.size)
      obtain ⟨⟨z0, z1, z2⟩, g0, g1, g2⟩ := hz1.tri_of
      have HFIN := Lib.hid (hz1.tri (Co.flag (!(op == 6))))
      have HBF := Lib.hid (below_tri (z := w.heap.size + 1 + 1) hbw (by omega) (Co.flag (!(op == 6))))
      clear hb2 hz1 hbw
      go_wp2
      show bodyPost _ _ _ _ _ (tri w1 (w.heap.size + 1 + 1) (Co.flag (!(op == 6))))
      generalize tri w1 (w.heap.size + 1 + 1) _ = wf at *
      obtain ⟨⟨k0, k1, k2⟩, _⟩ := HFIN.out.tri_of
      exact bodyPost_ret (v := .tuple #[Vl.val (Co.flag (!(op == 6))), .nilIface]) (by simp [results, Tryz.results160, go_sem, k0, k1, k2, Vl.val]) rfl ⟨⟨_, rfl, .nil⟩, HBF.out⟩
  · rw [if_neg hk] at hcc
    subst hcc
    have hkI : (ka == kb) = false := by rw [beq_eq_false_iff_ne]; exact hk
    obtain ⟨a, hka, hg⟩ := (hE.below (hb.trans (hb1.mono hb.size))).e110
    have hgl := cell_lt hg
    have hgn : 10 < w.heap.size := by
      obtain ⟨_, _, hg⟩ := (hE.below hb).e110
      exact cell_lt hg
    unfold errV at hg
    have HKA := Lib.hid hka
    clear hR hb1 hE hb hka hk
    go_enter Tryz.func160, Tryz.ntmps160
    go_wp2_with fail
    go_region
    go_wp2
    have hz1 : Cel _ (w.heap.size + 1 + 1) Vl.zero.list := HZ.out
    show bodyPost _ _ _ _ _ (((w.alloc (.cells #[.int .i64 ka, .int .i64 na, .string ta] 94)).alloc (.cells #[.int .i64 kb, .int .i64 nb, .string tb] 94)).alloc (.cells #[.int .i64 0, .int .i64 0, .string ⟨#[]⟩] 94)).drew
    have hfin : Cel (((w.alloc (.cells #[.int .i64 ka, .int .i64 na, .string ta] 94)).alloc (.cells #[.int .i64 kb, .int .i64 nb, .string tb] 94)).alloc (.cells #[.int .i64 0, .int .i64 0, .string ⟨#[]⟩] 94)).drew (w.heap.size + 1 + 1) Vl.zero.list := hz1.drewN 1
    have hbf := HB1.out.drew
    generalize (((w.alloc _).alloc _).alloc _).drew = wf at *
    obtain ⟨⟨k0, k1, k2⟩, _⟩ := hfin.tri_of
    exact bodyPost_ret (v := .tuple #[Vl.val Vl.zero, errV a]) (by simp [results, Tryz.results160, go_sem, k0, k1, k2, Vl.val, errV]) rfl ⟨⟨_, rfl, .err 110 a HKA.out (by decide)⟩, hbf⟩
end
end Go.Proofs.YtkffnfgdmcebdaaGreatDoor
