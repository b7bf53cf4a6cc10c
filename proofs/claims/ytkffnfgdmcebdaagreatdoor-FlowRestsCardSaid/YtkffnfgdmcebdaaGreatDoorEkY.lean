/- Walks of package cond: two parts. -/
import Derived.Test.YtkffnfgdmcebdaaGreatDoorEhY
import Derived.Laws.Concat
namespace Go.Proofs.YtkffnfgdmcebdaaGreatDoor
open Go.RowKit

section
variable {E : Int → Option Addr} {V w : World} {A : Option Addr} {n c : Nat} {l : List Vr.V} {t t2 : Co.Tr}
theorem Vl.lit (w : World) (v : Vl) : Cel (w.alloc (.cells #[.int .i64 v.kind, .int .i64 v.num, .string v.txt] 94)) w.heap.size v.list := Cel.lit w _ _
set_option maxHeartbeats 12800000 in
theorem etwo_any (hE : CoErrsE V E) (hT : EvalC E V A n c l t) (hT2 : EvalC E V A n c l t2) (N : Nat → Prop) (op : Int) (h6 : 6 ≤ op) (h16 : op ≤ 16) (b : Nat) (y y2 : Ex) (hb : Below V.heap.size V w) (hh : w.heap[b]? = some (.cells #[.int .i64 y.op, .int .i64 y.kind, .int .i64 y.num, .string y.txt, .string y.name, .slice y.A y.n y.c, .int .i64 y2.op, .int .i64 y2.kind, .int .i64 y2.num, .string y2.txt, .string y2.name, .slice y2.A y2.n y2.c] 185 (0, 0))) (ha : At w N t y) (ha2 : At w N t2 y2) (hsm : (Co.ev l t).2.txt.size + (Co.ev l t2).2.txt.size ≤ 9223372036854775807) :
    Calls Tryz.prog 152 #[Ex.val ⟨op, 0, 0, ⟨#[]⟩, ⟨#[]⟩, some ⟨b, 0, none⟩, 2, 2⟩, .slice A n c] w fun r w' => (∃ e, r = .returned (.tuple #[(Co.twoR op (Co.ev l t) (Co.ev l t2)).2.val, e]) ∧ SeenBy E e (Co.twoR op (Co.ev l t) (Co.ev l t2)).1) ∧ Below w.heap.size w w' := by
  have HBA : Hid (Below w.heap.size w ((w.alloc (.cells #[.int .i64 op, .int .i64 0, .int .i64 0, .string ⟨#[]⟩, .string ⟨#[]⟩, .slice (some ⟨b, 0, none⟩) 2 2] 185)).alloc (.cells #[.int .i64 0, .int .i64 0, .string ⟨#[]⟩] 94))) := ((Below.refl _ _).alloc (Nat.le_refl _) _).alloc (by simp) _
  have HZ : Hid (Cel ((w.alloc (.cells #[.int .i64 op, .int .i64 0, .int .i64 0, .string ⟨#[]⟩, .string ⟨#[]⟩, .slice (some ⟨b, 0, none⟩) 2 2] 185)).alloc (.cells #[.int .i64 0, .int .i64 0, .string ⟨#[]⟩] 94)) (w.heap.size + 1) Vl.zero.list) := by
    have := Cel.lit (w.alloc (.cells #[.int .i64 op, .int .i64 0, .int .i64 0, .string ⟨#[]⟩, .string ⟨#[]⟩, .slice (some ⟨b, 0, none⟩) 2 2] 185)) #[.int .i64 0, .int .i64 0, .string ⟨#[]⟩] 94
    rwa [show (w.alloc (.cells #[.int .i64 op, .int .i64 0, .int .i64 0, .string ⟨#[]⟩, .string ⟨#[]⟩, .slice (some ⟨b, 0, none⟩) 2 2] 185)).heap.size = w.heap.size + 1 from by simp] at this
  have HX : Hid (Cel ((w.alloc (.cells #[.int .i64 op, .int .i64 0, .int .i64 0, .string ⟨#[]⟩, .string ⟨#[]⟩, .slice (some ⟨b, 0, none⟩) 2 2] 185)).alloc (.cells #[.int .i64 0, .int .i64 0, .string ⟨#[]⟩] 94)) w.heap.size (Ex.list ⟨op, 0, 0, ⟨#[]⟩, ⟨#[]⟩, some ⟨b, 0, none⟩, 2, 2⟩)) := (Ex.lit w ⟨op, 0, 0, ⟨#[]⟩, ⟨#[]⟩, some ⟨b, 0, none⟩, 2, 2⟩).alloc _
  have HV := Lib.hid hb
  have HVA := Lib.hid (hb.trans (HBA.out.mono hb.size))
  have hbl := blk_lt hh
  have HH := Lib.hid (hT _ N y HVA.out ((ha.alloc _).alloc _))
  have HHH := Lib.hid hh
  have HH2 : ∀ w1, Below ((w.alloc (.cells #[.int .i64 op, .int .i64 0, .int .i64 0, .string ⟨#[]⟩, .string ⟨#[]⟩, .slice (some ⟨b, 0, none⟩) 2 2] 185)).alloc (.cells #[.int .i64 0, .int .i64 0, .string ⟨#[]⟩] 94)).heap.size ((w.alloc (.cells #[.int .i64 op, .int .i64 0, .int .i64 0, .string ⟨#[]⟩, .string ⟨#[]⟩, .slice (some ⟨b, 0, none⟩) 2 2] 185)).alloc (.cells #[.int .i64 0, .int .i64 0, .string ⟨#[]⟩] 94)) w1 → Hid (Calls Tryz.prog 140 #[y2.val, .slice A n c] w1 fun r w' => (∃ e, r = .returned (.tuple #[(Co.ev l t2).2.val, e]) ∧ SeenBy E e (Co.ev l t2).1) ∧ Below w1.heap.size w1 w') := fun w1 h1 =>
    hT2 _ N y2 (HVA.out.trans (h1.mono HVA.out.size)) (((ha2.alloc _).alloc _).below h1 (Nat.le_refl _))
  have HHT := Lib.hid HH2
  obtain ⟨y0, y1, y2', y3, y4, y5⟩ := cells6 (y := y) hh ⟨rfl, rfl, rfl, rfl, rfl, rfl⟩
  have hr : Co.twoR op (Co.ev l t) (Co.ev l t2) = if (Co.ev l t).1 = 0 then if (Co.ev l t2).1 = 0 then Co.two op (Co.ev l t).2 (Co.ev l t2).2 else ((Co.ev l t2).1, Vl.zero) else ((Co.ev l t).1, Vl.zero) := rfl
  generalize Co.ev l t = R at *
  generalize Co.ev l t2 = R2 at *
  obtain ⟨cd, va⟩ := R
  obtain ⟨cd2, vb⟩ := R2
  dsimp only at hr HH HHT
  rw [hr]
  have HE := Lib.hid hE
  have HSM := Lib.hid hsm
  clear hE hT hT2 hb hh ha ha2 hr HH2 hsm
  unfold Ex.val Vl.val at *
  dsimp only at *
  by_cases h0 : cd = 0
  · subst h0
    rw [if_pos rfl]
    by_cases h2 : cd2 = 0
    · subst h2
      rw [if_pos rfl]
      have hco : Co.two op va vb = if op ≤ 7 then Co.same op va vb else if op ≤ 11 then Co.ordered op va vb
        else if op = 12 ∧ va.kind = 3 ∧ vb.kind = 3 then (0, ⟨3, 0, Co.cut (va.txt ++ vb.txt)⟩) else if va.kind = 1 ∧ vb.kind = 1 then Co.counted op va.num vb.num else (110, Vl.zero) := rfl
      rw [hco]
      clear hco
      by_cases k7 : op ≤ 7
      · rw [if_pos k7]
        obtain ⟨R3, hR3⟩ : ∃ R, R = Co.same op va vb := ⟨_, rfl⟩
        rw [← hR3]
        have HR3 := Lib.hid hR3
        clear hR3
        go_enter Tryz.func152, Tryz.ntmps152
        go_wp2_with fail
        refine HH.out.mono ?_
        rintro r w1 ⟨⟨e, rfl, hs⟩, hb2⟩
        obtain rfl := seen_nil hs
        have HVA1 := Lib.hid (Vl.lit w1 va)
        have hb2a : Below _ _ (w1.alloc (.cells #[.int .i64 va.kind, .int .i64 va.num, .string va.txt] 94)) := hb2.alloc hb2.size _
        have hX1 := HX.out.below hb2a (Nat.le_refl _)
        have hh1 : (w1.alloc (.cells #[.int .i64 va.kind, .int .i64 va.num, .string va.txt] 94)).heap[b]? = some (.cells #[.int .i64 y.op, .int .i64 y.kind, .int .i64 y.num, .string y.txt, .string y.name, .slice y.A y.n y.c, .int .i64 y2.op, .int .i64 y2.kind, .int .i64 y2.num, .string y2.txt, .string y2.name, .slice y2.A y2.n y2.c] 185 (0, 0)) := by
          rw [hb2a.block b (by simp; omega), HBA.out.block b hbl]; exact HHH.out
        have hw1 : b < w1.heap.size := Nat.lt_of_lt_of_le (by simp; omega) hb2.size
        have hw1x : w.heap.size < w1.heap.size := Nat.lt_of_lt_of_le (by simp; omega) hb2.size
        have hh0 : w1.heap[b]? = some (.cells #[.int .i64 y.op, .int .i64 y.kind, .int .i64 y.num, .string y.txt, .string y.name, .slice y.A y.n y.c, .int .i64 y2.op, .int .i64 y2.kind, .int .i64 y2.num, .string y2.txt, .string y2.name, .slice y2.A y2.n y2.c] 185 (0, 0)) := by
          rw [hb2.block b (by simp; omega), HBA.out.block b hbl]; exact HHH.out
        obtain ⟨⟨x0, x1, x2, x3, x4, x5⟩, _⟩ := (HX.out.below hb2 (Nat.le_refl _)).six_of
        obtain ⟨p0, p1, p2, p3, p4, p5⟩ := cells12 (y := y2) hh0 ⟨rfl, rfl, rfl, rfl, rfl, rfl⟩
        dsimp only at x0 x1 x2 x3 x4 x5
        have HX1 := Lib.hid hX1
        have HB2 := Lib.hid hb2a
        have HS2 := HHT.out _ hb2a
        clear hs hb2 hb2a hX1 hh1 hh0
        go_wp2_with fail
        refine HS2.out.mono ?_
        rintro r w2 ⟨⟨e, rfl, hs⟩, hb3⟩
        obtain rfl := seen_nil hs
        have HB3 := Lib.hid (HB2.out.trans (hb3.mono HB2.out.size))
        have HB3b := Lib.hid (HB3.out.alloc HB3.out.size (.cells #[.int .i64 vb.kind, .int .i64 vb.num, .string vb.txt] 94))
        have hX2 := HX1.out.below hb3 (Nat.le_refl _)
        have hA2 := HVA1.out.below hb3 (Nat.le_refl _)
        obtain ⟨⟨q0, q1, q2, q3, q4, q5⟩, _⟩ := hX2.six_of
        obtain ⟨⟨a0, a1, a2⟩, _⟩ := hA2.tri_of
        have hlx : w.heap.size < w2.heap.size := hX2.lt
        have hla : w1.heap.size < w2.heap.size := hA2.lt
        dsimp only at q0 q1 q2 q3 q4 q5 a0 a1 a2
        have HA2 := Lib.hid (hA2.alloc (.cells #[.int .i64 vb.kind, .int .i64 vb.num, .string vb.txt] 94))
        have HX2 := Lib.hid (hX2.alloc (.cells #[.int .i64 vb.kind, .int .i64 vb.num, .string vb.txt] 94))
        have HB2v := Lib.hid (Vl.lit w2 vb)
        clear hb3 hs hX2 hA2 x0 x1 x2 x3 x4 x5 p0 p1 p2 p3 p4 p5
        have HM0 := esame_any HE.out (HVA.out.trans (HB3b.out.mono HVA.out.size)) op va vb
        rw [← HR3.out] at HM0
        have HM := Lib.hid HM0
        unfold Vl.val at HM
        clear HM0
        go_wp2_with fail
        refine HM.out.mono ?_
        rintro r w5 ⟨⟨e, rfl, hs⟩, hb5⟩
        have HS := Lib.hid hs
        have HB5 := Lib.hid (HB3b.out.trans (hb5.mono HB3b.out.size))
        clear hs hb5 a0 a1 a2 q0 q1 q2 q3 q4 q5
        have hz1 : Cel w5 (w.heap.size + 1) Vl.zero.list := HZ.out.below HB5.out (Nat.le_refl _)
        have hbw : Below w.heap.size w w5 := HBA.out.trans (HB5.out.mono HBA.out.size)
        obtain ⟨⟨z0, z1, z2⟩, g0, g1, g2⟩ := hz1.tri_of
        have HFIN := Lib.hid (hz1.tri R3.2)
        have HBF := Lib.hid (below_tri (z := w.heap.size + 1) hbw (by omega) R3.2)
        clear hz1 hbw
        go_wp2
        show bodyPost _ _ _ _ _ (tri w5 (w.heap.size + 1) R3.2)
        generalize tri w5 (w.heap.size + 1) _ = wf at *
        obtain ⟨⟨k0, k1, k2⟩, _⟩ := HFIN.out.tri_of
        exact bodyPost_ret (v := .tuple #[Vl.val R3.2, e]) (by simp [results, Tryz.results152, go_sem, k0, k1, k2, Vl.val]) rfl ⟨⟨_, rfl, HS.out⟩, HBF.out⟩
      rw [if_neg k7]
      by_cases k11 : op ≤ 11
      · rw [if_pos k11]
        obtain ⟨R3, hR3⟩ : ∃ R, R = Co.ordered op va vb := ⟨_, rfl⟩
        rw [← hR3]
        have HR3 := Lib.hid hR3
        clear hR3
        go_enter Tryz.func152, Tryz.ntmps152
        go_wp2_with fail
        refine HH.out.mono ?_
        rintro r w1 ⟨⟨e, rfl, hs⟩, hb2⟩
        obtain rfl := seen_nil hs
        have HVA1 := Lib.hid (Vl.lit w1 va)
        have hb2a : Below _ _ (w1.alloc (.cells #[.int .i64 va.kind, .int .i64 va.num, .string va.txt] 94)) := hb2.alloc hb2.size _
        have hX1 := HX.out.below hb2a (Nat.le_refl _)
        have hh1 : (w1.alloc (.cells #[.int .i64 va.kind, .int .i64 va.num, .string va.txt] 94)).heap[b]? = some (.cells #[.int .i64 y.op, .int .i64 y.kind, .int .i64 y.num, .string y.txt, .string y.name, .slice y.A y.n y.c, .int .i64 y2.op, .int .i64 y2.kind, .int .i64 y2.num, .string y2.txt, .string y2.name, .slice y2.A y2.n y2.c] 185 (0, 0)) := by
          rw [hb2a.block b (by simp; omega), HBA.out.block b hbl]; exact HHH.out
        have hw1 : b < w1.heap.size := Nat.lt_of_lt_of_le (by simp; omega) hb2.size
        have hw1x : w.heap.size < w1.heap.size := Nat.lt_of_lt_of_le (by simp; omega) hb2.size
        have hh0 : w1.heap[b]? = some (.cells #[.int .i64 y.op, .int .i64 y.kind, .int .i64 y.num, .string y.txt, .string y.name, .slice y.A y.n y.c, .int .i64 y2.op, .int .i64 y2.kind, .int .i64 y2.num, .string y2.txt, .string y2.name, .slice y2.A y2.n y2.c] 185 (0, 0)) := by
          rw [hb2.block b (by simp; omega), HBA.out.block b hbl]; exact HHH.out
        obtain ⟨⟨x0, x1, x2, x3, x4, x5⟩, _⟩ := (HX.out.below hb2 (Nat.le_refl _)).six_of
        obtain ⟨p0, p1, p2, p3, p4, p5⟩ := cells12 (y := y2) hh0 ⟨rfl, rfl, rfl, rfl, rfl, rfl⟩
        dsimp only at x0 x1 x2 x3 x4 x5
        have HX1 := Lib.hid hX1
        have HB2 := Lib.hid hb2a
        have HS2 := HHT.out _ hb2a
        clear hs hb2 hb2a hX1 hh1 hh0
        go_wp2_with fail
        refine HS2.out.mono ?_
        rintro r w2 ⟨⟨e, rfl, hs⟩, hb3⟩
        obtain rfl := seen_nil hs
        have HB3 := Lib.hid (HB2.out.trans (hb3.mono HB2.out.size))
        have HB3b := Lib.hid (HB3.out.alloc HB3.out.size (.cells #[.int .i64 vb.kind, .int .i64 vb.num, .string vb.txt] 94))
        have hX2 := HX1.out.below hb3 (Nat.le_refl _)
        have hA2 := HVA1.out.below hb3 (Nat.le_refl _)
        obtain ⟨⟨q0, q1, q2, q3, q4, q5⟩, _⟩ := hX2.six_of
        obtain ⟨⟨a0, a1, a2⟩, _⟩ := hA2.tri_of
        have hlx : w.heap.size < w2.heap.size := hX2.lt
        have hla : w1.heap.size < w2.heap.size := hA2.lt
        dsimp only at q0 q1 q2 q3 q4 q5 a0 a1 a2
        have HA2 := Lib.hid (hA2.alloc (.cells #[.int .i64 vb.kind, .int .i64 vb.num, .string vb.txt] 94))
        have HX2 := Lib.hid (hX2.alloc (.cells #[.int .i64 vb.kind, .int .i64 vb.num, .string vb.txt] 94))
        have HB2v := Lib.hid (Vl.lit w2 vb)
        clear hb3 hs hX2 hA2 x0 x1 x2 x3 x4 x5 p0 p1 p2 p3 p4 p5
        have HM0 := eord_any HE.out (HVA.out.trans (HB3b.out.mono HVA.out.size)) op va vb
        rw [← HR3.out] at HM0
        have HM := Lib.hid HM0
        unfold Vl.val at HM
        clear HM0
        go_wp2_with fail
        refine HM.out.mono ?_
        rintro r w5 ⟨⟨e, rfl, hs⟩, hb5⟩
        have HS := Lib.hid hs
        have HB5 := Lib.hid (HB3b.out.trans (hb5.mono HB3b.out.size))
        clear hs hb5 a0 a1 a2 q0 q1 q2 q3 q4 q5
        have hz1 : Cel w5 (w.heap.size + 1) Vl.zero.list := HZ.out.below HB5.out (Nat.le_refl _)
        have hbw : Below w.heap.size w w5 := HBA.out.trans (HB5.out.mono HBA.out.size)
        obtain ⟨⟨z0, z1, z2⟩, g0, g1, g2⟩ := hz1.tri_of
        have HFIN := Lib.hid (hz1.tri R3.2)
        have HBF := Lib.hid (below_tri (z := w.heap.size + 1) hbw (by omega) R3.2)
        clear hz1 hbw
        go_wp2
        show bodyPost _ _ _ _ _ (tri w5 (w.heap.size + 1) R3.2)
        generalize tri w5 (w.heap.size + 1) _ = wf at *
        obtain ⟨⟨k0, k1, k2⟩, _⟩ := HFIN.out.tri_of
        exact bodyPost_ret (v := .tuple #[Vl.val R3.2, e]) (by simp [results, Tryz.results152, go_sem, k0, k1, k2, Vl.val]) rfl ⟨⟨_, rfl, HS.out⟩, HBF.out⟩
      rw [if_neg k11]
      by_cases k12 : op = 12
      · subst k12
        clear k7 k11
        by_cases kt : va.kind = 3 ∧ vb.kind = 3
        · rw [if_pos ⟨rfl, kt⟩]
          have hbt : (va.kind == 3 && vb.kind == 3) = true := by rw [kt.1, kt.2]; rfl
          have HM := Lib.hid (eboth_any 3 va vb)
          unfold Vl.val at HM
          rw [hbt] at HM
          clear kt hbt
          go_enter Tryz.func152, Tryz.ntmps152
          go_wp2_with fail
          refine HH.out.mono ?_
          rintro r w1 ⟨⟨e, rfl, hs⟩, hb2⟩
          obtain rfl := seen_nil hs
          have HVA1 := Lib.hid (Vl.lit w1 va)
          have hb2a : Below _ _ (w1.alloc (.cells #[.int .i64 va.kind, .int .i64 va.num, .string va.txt] 94)) := hb2.alloc hb2.size _
          have hX1 := HX.out.below hb2a (Nat.le_refl _)
          have hh1 : (w1.alloc (.cells #[.int .i64 va.kind, .int .i64 va.num, .string va.txt] 94)).heap[b]? = some (.cells #[.int .i64 y.op, .int .i64 y.kind, .int .i64 y.num, .string y.txt, .string y.name, .slice y.A y.n y.c, .int .i64 y2.op, .int .i64 y2.kind, .int .i64 y2.num, .string y2.txt, .string y2.name, .slice y2.A y2.n y2.c] 185 (0, 0)) := by
            rw [hb2a.block b (by simp; omega), HBA.out.block b hbl]; exact HHH.out
          have hw1 : b < w1.heap.size := Nat.lt_of_lt_of_le (by simp; omega) hb2.size
          have hw1x : w.heap.size < w1.heap.size := Nat.lt_of_lt_of_le (by simp; omega) hb2.size
          have hh0 : w1.heap[b]? = some (.cells #[.int .i64 y.op, .int .i64 y.kind, .int .i64 y.num, .string y.txt, .string y.name, .slice y.A y.n y.c, .int .i64 y2.op, .int .i64 y2.kind, .int .i64 y2.num, .string y2.txt, .string y2.name, .slice y2.A y2.n y2.c] 185 (0, 0)) := by
            rw [hb2.block b (by simp; omega), HBA.out.block b hbl]; exact HHH.out
          obtain ⟨⟨x0, x1, x2, x3, x4, x5⟩, _⟩ := (HX.out.below hb2 (Nat.le_refl _)).six_of
          obtain ⟨p0, p1, p2, p3, p4, p5⟩ := cells12 (y := y2) hh0 ⟨rfl, rfl, rfl, rfl, rfl, rfl⟩
          dsimp only at x0 x1 x2 x3 x4 x5
          have HX1 := Lib.hid hX1
          have HB2 := Lib.hid hb2a
          have HS2 := HHT.out _ hb2a
          clear hs hb2 hb2a hX1 hh1 hh0
          go_wp2_with fail
          refine HS2.out.mono ?_
          rintro r w2 ⟨⟨e, rfl, hs⟩, hb3⟩
          obtain rfl := seen_nil hs
          have HB3 := Lib.hid (HB2.out.trans (hb3.mono HB2.out.size))
          have HB3b := Lib.hid (HB3.out.alloc HB3.out.size (.cells #[.int .i64 vb.kind, .int .i64 vb.num, .string vb.txt] 94))
          have hX2 := HX1.out.below hb3 (Nat.le_refl _)
          have hA2 := HVA1.out.below hb3 (Nat.le_refl _)
          obtain ⟨⟨q0, q1, q2, q3, q4, q5⟩, _⟩ := hX2.six_of
          obtain ⟨⟨a0, a1, a2⟩, _⟩ := hA2.tri_of
          have hlx : w.heap.size < w2.heap.size := hX2.lt
          have hla : w1.heap.size < w2.heap.size := hA2.lt
          dsimp only at q0 q1 q2 q3 q4 q5 a0 a1 a2
          have HA2 := Lib.hid (hA2.alloc (.cells #[.int .i64 vb.kind, .int .i64 vb.num, .string vb.txt] 94))
          have HX2 := Lib.hid (hX2.alloc (.cells #[.int .i64 vb.kind, .int .i64 vb.num, .string vb.txt] 94))
          have HB2v := Lib.hid (Vl.lit w2 vb)
          clear hb3 hs hX2 hA2 x0 x1 x2 x3 x4 x5 p0 p1 p2 p3 p4 p5
          go_wp2_with fail
          refine (HM.out _).mono ?_
          rintro r w4 ⟨rfl, hb4⟩
          have hA4 := HA2.out.below hb4 (Nat.le_refl _)
          have hB4 := HB2v.out.below hb4 (Nat.le_refl _)
          have HB4 := Lib.hid (HB3b.out.trans (hb4.mono HB3b.out.size))
          clear a0 a1 a2 q0 q1 q2 q3 q4 q5
          obtain ⟨⟨a0, a1, a2⟩, _⟩ := hA4.tri_of
          obtain ⟨⟨e0, e1, e2⟩, _⟩ := hB4.tri_of
          clear hb4 hA4 hB4
          have hadd := run_string_add_sum (P := Tryz.prog) w4 va.txt vb.txt HSM.out
          go_wp2_with fail
          refine (ecut_any _ _).mono ?_
          rintro r w' ⟨rfl, rfl⟩
          go_wp2_with fail
          refine (vword_any _ _).mono ?_
          rintro r w5 ⟨rfl, hb5⟩
          have HB5 := Lib.hid (HB4.out.trans (hb5.mono HB4.out.size))
          clear hb5 a0 a1 a2 e0 e1 e2
          have hz1 : Cel w5 (w.heap.size + 1) Vl.zero.list := HZ.out.below HB5.out (Nat.le_refl _)
          have hbw : Below w.heap.size w w5 := HBA.out.trans (HB5.out.mono HBA.out.size)
          obtain ⟨⟨z0, z1, z2⟩, g0, g1, g2⟩ := hz1.tri_of
          have HFIN := Lib.hid (hz1.tri (⟨3, 0, Co.cut (va.txt ++ vb.txt)⟩ : Vl))
          have HBF := Lib.hid (below_tri (z := w.heap.size + 1) hbw (by omega) (⟨3, 0, Co.cut (va.txt ++ vb.txt)⟩ : Vl))
          clear hz1 hbw
          go_wp2
          show bodyPost _ _ _ _ _ (tri w5 (w.heap.size + 1) (⟨3, 0, Co.cut (va.txt ++ vb.txt)⟩ : Vl))
          generalize tri w5 (w.heap.size + 1) _ = wf at *
          obtain ⟨⟨k0, k1, k2⟩, _⟩ := HFIN.out.tri_of
          exact bodyPost_ret (v := .tuple #[Vl.val (⟨3, 0, Co.cut (va.txt ++ vb.txt)⟩ : Vl), .nilIface]) (by simp [results, Tryz.results152, go_sem, k0, k1, k2, Vl.val]) rfl ⟨⟨_, rfl, SeenBy.nil⟩, HBF.out⟩
        · rw [if_neg (fun h => kt h.2)]
          have hbt : (va.kind == 3 && vb.kind == 3) = false := by
            rw [Bool.eq_false_iff]
            intro h
            simp at h
            exact kt h
          have HM3 := Lib.hid (eboth_any 3 va vb)
          unfold Vl.val at HM3
          rw [hbt] at HM3
          clear kt hbt
          have HM1 := Lib.hid (eboth_any 1 va vb)
          unfold Vl.val at HM1
          by_cases kn : va.kind = 1 ∧ vb.kind = 1
          · rw [if_pos kn]
            have hbn : (va.kind == 1 && vb.kind == 1) = true := by rw [kn.1, kn.2]; rfl
            rw [hbn] at HM1
            clear kn hbn
            obtain ⟨R3, hR3⟩ : ∃ R, R = Co.counted 12 va.num vb.num := ⟨_, rfl⟩
            rw [← hR3]
            have HR3 := Lib.hid hR3
            clear hR3
            go_enter Tryz.func152, Tryz.ntmps152
            go_wp2_with fail
            refine HH.out.mono ?_
            rintro r w1 ⟨⟨e, rfl, hs⟩, hb2⟩
            obtain rfl := seen_nil hs
            have HVA1 := Lib.hid (Vl.lit w1 va)
            have hb2a : Below _ _ (w1.alloc (.cells #[.int .i64 va.kind, .int .i64 va.num, .string va.txt] 94)) := hb2.alloc hb2.size _
            have hX1 := HX.out.below hb2a (Nat.le_refl _)
            have hh1 : (w1.alloc (.cells #[.int .i64 va.kind, .int .i64 va.num, .string va.txt] 94)).heap[b]? = some (.cells #[.int .i64 y.op, .int .i64 y.kind, .int .i64 y.num, .string y.txt, .string y.name, .slice y.A y.n y.c, .int .i64 y2.op, .int .i64 y2.kind, .int .i64 y2.num, .string y2.txt, .string y2.name, .slice y2.A y2.n y2.c] 185 (0, 0)) := by
              rw [hb2a.block b (by simp; omega), HBA.out.block b hbl]; exact HHH.out
            have hw1 : b < w1.heap.size := Nat.lt_of_lt_of_le (by simp; omega) hb2.size
            have hw1x : w.heap.size < w1.heap.size := Nat.lt_of_lt_of_le (by simp; omega) hb2.size
            have hh0 : w1.heap[b]? = some (.cells #[.int .i64 y.op, .int .i64 y.kind, .int .i64 y.num, .string y.txt, .string y.name, .slice y.A y.n y.c, .int .i64 y2.op, .int .i64 y2.kind, .int .i64 y2.num, .string y2.txt, .string y2.name, .slice y2.A y2.n y2.c] 185 (0, 0)) := by
              rw [hb2.block b (by simp; omega), HBA.out.block b hbl]; exact HHH.out
            obtain ⟨⟨x0, x1, x2, x3, x4, x5⟩, _⟩ := (HX.out.below hb2 (Nat.le_refl _)).six_of
            obtain ⟨p0, p1, p2, p3, p4, p5⟩ := cells12 (y := y2) hh0 ⟨rfl, rfl, rfl, rfl, rfl, rfl⟩
            dsimp only at x0 x1 x2 x3 x4 x5
            have HX1 := Lib.hid hX1
            have HB2 := Lib.hid hb2a
            have HS2 := HHT.out _ hb2a
            clear hs hb2 hb2a hX1 hh1 hh0
            go_wp2_with fail
            refine HS2.out.mono ?_
            rintro r w2 ⟨⟨e, rfl, hs⟩, hb3⟩
            obtain rfl := seen_nil hs
            have HB3 := Lib.hid (HB2.out.trans (hb3.mono HB2.out.size))
            have HB3b := Lib.hid (HB3.out.alloc HB3.out.size (.cells #[.int .i64 vb.kind, .int .i64 vb.num, .string vb.txt] 94))
            have hX2 := HX1.out.below hb3 (Nat.le_refl _)
            have hA2 := HVA1.out.below hb3 (Nat.le_refl _)
            obtain ⟨⟨q0, q1, q2, q3, q4, q5⟩, _⟩ := hX2.six_of
            obtain ⟨⟨a0, a1, a2⟩, _⟩ := hA2.tri_of
            have hlx : w.heap.size < w2.heap.size := hX2.lt
            have hla : w1.heap.size < w2.heap.size := hA2.lt
            dsimp only at q0 q1 q2 q3 q4 q5 a0 a1 a2
            have HA2 := Lib.hid (hA2.alloc (.cells #[.int .i64 vb.kind, .int .i64 vb.num, .string vb.txt] 94))
            have HX2 := Lib.hid (hX2.alloc (.cells #[.int .i64 vb.kind, .int .i64 vb.num, .string vb.txt] 94))
            have HB2v := Lib.hid (Vl.lit w2 vb)
            clear hb3 hs hX2 hA2 x0 x1 x2 x3 x4 x5 p0 p1 p2 p3 p4 p5
            go_wp2_with fail
            refine (HM3.out _).mono ?_
            rintro r w3 ⟨rfl, hb33⟩
            have hA3 := HA2.out.below hb33 (Nat.le_refl _)
            have hB3 := HB2v.out.below hb33 (Nat.le_refl _)
            have hX3 := HX2.out.below hb33 (Nat.le_refl _)
            have HB33 := Lib.hid (HB3b.out.trans (hb33.mono HB3b.out.size))
            clear a0 a1 a2 q0 q1 q2 q3 q4 q5
            obtain ⟨⟨a0, a1, a2⟩, _⟩ := hA3.tri_of
            obtain ⟨⟨e0, e1, e2⟩, _⟩ := hB3.tri_of
            have HA3 := Lib.hid hA3
            have HB3v := Lib.hid hB3
            have HX3 := Lib.hid hX3
            clear hb33 hA3 hB3 hX3
            go_wp2_with fail
            refine (HM1.out _).mono ?_
            rintro r w4 ⟨rfl, hb4⟩
            have hA4 := HA3.out.below hb4 (Nat.le_refl _)
            have hB4 := HB3v.out.below hb4 (Nat.le_refl _)
            have hX4 := HX3.out.below hb4 (Nat.le_refl _)
            have HB4 := Lib.hid (HB33.out.trans (hb4.mono HB33.out.size))
            clear a0 a1 a2 e0 e1 e2
            obtain ⟨⟨a0, a1, a2⟩, _⟩ := hA4.tri_of
            obtain ⟨⟨e0, e1, e2⟩, _⟩ := hB4.tri_of
            obtain ⟨⟨q0, q1, q2, q3, q4, q5⟩, _⟩ := hX4.six_of
            dsimp only at q0
            have HM0 := ecount_any HE.out (HVA.out.trans (HB4.out.mono HVA.out.size)) 12 va.num vb.num
            rw [← HR3.out] at HM0
            have HM := Lib.hid HM0
            unfold Vl.val at HM
            clear hb4 hA4 hB4 hX4 q1 q2 q3 q4 q5
            clear HM0
            go_wp2_with fail
            refine HM.out.mono ?_
            rintro r w5 ⟨⟨e, rfl, hs⟩, hb5⟩
            have HS := Lib.hid hs
            have HB5 := Lib.hid (HB4.out.trans (hb5.mono HB4.out.size))
            clear hs hb5 a0 a1 a2 e0 e1 e2 q0
            have hz1 : Cel w5 (w.heap.size + 1) Vl.zero.list := HZ.out.below HB5.out (Nat.le_refl _)
            have hbw : Below w.heap.size w w5 := HBA.out.trans (HB5.out.mono HBA.out.size)
            obtain ⟨⟨z0, z1, z2⟩, g0, g1, g2⟩ := hz1.tri_of
            have HFIN := Lib.hid (hz1.tri R3.2)
            have HBF := Lib.hid (below_tri (z := w.heap.size + 1) hbw (by omega) R3.2)
            clear hz1 hbw
            go_wp2
            show bodyPost _ _ _ _ _ (tri w5 (w.heap.size + 1) R3.2)
            generalize tri w5 (w.heap.size + 1) _ = wf at *
            obtain ⟨⟨k0, k1, k2⟩, _⟩ := HFIN.out.tri_of
            exact bodyPost_ret (v := .tuple #[Vl.val R3.2, e]) (by simp [results, Tryz.results152, go_sem, k0, k1, k2, Vl.val]) rfl ⟨⟨_, rfl, HS.out⟩, HBF.out⟩
          · rw [if_neg kn]
            have hbn : (va.kind == 1 && vb.kind == 1) = false := by
              rw [Bool.eq_false_iff]
              intro h
              simp at h
              exact kn h
            rw [hbn] at HM1
            clear kn hbn
            go_enter Tryz.func152, Tryz.ntmps152
            go_wp2_with fail
            refine HH.out.mono ?_
            rintro r w1 ⟨⟨e, rfl, hs⟩, hb2⟩
            obtain rfl := seen_nil hs
            have HVA1 := Lib.hid (Vl.lit w1 va)
            have hb2a : Below _ _ (w1.alloc (.cells #[.int .i64 va.kind, .int .i64 va.num, .string va.txt] 94)) := hb2.alloc hb2.size _
            have hX1 := HX.out.below hb2a (Nat.le_refl _)
            have hh1 : (w1.alloc (.cells #[.int .i64 va.kind, .int .i64 va.num, .string va.txt] 94)).heap[b]? = some (.cells #[.int .i64 y.op, .int .i64 y.kind, .int .i64 y.num, .string y.txt, .string y.name, .slice y.A y.n y.c, .int .i64 y2.op, .int .i64 y2.kind, .int .i64 y2.num, .string y2.txt, .string y2.name, .slice y2.A y2.n y2.c] 185 (0, 0)) := by
              rw [hb2a.block b (by simp; omega), HBA.out.block b hbl]; exact HHH.out
            have hw1 : b < w1.heap.size := Nat.lt_of_lt_of_le (by simp; omega) hb2.size
            have hw1x : w.heap.size < w1.heap.size := Nat.lt_of_lt_of_le (by simp; omega) hb2.size
            have hh0 : w1.heap[b]? = some (.cells #[.int .i64 y.op, .int .i64 y.kind, .int .i64 y.num, .string y.txt, .string y.name, .slice y.A y.n y.c, .int .i64 y2.op, .int .i64 y2.kind, .int .i64 y2.num, .string y2.txt, .string y2.name, .slice y2.A y2.n y2.c] 185 (0, 0)) := by
              rw [hb2.block b (by simp; omega), HBA.out.block b hbl]; exact HHH.out
            obtain ⟨⟨x0, x1, x2, x3, x4, x5⟩, _⟩ := (HX.out.below hb2 (Nat.le_refl _)).six_of
            obtain ⟨p0, p1, p2, p3, p4, p5⟩ := cells12 (y := y2) hh0 ⟨rfl, rfl, rfl, rfl, rfl, rfl⟩
            dsimp only at x0 x1 x2 x3 x4 x5
            have HX1 := Lib.hid hX1
            have HB2 := Lib.hid hb2a
            have HS2 := HHT.out _ hb2a
            clear hs hb2 hb2a hX1 hh1 hh0
            go_wp2_with fail
            refine HS2.out.mono ?_
            rintro r w2 ⟨⟨e, rfl, hs⟩, hb3⟩
            obtain rfl := seen_nil hs
            have HB3 := Lib.hid (HB2.out.trans (hb3.mono HB2.out.size))
            have HB3b := Lib.hid (HB3.out.alloc HB3.out.size (.cells #[.int .i64 vb.kind, .int .i64 vb.num, .string vb.txt] 94))
            have hX2 := HX1.out.below hb3 (Nat.le_refl _)
            have hA2 := HVA1.out.below hb3 (Nat.le_refl _)
            obtain ⟨⟨q0, q1, q2, q3, q4, q5⟩, _⟩ := hX2.six_of
            obtain ⟨⟨a0, a1, a2⟩, _⟩ := hA2.tri_of
            have hlx : w.heap.size < w2.heap.size := hX2.lt
            have hla : w1.heap.size < w2.heap.size := hA2.lt
            dsimp only at q0 q1 q2 q3 q4 q5 a0 a1 a2
            have HA2 := Lib.hid (hA2.alloc (.cells #[.int .i64 vb.kind, .int .i64 vb.num, .string vb.txt] 94))
            have HX2 := Lib.hid (hX2.alloc (.cells #[.int .i64 vb.kind, .int .i64 vb.num, .string vb.txt] 94))
            have HB2v := Lib.hid (Vl.lit w2 vb)
            clear hb3 hs hX2 hA2 x0 x1 x2 x3 x4 x5 p0 p1 p2 p3 p4 p5
            go_wp2_with fail
            refine (HM3.out _).mono ?_
            rintro r w3 ⟨rfl, hb33⟩
            have hA3 := HA2.out.below hb33 (Nat.le_refl _)
            have hB3 := HB2v.out.below hb33 (Nat.le_refl _)
            have hX3 := HX2.out.below hb33 (Nat.le_refl _)
            have HB33 := Lib.hid (HB3b.out.trans (hb33.mono HB3b.out.size))
            clear a0 a1 a2 q0 q1 q2 q3 q4 q5
            obtain ⟨⟨a0, a1, a2⟩, _⟩ := hA3.tri_of
            obtain ⟨⟨e0, e1, e2⟩, _⟩ := hB3.tri_of
            have HA3 := Lib.hid hA3
            have HB3v := Lib.hid hB3
            have HX3 := Lib.hid hX3
            clear hb33 hA3 hB3 hX3
            go_wp2_with fail
            refine (HM1.out _).mono ?_
            rintro r w4 ⟨rfl, hb4⟩
            have HB4 := Lib.hid (HB33.out.trans (hb4.mono HB33.out.size))
            have hz1 : Cel w4 (w.heap.size + 1) Vl.zero.list := HZ.out.below HB4.out (Nat.le_refl _)
            have hbw : Below w.heap.size w w4 := HBA.out.trans (HB4.out.mono HBA.out.size)
            obtain ⟨⟨z0, z1, z2⟩, g0, g1, g2⟩ := hz1.tri_of
            obtain ⟨aa, hka, hg⟩ := (HE.out.below (HV.out.trans (hbw.mono HV.out.size))).e110
            have hgl := cell_lt hg
            have hgn : 10 < w.heap.size := by
              obtain ⟨_, _, hg⟩ := (HE.out.below HV.out).e110
              exact cell_lt hg
            unfold errV at hg
            have HKA := Lib.hid hka
            have HFIN := Lib.hid ((hz1.tri Vl.zero).drewN 1)
            have HBF := Lib.hid (below_tri (z := w.heap.size + 1) hbw (by omega) Vl.zero).drew
            clear hb4 hka hz1 hbw a0 a1 a2 e0 e1 e2
            go_wp2_with fail
            go_region
            go_wp2
            show bodyPost _ _ _ _ _ (tri w4 (w.heap.size + 1) Vl.zero).drew
            have hfin : Cel (tri w4 (w.heap.size + 1) Vl.zero).drew (w.heap.size + 1) Vl.zero.list := HFIN.out
            have hbf : Below w.heap.size w (tri w4 (w.heap.size + 1) Vl.zero).drew := HBF.out
            generalize (tri w4 (w.heap.size + 1) _).drew = wf at *
            obtain ⟨⟨k0, k1, k2⟩, _⟩ := hfin.tri_of
            exact bodyPost_ret (v := .tuple #[Vl.val Vl.zero, errV aa]) (by simp [results, Tryz.results152, go_sem, k0, k1, k2, Vl.val, errV]) rfl ⟨⟨_, rfl, .err 110 aa HKA.out (by decide)⟩, hbf⟩
      · rw [if_neg (fun h => k12 h.1)]
        have i12 : (op == 12) = false := by rw [beq_eq_false_iff_ne]; exact k12
        clear k12
        have HM1 := Lib.hid (eboth_any 1 va vb)
        unfold Vl.val at HM1
        by_cases kn : va.kind = 1 ∧ vb.kind = 1
        · rw [if_pos kn]
          have hbn : (va.kind == 1 && vb.kind == 1) = true := by rw [kn.1, kn.2]; rfl
          rw [hbn] at HM1
          clear kn hbn
          obtain ⟨R3, hR3⟩ : ∃ R, R = Co.counted op va.num vb.num := ⟨_, rfl⟩
          rw [← hR3]
          have HR3 := Lib.hid hR3
          clear hR3
          go_enter Tryz.func152, Tryz.ntmps152
          go_wp2_with fail
          refine HH.out.mono ?_
          rintro r w1 ⟨⟨e, rfl, hs⟩, hb2⟩
          obtain rfl := seen_nil hs
          have HVA1 := Lib.hid (Vl.lit w1 va)
          have hb2a : Below _ _ (w1.alloc (.cells #[.int .i64 va.kind, .int .i64 va.num, .string va.txt] 94)) := hb2.alloc hb2.size _
          have hX1 := HX.out.below hb2a (Nat.le_refl _)
          have hh1 : (w1.alloc (.cells #[.int .i64 va.kind, .int .i64 va.num, .string va.txt] 94)).heap[b]? = some (.cells #[.int .i64 y.op, .int .i64 y.kind, .int .i64 y.num, .string y.txt, .string y.name, .slice y.A y.n y.c, .int .i64 y2.op, .int .i64 y2.kind, .int .i64 y2.num, .string y2.txt, .string y2.name, .slice y2.A y2.n y2.c] 185 (0, 0)) := by
            rw [hb2a.block b (by simp; omega), HBA.out.block b hbl]; exact HHH.out
          have hw1 : b < w1.heap.size := Nat.lt_of_lt_of_le (by simp; omega) hb2.size
          have hw1x : w.heap.size < w1.heap.size := Nat.lt_of_lt_of_le (by simp; omega) hb2.size
          have hh0 : w1.heap[b]? = some (.cells #[.int .i64 y.op, .int .i64 y.kind, .int .i64 y.num, .string y.txt, .string y.name, .slice y.A y.n y.c, .int .i64 y2.op, .int .i64 y2.kind, .int .i64 y2.num, .string y2.txt, .string y2.name, .slice y2.A y2.n y2.c] 185 (0, 0)) := by
            rw [hb2.block b (by simp; omega), HBA.out.block b hbl]; exact HHH.out
          obtain ⟨⟨x0, x1, x2, x3, x4, x5⟩, _⟩ := (HX.out.below hb2 (Nat.le_refl _)).six_of
          obtain ⟨p0, p1, p2, p3, p4, p5⟩ := cells12 (y := y2) hh0 ⟨rfl, rfl, rfl, rfl, rfl, rfl⟩
          dsimp only at x0 x1 x2 x3 x4 x5
          have HX1 := Lib.hid hX1
          have HB2 := Lib.hid hb2a
          have HS2 := HHT.out _ hb2a
          clear hs hb2 hb2a hX1 hh1 hh0
          go_wp2_with fail
          refine HS2.out.mono ?_
          rintro r w2 ⟨⟨e, rfl, hs⟩, hb3⟩
          obtain rfl := seen_nil hs
          have HB3 := Lib.hid (HB2.out.trans (hb3.mono HB2.out.size))
          have HB3b := Lib.hid (HB3.out.alloc HB3.out.size (.cells #[.int .i64 vb.kind, .int .i64 vb.num, .string vb.txt] 94))
          have hX2 := HX1.out.below hb3 (Nat.le_refl _)
          have hA2 := HVA1.out.below hb3 (Nat.le_refl _)
          obtain ⟨⟨q0, q1, q2, q3, q4, q5⟩, _⟩ := hX2.six_of
          obtain ⟨⟨a0, a1, a2⟩, _⟩ := hA2.tri_of
          have hlx : w.heap.size < w2.heap.size := hX2.lt
          have hla : w1.heap.size < w2.heap.size := hA2.lt
          dsimp only at q0 q1 q2 q3 q4 q5 a0 a1 a2
          have HA2 := Lib.hid (hA2.alloc (.cells #[.int .i64 vb.kind, .int .i64 vb.num, .string vb.txt] 94))
          have HX2 := Lib.hid (hX2.alloc (.cells #[.int .i64 vb.kind, .int .i64 vb.num, .string vb.txt] 94))
          have HB2v := Lib.hid (Vl.lit w2 vb)
          clear hb3 hs hX2 hA2 x0 x1 x2 x3 x4 x5 p0 p1 p2 p3 p4 p5
          have HA3 := HA2
          have HB3v := HB2v
          have HX3 := HX2
          have HB33 := HB3b
          go_wp2_with fail
          refine (HM1.out _).mono ?_
          rintro r w4 ⟨rfl, hb4⟩
          have hA4 := HA3.out.below hb4 (Nat.le_refl _)
          have hB4 := HB3v.out.below hb4 (Nat.le_refl _)
          have hX4 := HX3.out.below hb4 (Nat.le_refl _)
          have HB4 := Lib.hid (HB33.out.trans (hb4.mono HB33.out.size))
          clear a0 a1 a2 q0 q1 q2 q3 q4 q5
          obtain ⟨⟨a0, a1, a2⟩, _⟩ := hA4.tri_of
          obtain ⟨⟨e0, e1, e2⟩, _⟩ := hB4.tri_of
          obtain ⟨⟨q0, q1, q2, q3, q4, q5⟩, _⟩ := hX4.six_of
          dsimp only at q0
          have HM0 := ecount_any HE.out (HVA.out.trans (HB4.out.mono HVA.out.size)) op va.num vb.num
          rw [← HR3.out] at HM0
          have HM := Lib.hid HM0
          unfold Vl.val at HM
          clear hb4 hA4 hB4 hX4 q1 q2 q3 q4 q5
          clear HM0
          go_wp2_with fail
          refine HM.out.mono ?_
          rintro r w5 ⟨⟨e, rfl, hs⟩, hb5⟩
          have HS := Lib.hid hs
          have HB5 := Lib.hid (HB4.out.trans (hb5.mono HB4.out.size))
          clear hs hb5 a0 a1 a2 e0 e1 e2 q0
          have hz1 : Cel w5 (w.heap.size + 1) Vl.zero.list := HZ.out.below HB5.out (Nat.le_refl _)
          have hbw : Below w.heap.size w w5 := HBA.out.trans (HB5.out.mono HBA.out.size)
          obtain ⟨⟨z0, z1, z2⟩, g0, g1, g2⟩ := hz1.tri_of
          have HFIN := Lib.hid (hz1.tri R3.2)
          have HBF := Lib.hid (below_tri (z := w.heap.size + 1) hbw (by omega) R3.2)
          clear hz1 hbw
          go_wp2
          show bodyPost _ _ _ _ _ (tri w5 (w.heap.size + 1) R3.2)
          generalize tri w5 (w.heap.size + 1) _ = wf at *
          obtain ⟨⟨k0, k1, k2⟩, _⟩ := HFIN.out.tri_of
          exact bodyPost_ret (v := .tuple #[Vl.val R3.2, e]) (by simp [results, Tryz.results152, go_sem, k0, k1, k2, Vl.val]) rfl ⟨⟨_, rfl, HS.out⟩, HBF.out⟩
        · rw [if_neg kn]
          have hbn : (va.kind == 1 && vb.kind == 1) = false := by
            rw [Bool.eq_false_iff]
            intro h
            simp at h
            exact kn h
          rw [hbn] at HM1
          clear kn hbn
          go_enter Tryz.func152, Tryz.ntmps152
          go_wp2_with fail
          refine HH.out.mono ?_
          rintro r w1 ⟨⟨e, rfl, hs⟩, hb2⟩
          obtain rfl := seen_nil hs
          have HVA1 := Lib.hid (Vl.lit w1 va)
          have hb2a : Below _ _ (w1.alloc (.cells #[.int .i64 va.kind, .int .i64 va.num, .string va.txt] 94)) := hb2.alloc hb2.size _
          have hX1 := HX.out.below hb2a (Nat.le_refl _)
          have hh1 : (w1.alloc (.cells #[.int .i64 va.kind, .int .i64 va.num, .string va.txt] 94)).heap[b]? = some (.cells #[.int .i64 y.op, .int .i64 y.kind, .int .i64 y.num, .string y.txt, .string y.name, .slice y.A y.n y.c, .int .i64 y2.op, .int .i64 y2.kind, .int .i64 y2.num, .string y2.txt, .string y2.name, .slice y2.A y2.n y2.c] 185 (0, 0)) := by
            rw [hb2a.block b (by simp; omega), HBA.out.block b hbl]; exact HHH.out
          have hw1 : b < w1.heap.size := Nat.lt_of_lt_of_le (by simp; omega) hb2.size
          have hw1x : w.heap.size < w1.heap.size := Nat.lt_of_lt_of_le (by simp; omega) hb2.size
          have hh0 : w1.heap[b]? = some (.cells #[.int .i64 y.op, .int .i64 y.kind, .int .i64 y.num, .string y.txt, .string y.name, .slice y.A y.n y.c, .int .i64 y2.op, .int .i64 y2.kind, .int .i64 y2.num, .string y2.txt, .string y2.name, .slice y2.A y2.n y2.c] 185 (0, 0)) := by
            rw [hb2.block b (by simp; omega), HBA.out.block b hbl]; exact HHH.out
          obtain ⟨⟨x0, x1, x2, x3, x4, x5⟩, _⟩ := (HX.out.below hb2 (Nat.le_refl _)).six_of
          obtain ⟨p0, p1, p2, p3, p4, p5⟩ := cells12 (y := y2) hh0 ⟨rfl, rfl, rfl, rfl, rfl, rfl⟩
          dsimp only at x0 x1 x2 x3 x4 x5
          have HX1 := Lib.hid hX1
          have HB2 := Lib.hid hb2a
          have HS2 := HHT.out _ hb2a
          clear hs hb2 hb2a hX1 hh1 hh0
          go_wp2_with fail
          refine HS2.out.mono ?_
          rintro r w2 ⟨⟨e, rfl, hs⟩, hb3⟩
          obtain rfl := seen_nil hs
          have HB3 := Lib.hid (HB2.out.trans (hb3.mono HB2.out.size))
          have HB3b := Lib.hid (HB3.out.alloc HB3.out.size (.cells #[.int .i64 vb.kind, .int .i64 vb.num, .string vb.txt] 94))
          have hX2 := HX1.out.below hb3 (Nat.le_refl _)
          have hA2 := HVA1.out.below hb3 (Nat.le_refl _)
          obtain ⟨⟨q0, q1, q2, q3, q4, q5⟩, _⟩ := hX2.six_of
          obtain ⟨⟨a0, a1, a2⟩, _⟩ := hA2.tri_of
          have hlx : w.heap.size < w2.heap.size := hX2.lt
          have hla : w1.heap.size < w2.heap.size := hA2.lt
          dsimp only at q0 q1 q2 q3 q4 q5 a0 a1 a2
          have HA2 := Lib.hid (hA2.alloc (.cells #[.int .i64 vb.kind, .int .i64 vb.num, .string vb.txt] 94))
          have HX2 := Lib.hid (hX2.alloc (.cells #[.int .i64 vb.kind, .int .i64 vb.num, .string vb.txt] 94))
          have HB2v := Lib.hid (Vl.lit w2 vb)
          clear hb3 hs hX2 hA2 x0 x1 x2 x3 x4 x5 p0 p1 p2 p3 p4 p5
          have HA3 := HA2
          have HB3v := HB2v
          have HX3 := HX2
          have HB33 := HB3b
          go_wp2_with fail
          refine (HM1.out _).mono ?_
          rintro r w4 ⟨rfl, hb4⟩
          have HB4 := Lib.hid (HB33.out.trans (hb4.mono HB33.out.size))
          have hz1 : Cel w4 (w.heap.size + 1) Vl.zero.list := HZ.out.below HB4.out (Nat.le_refl _)
          have hbw : Below w.heap.size w w4 := HBA.out.trans (HB4.out.mono HBA.out.size)
          obtain ⟨⟨z0, z1, z2⟩, g0, g1, g2⟩ := hz1.tri_of
          obtain ⟨aa, hka, hg⟩ := (HE.out.below (HV.out.trans (hbw.mono HV.out.size))).e110
          have hgl := cell_lt hg
          have hgn : 10 < w.heap.size := by
            obtain ⟨_, _, hg⟩ := (HE.out.below HV.out).e110
            exact cell_lt hg
          unfold errV at hg
          have HKA := Lib.hid hka
          have HFIN := Lib.hid ((hz1.tri Vl.zero).drewN 1)
          have HBF := Lib.hid (below_tri (z := w.heap.size + 1) hbw (by omega) Vl.zero).drew
          clear hb4 hka hz1 hbw a0 a1 a2 q0 q1 q2 q3 q4 q5
          go_wp2_with fail
          go_region
          go_wp2
          show bodyPost _ _ _ _ _ (tri w4 (w.heap.size + 1) Vl.zero).drew
          have hfin : Cel (tri w4 (w.heap.size + 1) Vl.zero).drew (w.heap.size + 1) Vl.zero.list := HFIN.out
          have hbf : Below w.heap.size w (tri w4 (w.heap.size + 1) Vl.zero).drew := HBF.out
          generalize (tri w4 (w.heap.size + 1) _).drew = wf at *
          obtain ⟨⟨k0, k1, k2⟩, _⟩ := hfin.tri_of
          exact bodyPost_ret (v := .tuple #[Vl.val Vl.zero, errV aa]) (by simp [results, Tryz.results152, go_sem, k0, k1, k2, Vl.val, errV]) rfl ⟨⟨_, rfl, .err 110 aa HKA.out (by decide)⟩, hbf⟩
    · rw [if_neg h2]
      have HNZ := Lib.hid h2
      clear h2
      go_enter Tryz.func152, Tryz.ntmps152
      go_wp2_with fail
      refine HH.out.mono ?_
      rintro r w1 ⟨⟨e, rfl, hs⟩, hb2⟩
      obtain rfl := seen_nil hs
      have HVA1 := Lib.hid (Vl.lit w1 va)
      have hb2a : Below _ _ (w1.alloc (.cells #[.int .i64 va.kind, .int .i64 va.num, .string va.txt] 94)) := hb2.alloc hb2.size _
      have hX1 := HX.out.below hb2a (Nat.le_refl _)
      have hh1 : (w1.alloc (.cells #[.int .i64 va.kind, .int .i64 va.num, .string va.txt] 94)).heap[b]? = some (.cells #[.int .i64 y.op, .int .i64 y.kind, .int .i64 y.num, .string y.txt, .string y.name, .slice y.A y.n y.c, .int .i64 y2.op, .int .i64 y2.kind, .int .i64 y2.num, .string y2.txt, .string y2.name, .slice y2.A y2.n y2.c] 185 (0, 0)) := by
        rw [hb2a.block b (by simp; omega), HBA.out.block b hbl]; exact HHH.out
      have hw1 : b < w1.heap.size := Nat.lt_of_lt_of_le (by simp; omega) hb2.size
      have hw1x : w.heap.size < w1.heap.size := Nat.lt_of_lt_of_le (by simp; omega) hb2.size
      have hh0 : w1.heap[b]? = some (.cells #[.int .i64 y.op, .int .i64 y.kind, .int .i64 y.num, .string y.txt, .string y.name, .slice y.A y.n y.c, .int .i64 y2.op, .int .i64 y2.kind, .int .i64 y2.num, .string y2.txt, .string y2.name, .slice y2.A y2.n y2.c] 185 (0, 0)) := by
        rw [hb2.block b (by simp; omega), HBA.out.block b hbl]; exact HHH.out
      obtain ⟨⟨x0, x1, x2, x3, x4, x5⟩, _⟩ := (HX.out.below hb2 (Nat.le_refl _)).six_of
      obtain ⟨p0, p1, p2, p3, p4, p5⟩ := cells12 (y := y2) hh0 ⟨rfl, rfl, rfl, rfl, rfl, rfl⟩
      dsimp only at x0 x1 x2 x3 x4 x5
      have HX1 := Lib.hid hX1
      have HB2 := Lib.hid hb2a
      have HS2 := HHT.out _ hb2a
      clear hs hb2 hb2a hX1 hh1 hh0
      go_wp2_with fail
      refine HS2.out.mono ?_
      rintro r w2 ⟨⟨e, rfl, hs⟩, hb3⟩
      obtain ⟨aa, rfl, hka⟩ := seen_err hs HNZ.out
      have HB3 := Lib.hid (HB2.out.trans (hb3.mono HB2.out.size))
      have hz1 : Cel w2 (w.heap.size + 1) Vl.zero.list := HZ.out.below HB3.out (Nat.le_refl _)
      have hbw : Below w.heap.size w w2 := HBA.out.trans (HB3.out.mono HBA.out.size)
      obtain ⟨⟨z0, z1, z2⟩, g0, g1, g2⟩ := hz1.tri_of
      have hzl : w.heap.size + 1 < w2.heap.size := hz1.lt
      have HFIN := Lib.hid ((hz1.tri Vl.zero).alloc (.cells #[.int .i64 vb.kind, .int .i64 vb.num, .string vb.txt] 94))
      have HBF := Lib.hid ((below_tri (z := w.heap.size + 1) hbw (by omega) Vl.zero).alloc (by simp [tri]; omega) (.cells #[.int .i64 vb.kind, .int .i64 vb.num, .string vb.txt] 94))
      have HKA := Lib.hid hka
      clear hs hb3 hka hz1 hbw x0 x1 x2 x3 x4 x5 p0 p1 p2 p3 p4 p5
      unfold errV
      go_wp2
      show bodyPost _ _ _ _ _ ((tri w2 (w.heap.size + 1) Vl.zero).alloc (.cells #[.int .i64 vb.kind, .int .i64 vb.num, .string vb.txt] 94))
      generalize (tri w2 (w.heap.size + 1) _).alloc _ = wf at *
      obtain ⟨⟨k0, k1, k2⟩, _⟩ := HFIN.out.tri_of
      exact bodyPost_ret (v := .tuple #[Vl.val Vl.zero, errV aa]) (by simp [results, Tryz.results152, go_sem, k0, k1, k2, Vl.val, errV]) rfl ⟨⟨_, rfl, .err _ aa HKA.out HNZ.out⟩, HBF.out⟩
  · rw [if_neg h0]
    have HNZ := Lib.hid h0
    clear h0
    go_enter Tryz.func152, Tryz.ntmps152
    go_wp2_with fail
    refine HH.out.mono ?_
    rintro r w1 ⟨⟨e, rfl, hs⟩, hb2⟩
    obtain ⟨aa, rfl, hka⟩ := seen_err hs HNZ.out
    have hz1 : Cel w1 (w.heap.size + 1) Vl.zero.list := HZ.out.below hb2 (Nat.le_refl _)
    have hbw : Below w.heap.size w w1 := HBA.out.trans (hb2.mono HBA.out.size)
    obtain ⟨⟨z0, z1, z2⟩, g0, g1, g2⟩ := hz1.tri_of
    have hzl : w.heap.size + 1 < w1.heap.size := hz1.lt
    have HFIN := Lib.hid ((hz1.tri Vl.zero).alloc (.cells #[.int .i64 va.kind, .int .i64 va.num, .string va.txt] 94))
    have HBF := Lib.hid ((below_tri (z := w.heap.size + 1) hbw (by omega) Vl.zero).alloc (by simp [tri]; omega) (.cells #[.int .i64 va.kind, .int .i64 va.num, .string va.txt] 94))
    have HKA := Lib.hid hka
    clear hs hb2 hka hz1 hbw
    unfold errV
    go_wp2
    show bodyPost _ _ _ _ _ ((tri w1 (w.heap.size + 1) Vl.zero).alloc (.cells #[.int .i64 va.kind, .int .i64 va.num, .string va.txt] 94))
    generalize (tri w1 (w.heap.size + 1) _).alloc _ = wf at *
    obtain ⟨⟨k0, k1, k2⟩, _⟩ := HFIN.out.tri_of
    exact bodyPost_ret (v := .tuple #[Vl.val Vl.zero, errV aa]) (by simp [results, Tryz.results152, go_sem, k0, k1, k2, Vl.val, errV]) rfl ⟨⟨_, rfl, .err _ aa HKA.out HNZ.out⟩, HBF.out⟩
end
end Go.Proofs.YtkffnfgdmcebdaaGreatDoor
