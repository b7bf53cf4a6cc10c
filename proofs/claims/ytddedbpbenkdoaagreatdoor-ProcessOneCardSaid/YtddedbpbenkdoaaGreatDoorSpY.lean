/- Walks of the document's check of a process: a node's flows and Kind. -/
import Derived.Test.YtddedbpbenkdoaaGreatDoorHaY
namespace Go.Proofs.YtddedbpbenkdoaaGreatDoor
open Go.RowKit

namespace Pr
def shapedR (kd : Int) (i a b cs : Nat) : Bool :=
  if (kd == 1) != (i == 0) then false
  else if kd = 1 then a == 0 && b == 1
  else if kd = 2 ∨ kd = 3 then decide (0 < a) && b == 0
  else if kd = 4 then decide (0 < a) && (b == 1 && cs == 0 || b == 2 && decide (0 < cs))
  else if kd = 5 ∨ kd = 6 ∨ kd = 7 then decide (0 < a) && decide (0 < b)
  else false
theorem shaped_R (p : P) (i : Nat) : shaped p i = shapedR (p.nodes[i]!).kind i (insL p i).length (outsL p i).length (p.nodes[i]!).caught.size := rfl
set_option maxHeartbeats 6400000 in
set_option maxRecDepth 10000 in
theorem refshaped_any (A : Option Addr) (n c : Nat) (F : Option Addr) (m d : Nat) (p : P) (i : Nat) (w : World) (hN : KRow Nd.κ w w.heap.size A n p.nodes) (hF : KRow Fl.κ w w.heap.size F m p.flows) (hm : m ≤ 100000) (hi : i < p.n) :
    Calls Tryz.prog 47 #[.agg #[.string p.name, .slice A n c, .slice F m d], .int .i64 i] w fun e w' => e = .returned (.bool (shaped p i)) ∧ Below w.heap.size w w' := by
  obtain rfl : p.n = n := hN.len (by decide)
  obtain rfl : p.m = m := hF.len (by decide)
  have hiI : (i : Int) < (p.n : Int) := by omega
  have hi0 : (0 : Int) ≤ (i : Int) := by omega
  obtain ⟨b, off, rfl, hbl, _⟩ := hN.2 (by omega)
  obtain ⟨R, hR⟩ : ∃ R, R = shaped p i := ⟨_, rfl⟩
  rw [← hR]
  rw [shaped_R] at hR
  have HRR := Lib.hid hR
  clear hR
  have HN := Lib.hid hN
  have HF := Lib.hid hF
  have HP := Lib.hid (Cel.lit w #[.string p.name, .slice (some ⟨b, off, none⟩) p.n c, .slice F p.m d] 30)
  have HB := Lib.hid ((Below.refl w.heap.size w).alloc (Nat.le_refl _) (.cells #[.string p.name, .slice (some ⟨b, off, none⟩) p.n c, .slice F p.m d] 30))
  have s1 : (w.alloc (.cells #[.string p.name, .slice (some ⟨b, off, none⟩) p.n c, .slice F p.m d] 30)).heap.size = w.heap.size + 1 := by simp
  obtain ⟨n0, n1, n2, n3, n4, n5, n6, n7⟩ := nd_at (HN.out.below HB.out (Nat.le_refl _)) hi
  obtain ⟨⟨z0, z1, z2⟩, _⟩ := tri_facts HP.out
  clear hN hF hi
  go_enter Tryz.func47, Tryz.ntmps47
  go_upto_region 1 with (fail)
  generalize w.alloc _ = wb at *
  generalize hx : p.nodes[i]! = x at *
  have HX := Lib.hid (Cel.lit wb #[.int .i64 x.kind, .string x.topic, .int .i64 x.prio, .int .i64 x.retr, .int .i64 x.dflt, .string x.code, .string x.caught, .int .i64 x.tgt] 36)
  have hb2 := (Below.refl wb.heap.size wb).alloc (Nat.le_refl _) (.cells #[.int .i64 x.kind, .string x.topic, .int .i64 x.prio, .int .i64 x.retr, .int .i64 x.dflt, .string x.code, .string x.caught, .int .i64 x.tgt] 36)
  have HB2 := Lib.hid (HB.out.trans (hb2.mono HB.out.size))
  have HP2 := Lib.hid (HP.out.below hb2 (Nat.le_refl _))
  clear hb2 HP HB hx
  clear s1
  go_upto_region 2 with (fail)
  generalize wb.alloc _ = wc at *
  generalize wb.heap.size = z at *
  have hii : i < p.n := by omega
  have ein : (insB p (i : Int)).length = (insL p i).length := by rw [insB_in p hii]
  have eout : (outsB p (i : Int)).length = (outsL p i).length := by rw [outsB_in p hii]
  generalize (insL p i).length = a at *
  generalize (outsL p i).length = o at *
  have EIN := Lib.hid ein
  have EOUT := Lib.hid eout
  clear ein eout n0 n1 n2 n3 n4 n5 n6 n7 z0 z1 z2
  obtain ⟨⟨z0, z1, z2⟩, _⟩ := tri_facts HP2.out
  go_wp2_with fail
  refine (refins_any (some ⟨b, off, none⟩) p.n c F p.m d p (i : Int) wc ((HN.out.below HB2.out (Nat.le_refl _)).mono HB2.out.size) ((HF.out.below HB2.out (Nat.le_refl _)).mono HB2.out.size) hm).mono ?_
  rintro e w3 ⟨⟨X, k, cc, rfl, ho⟩, hb3⟩
  obtain rfl : a = k := by have := ho.len; rw [List.length_map, EIN.out] at this; exact this
  have HB3 := Lib.hid (HB2.out.trans (hb3.mono HB2.out.size))
  have HP3 := Lib.hid (HP2.out.below hb3 (Nat.le_refl _))
  have HX3 := Lib.hid (HX.out.below hb3 (Nat.le_refl _))
  clear ho hb3 HB2 HP2 HX z0 z1 z2
  obtain ⟨⟨z0, z1, z2⟩, _⟩ := tri_facts HP3.out
  go_wp2_with fail
  refine (refouts_any (some ⟨b, off, none⟩) p.n c F p.m d p (i : Int) w3 ((HN.out.below HB3.out (Nat.le_refl _)).mono HB3.out.size) ((HF.out.below HB3.out (Nat.le_refl _)).mono HB3.out.size) hm).mono ?_
  rintro e w4 ⟨⟨X2, k2, cc2, rfl, ho⟩, hb4⟩
  obtain rfl : o = k2 := by have := ho.len; rw [List.length_map, EOUT.out] at this; exact this
  have HB4 := Lib.hid (HB3.out.trans (hb4.mono HB3.out.size))
  have HX4 := Lib.hid (HX3.out.below hb4 (Nat.le_refl _))
  clear ho hb4 HB3 HP3 HX3 z0 z1 z2 EIN EOUT HN HF
  obtain ⟨x0, _, _, _, _, _, x6, _⟩ := nd_facts HX4.out
  generalize x.kind = kd at *
  obtain ⟨ct, hct⟩ : ∃ ct, x.caught = ct := ⟨_, rfl⟩
  rw [hct] at x6 HRR
  clear hct HX4
  have a0 : (0 : Int) ≤ (a : Int) := by omega
  have o0 : (0 : Int) ≤ (o : Int) := by omega
  clear hm hi0 hiI hii
  by_cases h1 : kd = 1
  · subst h1
    by_cases h0 : i = 0
    · subst h0
      by_cases ha : a = 0
      · subst ha
        by_cases ho : o = 1
        · subst ho
          have HR : Hid (shapedR 1 0 0 1 ct.size = true) := Lib.hid (by unfold shapedR; simp [])
          go_wp2
          go_ret
          exact ⟨by rw [HRR.out, HR.out]; rfl, HB4.out⟩
        · have oB1 : ((o : Int) == 1) = false := by rw [beq_eq_false_iff_ne]; omega
          have HR : Hid (shapedR 1 0 0 o ct.size = false) := Lib.hid (by unfold shapedR; simp [ho])
          go_wp2
          go_ret
          exact ⟨by rw [HRR.out, HR.out]; rfl, HB4.out⟩
      · have aP : 0 < a := by omega
        have aPI : (0 : Int) < (a : Int) := by omega
        have aB : ((a : Int) == 0) = false := by rw [beq_eq_false_iff_ne]; omega
        clear ha
        have HR : Hid (shapedR 1 0 a o ct.size = false) := Lib.hid (by unfold shapedR; simp [Nat.ne_of_gt aP])
        go_wp2
        go_ret
        exact ⟨by rw [HRR.out, HR.out]; rfl, HB4.out⟩
    · have iB : ((i : Int) == 0) = false := by rw [beq_eq_false_iff_ne]; omega
      have HR : Hid (shapedR 1 i a o ct.size = false) := Lib.hid (by unfold shapedR; simp [h0])
      go_wp2
      go_ret
      exact ⟨by rw [HRR.out, HR.out]; rfl, HB4.out⟩
  · have kB1 : (kd == 1) = false := by rw [beq_eq_false_iff_ne]; exact h1
    by_cases h0 : i = 0
    · subst h0
      have HR : Hid (shapedR kd 0 a o ct.size = false) := Lib.hid (by unfold shapedR; simp [h1])
      go_wp2
      go_ret
      exact ⟨by rw [HRR.out, HR.out]; rfl, HB4.out⟩
    · have iB : ((i : Int) == 0) = false := by rw [beq_eq_false_iff_ne]; omega
      by_cases h2 : kd = 2
      · subst h2
        by_cases ha : a = 0
        · subst ha
          have HR : Hid (shapedR 2 i 0 o ct.size = false) := Lib.hid (by unfold shapedR; simp [h0])
          go_wp2
          go_ret
          exact ⟨by rw [HRR.out, HR.out]; rfl, HB4.out⟩
        · have aP : 0 < a := by omega
          have aPI : (0 : Int) < (a : Int) := by omega
          have aB : ((a : Int) == 0) = false := by rw [beq_eq_false_iff_ne]; omega
          clear ha
          by_cases ho : o = 0
          · subst ho
            have HR : Hid (shapedR 2 i a 0 ct.size = true) := Lib.hid (by unfold shapedR; simp [h0, aP])
            go_wp2
            go_ret
            exact ⟨by rw [HRR.out, HR.out]; rfl, HB4.out⟩
          · have oB0 : ((o : Int) == 0) = false := by rw [beq_eq_false_iff_ne]; omega
            have HR : Hid (shapedR 2 i a o ct.size = false) := Lib.hid (by unfold shapedR; simp [h0, aP, ho])
            go_wp2
            go_ret
            exact ⟨by rw [HRR.out, HR.out]; rfl, HB4.out⟩
      · have kB2 : (kd == 2) = false := by rw [beq_eq_false_iff_ne]; exact h2
        by_cases h3 : kd = 3
        · subst h3
          by_cases ha : a = 0
          · subst ha
            have HR : Hid (shapedR 3 i 0 o ct.size = false) := Lib.hid (by unfold shapedR; simp [h0])
            go_wp2
            go_ret
            exact ⟨by rw [HRR.out, HR.out]; rfl, HB4.out⟩
          · have aP : 0 < a := by omega
            have aPI : (0 : Int) < (a : Int) := by omega
            have aB : ((a : Int) == 0) = false := by rw [beq_eq_false_iff_ne]; omega
            clear ha
            by_cases ho : o = 0
            · subst ho
              have HR : Hid (shapedR 3 i a 0 ct.size = true) := Lib.hid (by unfold shapedR; simp [h0, aP])
              go_wp2
              go_ret
              exact ⟨by rw [HRR.out, HR.out]; rfl, HB4.out⟩
            · have oB0 : ((o : Int) == 0) = false := by rw [beq_eq_false_iff_ne]; omega
              have HR : Hid (shapedR 3 i a o ct.size = false) := Lib.hid (by unfold shapedR; simp [h0, aP, ho])
              go_wp2
              go_ret
              exact ⟨by rw [HRR.out, HR.out]; rfl, HB4.out⟩
        · have kB3 : (kd == 3) = false := by rw [beq_eq_false_iff_ne]; exact h3
          by_cases h4 : kd = 4
          · subst h4
            by_cases ha : a = 0
            · subst ha
              have HR : Hid (shapedR 4 i 0 o ct.size = false) := Lib.hid (by unfold shapedR; simp [h0])
              go_wp2
              go_ret
              exact ⟨by rw [HRR.out, HR.out]; rfl, HB4.out⟩
            · have aP : 0 < a := by omega
              have aPI : (0 : Int) < (a : Int) := by omega
              have aB : ((a : Int) == 0) = false := by rw [beq_eq_false_iff_ne]; omega
              clear ha
              by_cases ho : o = 1
              · subst ho
                by_cases hc : ct.size = 0
                · have cZ : (ct.size : Int) = 0 := by omega
                  have cN : ¬ 0 < ct.size := by omega
                  have HR : Hid (shapedR 4 i a 1 ct.size = true) := Lib.hid (by unfold shapedR; simp [h0, aP, hc])
                  go_wp2
                  go_ret
                  exact ⟨by rw [HRR.out, HR.out]; rfl, HB4.out⟩
                · have cP : 0 < ct.size := by omega
                  have cPI : (0 : Int) < (ct.size : Int) := by omega
                  have cB : ((ct.size : Int) == 0) = false := by rw [beq_eq_false_iff_ne]; omega
                  have HR : Hid (shapedR 4 i a 1 ct.size = false) := Lib.hid (by unfold shapedR; simp [h0, aP, hc])
                  go_wp2
                  go_ret
                  exact ⟨by rw [HRR.out, HR.out]; rfl, HB4.out⟩
              · have oB1 : ((o : Int) == 1) = false := by rw [beq_eq_false_iff_ne]; omega
                by_cases ho2 : o = 2
                · subst ho2
                  by_cases hc : ct.size = 0
                  · have cZ : (ct.size : Int) = 0 := by omega
                    have cN : ¬ 0 < ct.size := by omega
                    have HR : Hid (shapedR 4 i a 2 ct.size = false) := Lib.hid (by unfold shapedR; simp [h0, aP, hc])
                    go_wp2
                    go_ret
                    exact ⟨by rw [HRR.out, HR.out]; rfl, HB4.out⟩
                  · have cP : 0 < ct.size := by omega
                    have cPI : (0 : Int) < (ct.size : Int) := by omega
                    have cB : ((ct.size : Int) == 0) = false := by rw [beq_eq_false_iff_ne]; omega
                    have HR : Hid (shapedR 4 i a 2 ct.size = true) := Lib.hid (by unfold shapedR; simp [h0, aP, cP])
                    go_wp2
                    go_ret
                    exact ⟨by rw [HRR.out, HR.out]; rfl, HB4.out⟩
                · have oB2 : ((o : Int) == 2) = false := by rw [beq_eq_false_iff_ne]; omega
                  have HR : Hid (shapedR 4 i a o ct.size = false) := Lib.hid (by unfold shapedR; simp [h0, aP, ho, ho2])
                  go_wp2
                  go_ret
                  exact ⟨by rw [HRR.out, HR.out]; rfl, HB4.out⟩
          · have kB4 : (kd == 4) = false := by rw [beq_eq_false_iff_ne]; exact h4
            by_cases h5 : kd = 5
            · subst h5
              by_cases ha : a = 0
              · subst ha
                have HR : Hid (shapedR 5 i 0 o ct.size = false) := Lib.hid (by unfold shapedR; simp [h0])
                go_wp2
                go_ret
                exact ⟨by rw [HRR.out, HR.out]; rfl, HB4.out⟩
              · have aP : 0 < a := by omega
                have aPI : (0 : Int) < (a : Int) := by omega
                have aB : ((a : Int) == 0) = false := by rw [beq_eq_false_iff_ne]; omega
                clear ha
                by_cases ho : o = 0
                · subst ho
                  have HR : Hid (shapedR 5 i a 0 ct.size = false) := Lib.hid (by unfold shapedR; simp [h0, aP])
                  go_wp2
                  go_ret
                  exact ⟨by rw [HRR.out, HR.out]; rfl, HB4.out⟩
                · have oP : 0 < o := by omega
                  have oPI : (0 : Int) < (o : Int) := by omega
                  have oB0 : ((o : Int) == 0) = false := by rw [beq_eq_false_iff_ne]; omega
                  have HR : Hid (shapedR 5 i a o ct.size = true) := Lib.hid (by unfold shapedR; simp [h0, aP, oP])
                  go_wp2
                  go_ret
                  exact ⟨by rw [HRR.out, HR.out]; rfl, HB4.out⟩
            · have kB5 : (kd == 5) = false := by rw [beq_eq_false_iff_ne]; exact h5
              by_cases h6 : kd = 6
              · subst h6
                by_cases ha : a = 0
                · subst ha
                  have HR : Hid (shapedR 6 i 0 o ct.size = false) := Lib.hid (by unfold shapedR; simp [h0])
                  go_wp2
                  go_ret
                  exact ⟨by rw [HRR.out, HR.out]; rfl, HB4.out⟩
                · have aP : 0 < a := by omega
                  have aPI : (0 : Int) < (a : Int) := by omega
                  have aB : ((a : Int) == 0) = false := by rw [beq_eq_false_iff_ne]; omega
                  clear ha
                  by_cases ho : o = 0
                  · subst ho
                    have HR : Hid (shapedR 6 i a 0 ct.size = false) := Lib.hid (by unfold shapedR; simp [h0, aP])
                    go_wp2
                    go_ret
                    exact ⟨by rw [HRR.out, HR.out]; rfl, HB4.out⟩
                  · have oP : 0 < o := by omega
                    have oPI : (0 : Int) < (o : Int) := by omega
                    have oB0 : ((o : Int) == 0) = false := by rw [beq_eq_false_iff_ne]; omega
                    have HR : Hid (shapedR 6 i a o ct.size = true) := Lib.hid (by unfold shapedR; simp [h0, aP, oP])
                    go_wp2
                    go_ret
                    exact ⟨by rw [HRR.out, HR.out]; rfl, HB4.out⟩
              · have kB6 : (kd == 6) = false := by rw [beq_eq_false_iff_ne]; exact h6
                by_cases h7 : kd = 7
                · subst h7
                  by_cases ha : a = 0
                  · subst ha
                    have HR : Hid (shapedR 7 i 0 o ct.size = false) := Lib.hid (by unfold shapedR; simp [h0])
                    go_wp2
                    go_ret
                    exact ⟨by rw [HRR.out, HR.out]; rfl, HB4.out⟩
                  · have aP : 0 < a := by omega
                    have aPI : (0 : Int) < (a : Int) := by omega
                    have aB : ((a : Int) == 0) = false := by rw [beq_eq_false_iff_ne]; omega
                    clear ha
                    by_cases ho : o = 0
                    · subst ho
                      have HR : Hid (shapedR 7 i a 0 ct.size = false) := Lib.hid (by unfold shapedR; simp [h0, aP])
                      go_wp2
                      go_ret
                      exact ⟨by rw [HRR.out, HR.out]; rfl, HB4.out⟩
                    · have oP : 0 < o := by omega
                      have oPI : (0 : Int) < (o : Int) := by omega
                      have oB0 : ((o : Int) == 0) = false := by rw [beq_eq_false_iff_ne]; omega
                      have HR : Hid (shapedR 7 i a o ct.size = true) := Lib.hid (by unfold shapedR; simp [h0, aP, oP])
                      go_wp2
                      go_ret
                      exact ⟨by rw [HRR.out, HR.out]; rfl, HB4.out⟩
                · have kB7 : (kd == 7) = false := by rw [beq_eq_false_iff_ne]; exact h7
                  have HR : Hid (shapedR kd i a o ct.size = false) := Lib.hid (by unfold shapedR; simp [h1, h2, h3, h4, h5, h6, h7])
                  go_wp2
                  go_ret
                  exact ⟨by rw [HRR.out, HR.out]; rfl, HB4.out⟩
end Pr
end Go.Proofs.YtddedbpbenkdoaaGreatDoor
