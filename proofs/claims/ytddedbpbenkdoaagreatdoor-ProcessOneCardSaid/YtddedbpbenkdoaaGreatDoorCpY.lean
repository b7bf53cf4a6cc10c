/- Walks of the document's check of a process, given what Parse tells. -/
import Derived.Test.YtddedbpbenkdoaaGreatDoorYProcessOne13
import Derived.Test.YtddedbpbenkdoaaGreatDoorSaY
import Derived.Test.YtddedbpbenkdoaaGreatDoorYProcessOne15
namespace Go.Proofs.YtddedbpbenkdoaaGreatDoor
open Go.RowKit

namespace Pr
set_option maxHeartbeats 400000 in
theorem refbare_any (c : Int) (w : World) : Calls Tryz.prog 24 #[.int .i64 c] w fun e w' => e = .returned (faultV c false 0) ∧ Below w.heap.size w w' := by
  have HL : Hid (Cel (w.alloc (.cells #[.int .i64 c, .bool false, .int .i64 0] 41)) w.heap.size [.int .i64 c, .bool false, .int .i64 0]) := Lib.hid (Cel.lit w #[.int .i64 c, .bool false, .int .i64 0] _)
  have HB := Lib.hid ((Below.refl w.heap.size w).alloc (Nat.le_refl _) (.cells #[.int .i64 c, .bool false, .int .i64 0] 41))
  go_enter Tryz.func24, Tryz.ntmps24
  go_wp2
  generalize w.alloc _ = wf at *
  obtain ⟨⟨k0, k1, k2⟩, _⟩ := tri_facts HL.out
  exact bodyPost_ret (v := faultV c false 0) (by simp [results, Tryz.results24, go_sem, k0, k1, k2, faultV]) rfl ⟨rfl, HB.out⟩
set_option maxHeartbeats 400000 in
theorem refnone_any (w : World) : Calls Tryz.prog 29 #[] w fun e w' => e = .returned (faultV 0 false 0) ∧ Below w.heap.size w w' := by
  have HL : Hid (Cel (w.alloc (.cells #[.int .i64 0, .bool false, .int .i64 0] 41)) w.heap.size [.int .i64 0, .bool false, .int .i64 0]) := Lib.hid (Cel.lit w #[.int .i64 0, .bool false, .int .i64 0] _)
  have HB := Lib.hid ((Below.refl w.heap.size w).alloc (Nat.le_refl _) (.cells #[.int .i64 0, .bool false, .int .i64 0] 41))
  go_enter Tryz.func29, Tryz.ntmps29
  go_wp2
  generalize w.alloc _ = wf at *
  obtain ⟨⟨k0, k1, k2⟩, _⟩ := tri_facts HL.out
  exact bodyPost_ret (v := faultV 0 false 0) (by simp [results, Tryz.results29, go_sem, k0, k1, k2, faultV]) rfl ⟨rfl, HB.out⟩
set_option maxHeartbeats 6400000 in
set_option maxRecDepth 10000 in
theorem refcheck_any (HPA : Hid RefParse) (A : Option Addr) (n c : Nat) (F : Option Addr) (m d : Nat) (p : P) (w : World) (hN : KRow Nd.κ w w.heap.size A n p.nodes) (hF : KRow Fl.κ w w.heap.size F m p.flows) (hn : n ≤ 100000) (hm : m ≤ 100000) (hl : Lite p) :
    Calls Tryz.prog 9 #[.agg #[.string p.name, .slice A n c, .slice F m d]] w fun e w' => e = .returned (faultP (check p).1 (check p).2) ∧ Below w.heap.size w w' := by
  obtain rfl : p.n = n := hN.len (by decide)
  obtain rfl : p.m = m := hF.len (by decide)
  obtain ⟨R, hR⟩ : ∃ R, R = check p := ⟨_, rfl⟩
  rw [← hR]
  unfold check at hR
  have HL := Lib.hid hl
  have HN := Lib.hid hN
  have HF := Lib.hid hF
  have hp1 := Cel.lit w #[.string p.name, .slice A p.n c, .slice F p.m d] 30
  have hb1 := (Below.refl w.heap.size w).alloc (Nat.le_refl _) (.cells #[.string p.name, .slice A p.n c, .slice F p.m d] 30)
  have hp2 := Cel.lit (w.alloc (.cells #[.string p.name, .slice A p.n c, .slice F p.m d] 30)) #[.int .i64 0, .bool false, .int .i64 0] 41
  have HB := Lib.hid (hb1.alloc hb1.size (.cells #[.int .i64 0, .bool false, .int .i64 0] 41))
  have HP := Lib.hid (hp1.alloc (.cells #[.int .i64 0, .bool false, .int .i64 0] 41))
  have HQ := Lib.hid hp2
  have s1 : (w.alloc (.cells #[.string p.name, .slice A p.n c, .slice F p.m d] 30)).heap.size = w.heap.size + 1 := by simp
  rw [s1] at HQ
  have T1 := Lib.hid (fun W => refnm_any p.name W hl.name)
  have W1 := Lib.hid (fun W => refwithin_any (p.n : Int) 2 30 W)
  clear hN hF hb1 hp1 hp2 s1 hl
  -- the end: a fault is stored, and told
  go_enter Tryz.func9, Tryz.ntmps9
  go_upto_region 1 with (fail)
  generalize (w.alloc _).alloc _ = wb at *
  obtain ⟨⟨z0, z1, z2⟩, _⟩ := tri_facts HP.out
  go_wp2_with fail
  refine (T1.out _).mono ?_
  rintro e wy ⟨rfl, rfl⟩
  by_cases hnm : nm p.name = true
  · rw [hnm, if_neg (by decide)] at hR
    rw [hnm]
    clear hnm
    go_wp2_with fail
    refine (W1.out _).mono ?_
    rintro e wy ⟨rfl, rfl⟩
    by_cases hw : within (p.n : Int) 2 30 = true
    · rw [hw] at hR
      rw [hw]
      by_cases h60 : p.m ≤ 60
      · rw [decide_eq_true h60, if_neg (by decide)] at hR
        have h60I : ¬ (60 : Int) < (p.m : Int) := by omega
        clear hw h60
        have HR0 := Lib.hid hR
        clear hR
        go_wp2_with fail
        go_loopw [3] (fun i wr => ∃ j : Nat, j ≤ p.m ∧ i = .int .i64 j ∧ (∀ t, t < j → flowBad p p.flows[t]! = 0) ∧ Below wb.heap.size wb wr) (fun i _ => p.m - (intOf i).toNat)
        case atStart => exact ⟨0, Nat.zero_le _, rfl, fun t h => absurd h (Nat.not_lt_zero t), Below.refl _ _⟩
        case round =>
          obtain ⟨j, hj, rfl, hall, hbr⟩ := hrel
          have HALL := Lib.hid hall
          have hbw := HB.out.trans (hbr.mono HB.out.size)
          have HB1 := Lib.hid hbw
          have HQ1 := Lib.hid (HQ.out.below hbr (Nat.le_refl _))
          have HP1 := Lib.hid (HP.out.below hbr (Nat.le_refl _))
          have HBR := Lib.hid hbr
          clear hall hbr hbw z0 z1 z2
          have hj0 : (0 : Int) ≤ (j : Int) := by omega
          obtain ⟨⟨z0, z1, z2⟩, _⟩ := tri_facts HP1.out
          by_cases hlt : j < p.m
          · have hI : (j : Int) < (p.m : Int) := by omega
            obtain ⟨b, off, rfl, _, _⟩ := HF.out.2 (by omega)
            obtain ⟨y0, y1, y2⟩ := fl_at (HF.out.below HB1.out (Nat.le_refl _)) hlt
            have hsz := HL.out.flows j hlt
            obtain ⟨fb, hfb⟩ : ∃ fb, flowBad p p.flows[j]! = fb := ⟨_, rfl⟩
            have hcf := refflow_any HPA A p.n c (some ⟨b, off, none⟩) p.m d p p.flows[j]! wr.drew ((HN.out.below HB1.out.drew (Nat.le_refl _)).mono HB1.out.drew.size) hn hsz
            rw [hfb] at hcf
            have HFB := Lib.hid hfb
            obtain ⟨f, hf⟩ : ∃ f, p.flows[j]! = f := ⟨_, rfl⟩
            rw [hf] at hcf y0 y1 y2
            have HCF := Lib.hid hcf
            have HLT := Lib.hid hlt
            clear hcf hfb hsz hf hlt
            have z0' : wr.drew.cell? ⟨w.heap.size, 0, none⟩ = _ := z0
            have z1' : wr.drew.cell? ⟨w.heap.size, 1, none⟩ = _ := z1
            have z2' : wr.drew.cell? ⟨w.heap.size, 2, none⟩ = _ := z2
            have y0' : wr.drew.cell? ⟨b, off + j * 3, none⟩ = _ := y0
            have y1' : wr.drew.cell? ⟨b, off + j * 3 + 1, none⟩ = _ := y1
            have y2' : wr.drew.cell? ⟨b, off + j * 3 + 2, none⟩ = _ := y2
            go_upto_region 8 with (fail)
            go_region_law (go_simp; go_at_call 26; refine HCF.out.mono ?_; rintro e w5 ⟨rfl, hb5⟩)
            all_goals
              have hb5' : Below wr.heap.size wr w5 := ((Below.refl _ _).drew).trans hb5
              have HB2 := Lib.hid (HB1.out.trans (hb5'.mono HB1.out.size))
              have HQ2 := Lib.hid (HQ1.out.below hb5' (Nat.le_refl _))
              have HBR2 := Lib.hid (HBR.out.trans (hb5'.mono HBR.out.size))
              clear hb5 hb5'
              by_cases h0 : fb = 0
              · subst h0
                go_wp2_with fail
                go_roundw
                case measure => simp [intOf]; omega
                case rel =>
                  have hjm := HLT.out
                  refine ⟨j + 1, by omega, by go_num, fun t ht => ?_, HBR2.out⟩
                  by_cases e : t = j
                  · subst e; exact HFB.out
                  · exact HALL.out t (by omega)
              · have h0B : (fb == 0) = false := by rw [beq_eq_false_iff_ne]; exact h0
                have h0N : (fb != 0) = true := by rw [bne, h0B]; rfl
                have f1 := find_first (fun j => !(flowBad p p.flows[j]! == 0)) p.m j HLT.out (by show (!(flowBad p p.flows[j]! == 0)) = true; rw [HFB.out, h0B]; rfl) (fun t ht => by show (!(flowBad p p.flows[t]! == 0)) = false; rw [HALL.out t ht]; rfl)
                have hR := HR0.out
                rw [f1] at hR
                simp only [] at hR
                rw [HFB.out] at hR
                have HR := Lib.hid hR
                have e100 : IntKind.i64.wrap (100 + (j : Int)) = 100 + (j : Int) := by rw [IntKind.wrap_i64]; omega
                have H0 := Lib.hid h0
                clear f1 hR h0
                go_wp2_with fail
                refine (placed_any fb (100 + (j : Int)) H0.out _).mono ?_
                rintro e w8 ⟨rfl, hb8⟩
                have hq8 := HQ2.out.below hb8 (Nat.le_refl _)
                have hz8 := ((hq8.set (i := 0) (by simp) (.int .i64 (fb))).set (i := 1) (by simp) (.bool true)).set (i := 2) (by simp) (.int .i64 (100 + (j : Int)))
                have hbz := (((HB2.out.trans (hb8.mono HB2.out.size)).setCell (p := ⟨w.heap.size + 1, 0, none⟩) (Nat.le_succ _) (.int .i64 (fb))).setCell (p := ⟨w.heap.size + 1, 1, none⟩) (Nat.le_succ _) (.bool true)).setCell (p := ⟨w.heap.size + 1, 2, none⟩) (Nat.le_succ _) (.int .i64 (100 + (j : Int)))
                obtain ⟨⟨v0, v1, v2⟩, u0, u1, u2⟩ := tri_facts hq8
                have HZ := Lib.hid hz8
                have HBZ := Lib.hid hbz
                clear hq8 hz8 hbz hb8
                unfold faultV
                go_wp2
                generalize ((w8.setCell _ _).setCell _ _).setCell _ _ = wf at *
                obtain ⟨⟨v0, v1, v2⟩, _⟩ := tri_facts HZ.out
                exact bodyPost_ret (v := faultV (fb) true (100 + (j : Int))) (by simp [results, Tryz.results9, go_sem, v0, v1, v2, faultV]) rfl ⟨by rw [HR.out]; unfold faultP; simp, HBZ.out⟩
          · have hjm : j = p.m := by omega
            have f1 := find_no (fun j => !(flowBad p p.flows[j]! == 0)) p.m (fun t ht => by show (!(flowBad p p.flows[t]! == 0)) = false; rw [HALL.out t (by omega)]; rfl)
            have hR := HR0.out
            rw [f1] at hR
            simp only [] at hR
            have HR3 := Lib.hid hR
            have hI : ¬ (j : Int) < (p.m : Int) := by omega
            clear f1 hR hjm hlt HALL HR0 HB HQ HP HBR hj
            go_wp2_with fail
            go_loopw [5] (fun i wr2 => ∃ j : Nat, j ≤ p.n ∧ i = .int .i64 j ∧ (∀ t, t < j → nodeBad p t = 0) ∧ Below wr.heap.size wr wr2) (fun i _ => p.n - (intOf i).toNat)
            case atStart => exact ⟨0, Nat.zero_le _, rfl, fun t h => absurd h (Nat.not_lt_zero t), Below.refl _ _⟩
            case round =>
              obtain ⟨i, hi, rfl, hall, hbr⟩ := hrel
              have HALL := Lib.hid hall
              have hbw := HB1.out.trans (hbr.mono HB1.out.size)
              have HB3 := Lib.hid hbw
              have HQ3 := Lib.hid (HQ1.out.below hbr (Nat.le_refl _))
              have HP3 := Lib.hid (HP1.out.below hbr (Nat.le_refl _))
              have HBR := Lib.hid hbr
              clear hall hbr hbw z0 z1 z2
              have hi0 : (0 : Int) ≤ (i : Int) := by omega
              obtain ⟨⟨z0, z1, z2⟩, _⟩ := tri_facts HP3.out
              by_cases hlt : i < p.n
              · have hI2 : (i : Int) < (p.n : Int) := by omega
                obtain ⟨nb, hnb⟩ : ∃ nb, nodeBad p i = nb := ⟨_, rfl⟩
                have hcf := refnode_any A p.n c F p.m d p i wr ((HN.out.below HB3.out (Nat.le_refl _)).mono HB3.out.size) ((HF.out.below HB3.out (Nat.le_refl _)).mono HB3.out.size) hm hlt (HL.out.nodes i hlt)
                rw [hnb] at hcf
                have HNB := Lib.hid hnb
                have HCF := Lib.hid hcf
                have HLT := Lib.hid hlt
                clear hcf hnb hlt
                go_wp2_with fail
                refine HCF.out.mono ?_
                rintro e w5 ⟨rfl, hb5⟩
                have HB4 := Lib.hid (HB3.out.trans (hb5.mono HB3.out.size))
                have HQ4 := Lib.hid (HQ3.out.below hb5 (Nat.le_refl _))
                have HBR4 := Lib.hid (HBR.out.trans (hb5.mono HBR.out.size))
                clear hb5
                by_cases h0 : nb = 0
                · subst h0
                  go_wp2_with fail
                  go_roundw
                  case measure => simp [intOf]; omega
                  case rel =>
                    have hjm := HLT.out
                    refine ⟨i + 1, by omega, by go_num, fun t ht => ?_, HBR4.out⟩
                    by_cases e : t = i
                    · subst e; exact HNB.out
                    · exact HALL.out t (by omega)
                · have h0B : (nb == 0) = false := by rw [beq_eq_false_iff_ne]; exact h0
                  have h0N : (nb != 0) = true := by rw [bne, h0B]; rfl
                  have f1 := find_first (fun i => !(nodeBad p i == 0)) p.n i HLT.out (by show (!(nodeBad p i == 0)) = true; rw [HNB.out, h0B]; rfl) (fun t ht => by show (!(nodeBad p t == 0)) = false; rw [HALL.out t ht]; rfl)
                  have hR := HR3.out
                  rw [f1] at hR
                  simp only [] at hR
                  rw [HNB.out] at hR
                  have HR := Lib.hid hR
                  have H0 := Lib.hid h0
                  clear f1 hR h0
                  go_wp2_with fail
                  refine (placed_any nb (i : Int) H0.out _).mono ?_
                  rintro e w8 ⟨rfl, hb8⟩
                  have hq8 := HQ4.out.below hb8 (Nat.le_refl _)
                  have hz8 := ((hq8.set (i := 0) (by simp) (.int .i64 (nb))).set (i := 1) (by simp) (.bool true)).set (i := 2) (by simp) (.int .i64 ((i : Int)))
                  have hbz := (((HB4.out.trans (hb8.mono HB4.out.size)).setCell (p := ⟨w.heap.size + 1, 0, none⟩) (Nat.le_succ _) (.int .i64 (nb))).setCell (p := ⟨w.heap.size + 1, 1, none⟩) (Nat.le_succ _) (.bool true)).setCell (p := ⟨w.heap.size + 1, 2, none⟩) (Nat.le_succ _) (.int .i64 ((i : Int)))
                  obtain ⟨⟨v0, v1, v2⟩, u0, u1, u2⟩ := tri_facts hq8
                  have HZ := Lib.hid hz8
                  have HBZ := Lib.hid hbz
                  clear hq8 hz8 hbz hb8
                  unfold faultV
                  go_wp2
                  generalize ((w8.setCell _ _).setCell _ _).setCell _ _ = wf at *
                  obtain ⟨⟨v0, v1, v2⟩, _⟩ := tri_facts HZ.out
                  exact bodyPost_ret (v := faultV (nb) true ((i : Int))) (by simp [results, Tryz.results9, go_sem, v0, v1, v2, faultV]) rfl ⟨by rw [HR.out]; unfold faultP; simp, HBZ.out⟩
              · have hjm : i = p.n := by omega
                have f1 := find_no (fun i => !(nodeBad p i == 0)) p.n (fun t ht => by show (!(nodeBad p t == 0)) = false; rw [HALL.out t (by omega)]; rfl)
                have hR := HR3.out
                rw [f1] at hR
                simp only [] at hR
                have HR := Lib.hid hR
                have hI2 : ¬ (i : Int) < (p.n : Int) := by omega
                clear f1 hR hjm hlt
                go_wp2_with fail
                refine (refnone_any _).mono ?_
                rintro e w8 ⟨rfl, hb8⟩
                have hq8 := HQ3.out.below hb8 (Nat.le_refl _)
                have hz8 := ((hq8.set (i := 0) (by simp) (.int .i64 (0))).set (i := 1) (by simp) (.bool false)).set (i := 2) (by simp) (.int .i64 (0))
                have hbz := (((HB3.out.trans (hb8.mono HB3.out.size)).setCell (p := ⟨w.heap.size + 1, 0, none⟩) (Nat.le_succ _) (.int .i64 (0))).setCell (p := ⟨w.heap.size + 1, 1, none⟩) (Nat.le_succ _) (.bool false)).setCell (p := ⟨w.heap.size + 1, 2, none⟩) (Nat.le_succ _) (.int .i64 (0))
                obtain ⟨⟨v0, v1, v2⟩, u0, u1, u2⟩ := tri_facts hq8
                have HZ := Lib.hid hz8
                have HBZ := Lib.hid hbz
                clear hq8 hz8 hbz hb8
                unfold faultV
                go_wp2
                generalize ((w8.setCell _ _).setCell _ _).setCell _ _ = wf at *
                obtain ⟨⟨v0, v1, v2⟩, _⟩ := tri_facts HZ.out
                exact bodyPost_ret (v := faultV (0) false (0)) (by simp [results, Tryz.results9, go_sem, v0, v1, v2, faultV]) rfl ⟨by rw [HR.out]; rfl, HBZ.out⟩
      · rw [decide_eq_false h60, if_pos (by decide)] at hR
        have h60I : (60 : Int) < (p.m : Int) := by omega
        have HR := Lib.hid hR
        clear hR hw h60
        go_wp2_with fail
        refine (refbare_any 104 _).mono ?_
        rintro e w8 ⟨rfl, hb8⟩
        have hq8 := HQ.out.below hb8 (Nat.le_refl _)
        have hz8 := ((hq8.set (i := 0) (by simp) (.int .i64 (104))).set (i := 1) (by simp) (.bool false)).set (i := 2) (by simp) (.int .i64 (0))
        have hbz := (((HB.out.trans (hb8.mono HB.out.size)).setCell (p := ⟨w.heap.size + 1, 0, none⟩) (Nat.le_succ _) (.int .i64 (104))).setCell (p := ⟨w.heap.size + 1, 1, none⟩) (Nat.le_succ _) (.bool false)).setCell (p := ⟨w.heap.size + 1, 2, none⟩) (Nat.le_succ _) (.int .i64 (0))
        obtain ⟨⟨v0, v1, v2⟩, u0, u1, u2⟩ := tri_facts hq8
        have HZ := Lib.hid hz8
        have HBZ := Lib.hid hbz
        clear hq8 hz8 hbz hb8
        unfold faultV
        go_wp2
        generalize ((w8.setCell _ _).setCell _ _).setCell _ _ = wf at *
        obtain ⟨⟨v0, v1, v2⟩, _⟩ := tri_facts HZ.out
        exact bodyPost_ret (v := faultV (104) false (0)) (by simp [results, Tryz.results9, go_sem, v0, v1, v2, faultV]) rfl ⟨by rw [HR.out]; rfl, HBZ.out⟩
    · have hwF : within (p.n : Int) 2 30 = false := by simpa using hw
      rw [hwF, Bool.false_and, if_pos rfl] at hR
      rw [hwF]
      have HR := Lib.hid hR
      clear hR hw hwF
      go_wp2_with fail
      refine (refbare_any 104 _).mono ?_
      rintro e w8 ⟨rfl, hb8⟩
      have hq8 := HQ.out.below hb8 (Nat.le_refl _)
      have hz8 := ((hq8.set (i := 0) (by simp) (.int .i64 (104))).set (i := 1) (by simp) (.bool false)).set (i := 2) (by simp) (.int .i64 (0))
      have hbz := (((HB.out.trans (hb8.mono HB.out.size)).setCell (p := ⟨w.heap.size + 1, 0, none⟩) (Nat.le_succ _) (.int .i64 (104))).setCell (p := ⟨w.heap.size + 1, 1, none⟩) (Nat.le_succ _) (.bool false)).setCell (p := ⟨w.heap.size + 1, 2, none⟩) (Nat.le_succ _) (.int .i64 (0))
      obtain ⟨⟨v0, v1, v2⟩, u0, u1, u2⟩ := tri_facts hq8
      have HZ := Lib.hid hz8
      have HBZ := Lib.hid hbz
      clear hq8 hz8 hbz hb8
      unfold faultV
      go_wp2
      generalize ((w8.setCell _ _).setCell _ _).setCell _ _ = wf at *
      obtain ⟨⟨v0, v1, v2⟩, _⟩ := tri_facts HZ.out
      exact bodyPost_ret (v := faultV (104) false (0)) (by simp [results, Tryz.results9, go_sem, v0, v1, v2, faultV]) rfl ⟨by rw [HR.out]; rfl, HBZ.out⟩
  · have hnF : nm p.name = false := by simpa using hnm
    rw [hnF, if_pos rfl] at hR
    rw [hnF]
    have HR := Lib.hid hR
    clear hR hnm hnF
    go_wp2_with fail
    refine (refbare_any 106 _).mono ?_
    rintro e w8 ⟨rfl, hb8⟩
    have hq8 := HQ.out.below hb8 (Nat.le_refl _)
    have hz8 := ((hq8.set (i := 0) (by simp) (.int .i64 (106))).set (i := 1) (by simp) (.bool false)).set (i := 2) (by simp) (.int .i64 (0))
    have hbz := (((HB.out.trans (hb8.mono HB.out.size)).setCell (p := ⟨w.heap.size + 1, 0, none⟩) (Nat.le_succ _) (.int .i64 (106))).setCell (p := ⟨w.heap.size + 1, 1, none⟩) (Nat.le_succ _) (.bool false)).setCell (p := ⟨w.heap.size + 1, 2, none⟩) (Nat.le_succ _) (.int .i64 (0))
    obtain ⟨⟨v0, v1, v2⟩, u0, u1, u2⟩ := tri_facts hq8
    have HZ := Lib.hid hz8
    have HBZ := Lib.hid hbz
    clear hq8 hz8 hbz hb8
    unfold faultV
    go_wp2
    generalize ((w8.setCell _ _).setCell _ _).setCell _ _ = wf at *
    obtain ⟨⟨v0, v1, v2⟩, _⟩ := tri_facts HZ.out
    exact bodyPost_ret (v := faultV (106) false (0)) (by simp [results, Tryz.results9, go_sem, v0, v1, v2, faultV]) rfl ⟨by rw [HR.out]; rfl, HBZ.out⟩
end Pr
end Go.Proofs.YtddedbpbenkdoaaGreatDoor
