/- The document's parser: the next word, any. -/
import Derived.Test.YtddedbpbenkdoaaGreatDoorDrY
namespace Go.Proofs.YtddedbpbenkdoaaGreatDoor
open Go.RowKit

section
variable {w w1 : World} {q d m j kd : Nat} {s : ByteArray} {st' : Co.St}
set_option maxRecDepth 10000 in
set_option maxHeartbeats 3200000 in
theorem dnext_c {st : Co.St} (h : Cel w q (Dq.list s ⟨st.frm, st.till, ⟨(Co.text s.data.toList st).toArray⟩, 0, false, 0, d⟩)) (hst : st.err = none) (hti : st.till ≤ s.size) (hsz : s.size ≤ 80)
    (hcls : ∀ m, m = Co.ends Co.blank s.data.toList st.till → m < s.size → Co.ofWord s.data.toList[m]! = false ∧ s.data.toList[m]! ≠ 34 ∧ ¬ ((s.data.toList[m]!).toNat = 61 ∨ (s.data.toList[m]!).toNat = 33 ∨ (s.data.toList[m]!).toNat = 60 ∨ (s.data.toList[m]!).toNat = 62)) :
    Calls Tryz.prog 59 #[.pointer (some ⟨q, 0, none⟩)] w fun e w' => e = .returned (.tuple #[]) ∧ DN s d q w (Co.next s.data.toList st) w' := by
  obtain ⟨⟨k0, _, k2, _, _, _, _, _⟩, f1, f2, f3, _, _, _, _⟩ := Dq.facts h
  have H := Lib.hid h
  have HL : Hid (s.data.toList.length = s.size) := by simp [Hid]
  have HN := Lib.hid (@Co.dnext_at s.data.toList · st hst)
  have HCL := Lib.hid hcls
  clear h hst hcls
  dsimp only at k2
  go_enter Tryz.func59, Tryz.ntmps59
  go_wp2_with fail
  go_loop [2] (fun i => ∃ m : Nat, st.till ≤ m ∧ m ≤ s.size ∧ i = .int .i64 m ∧ Hid (∀ j, st.till ≤ j → j < m → Co.blank s.data.toList[j]! = true)) (fun i => s.size - (intOf i).toNat)
  case atStart => exact ⟨st.till, Nat.le_refl _, by omega, rfl, fun j h1 h2 => by omega⟩
  case round =>
    obtain ⟨m, hm1, hm, rfl, hall⟩ := hrel
    have FIN : ∀ hn : m = s.size ∨ Co.blank s.data.toList[m]! = false, Hid (Co.next s.data.toList st = ⟨(Co.wordAt s.data.toList m).1, (Co.wordAt s.data.toList m).2.1, (Co.wordAt s.data.toList m).2.2, none⟩) := fun hn =>
      HN.out m hm1 (by rw [HL.out]; exact hm) hall.out (by rw [HL.out]; exact hn)
    have CELL : Hid (∃ w1, w1 = ((w.setCell ⟨q, 1, none⟩ (.int .i64 (m : Int))).setCell ⟨q, 3, none⟩ (.string ⟨#[]⟩)).setCell ⟨q, 2, none⟩ (.int .i64 (m : Int)) ∧ Cel w1 q (Dq.list s ⟨m, m, ⟨#[]⟩, 0, false, 0, d⟩) ∧ w.grownBy w1 (some q)) :=
      ⟨_, rfl, ((H.out.set (i := 1) (by simp [Dq.list]) (.int .i64 (m : Int))).set (i := 3) (by simp [Dq.list]) (.string ⟨#[]⟩)).set (i := 2) (by simp [Dq.list]) (.int .i64 (m : Int)), set_grown (set_grown (set_grown (World.grownBy.refl _ _) 1 _) 3 _) 2 _⟩
    by_cases hmlt : m < s.size
    · have hat : s.data.toList[m]! = s[m] := by rw [getElem!_pos s.data.toList m (by simpa using hmlt)]; simp [ByteArray.getElem_eq_getElem_data]
      have hbl : Co.blank s[m] = true ↔ (s[m].toNat : Int) = 32 := by unfold Co.blank; simp; omega
      have HB := Lib.hid hbl
      have HA := Lib.hid hat
      clear hbl hat
      by_cases h32 : (s[m].toNat : Int) = 32
      · have HE : Hid (Co.blank s.data.toList[m]! = true) := by rw [HA.out, HB.out]; exact h32
        clear FIN
        go_wp2_with fail
        go_round
        case measure => simp [intOf]; omega
        case rel =>
          refine ⟨m + 1, by omega, by omega, by go_num, fun j hj hjm => ?_⟩
          by_cases e : j = m
          · subst e; exact HE.out
          · exact hall.out j hj (by omega)
      · have HM := Lib.hid (HCL.out m (Co.ends_eq hm1 (by rw [HL.out]; exact hm) hall.out (.inr (by rw [HA.out, Bool.eq_false_iff, ne_eq, HB.out]; exact h32))).symm hmlt)
        have HE := FIN (.inr (by rw [HA.out, Bool.eq_false_iff, ne_eq, HB.out]; exact h32))
        clear FIN
        have hc := s[m].toNat_lt
        go_upto_region 6 with (fail)
        obtain ⟨w1, hw1, h1, hg1⟩ := CELL.out
        rw [← hw1]
        clear hw1 k0 k2 f1 f2 f3 CELL HN H
        obtain ⟨⟨k0, _, _, _, _, _, _, _⟩, _, f2, f3, _, _, _, _⟩ := Dq.facts h1
        have H1 := Lib.hid h1
        have HG := Lib.hid hg1
        clear h1 hg1
        have WL := Lib.hid (dletter_any s[m])
        have h00 : (0 : Int) ≤ (m : Int) := by omega
        have HQ : Hid (Co.ofWord s.data.toList[m]! = false) := HM.out.1
        rw [show Co.ofWord s[m] = false from by rw [← HA.out]; exact HM.out.1] at WL
        have h34 : ¬ (s[m].toNat : Int) = 34 := fun h => HM.out.2.1 (by rw [HA.out]; exact Co.u8_of (by show _ = 34; omega))
        go_wp2_with fail
        refine (WL.out _).mono ?_
        rintro e w2 ⟨rfl, rfl⟩
        have AMI := Lib.hid (damiss_any H1.out rfl 111 (m : Int) (by decide))
        have HN34 : Hid (s.data.toList[m]! ≠ 34) := fun e => by rw [HA.out] at e; rw [e] at h34; exact h34 rfl
        have b34 : ((s[m].toNat : Int) == 34) = false := by rw [beq_eq_false_iff_ne]; exact h34
        have hfour : ¬ ((s[m].toNat : Int) = 61 ∨ (s[m].toNat : Int) = 33 ∨ (s[m].toNat : Int) = 60 ∨ (s[m].toNat : Int) = 62) := by
          have := HM.out.2.2
          rw [HA.out] at this
          omega
        by_cases hseven : (s[m].toNat : Int) = 40 ∨ (s[m].toNat : Int) = 41 ∨ (s[m].toNat : Int) = 43 ∨ (s[m].toNat : Int) = 45 ∨ (s[m].toNat : Int) = 42 ∨ (s[m].toNat : Int) = 47 ∨ (s[m].toNat : Int) = 37
        · have hm1s : (m : Int) + 1 ≤ (s.size : Int) := by omega
          have hmm1 : (m : Int) ≤ (m : Int) + 1 := by omega
          have htn1 : ((m : Int) + 1).toNat = m + 1 := by omega
          have HX : Hid (Co.next s.data.toList st = ⟨6, m, m + 1, none⟩) := by
            show _ = _
            rw [HE.out, Co.d_one (by rw [HL.out]; exact hmlt) (.inr (by rw [HA.out]; omega))]
          clear hfour
          rcases hseven with hv | hv | hv | hv | hv | hv | hv
          all_goals
            go_wp2_with fail
            try simp only [Exit.inBlock, Exit.then]
            first | (refine bodyPost_ret (results_none rfl _ _ _) rfl ?_) | (refine bodyPost_end (results_none rfl _ _ _) rfl ?_)
            exact ⟨rfl, DN.fin (j := m + 1) HG.out H1.out HX.out (by omega) (by omega)⟩
        · have HX : Hid (Co.next s.data.toList st = ⟨0, m, m, none⟩) := by
            show _ = _
            rw [HE.out, Co.d_none (by rw [HL.out]; exact hmlt) HQ.out HN34.out (.inr (by rw [HA.out]; omega))]
          have b1 : ((s[m].toNat : Int) == 61) = false := by rw [beq_eq_false_iff_ne]; omega
          have b2 : ((s[m].toNat : Int) == 33) = false := by rw [beq_eq_false_iff_ne]; omega
          have b3 : ((s[m].toNat : Int) == 60) = false := by rw [beq_eq_false_iff_ne]; omega
          have b4 : ((s[m].toNat : Int) == 62) = false := by rw [beq_eq_false_iff_ne]; omega
          have b5 : ((s[m].toNat : Int) == 40) = false := by rw [beq_eq_false_iff_ne]; omega
          have b6 : ((s[m].toNat : Int) == 41) = false := by rw [beq_eq_false_iff_ne]; omega
          have b7 : ((s[m].toNat : Int) == 43) = false := by rw [beq_eq_false_iff_ne]; omega
          have b8 : ((s[m].toNat : Int) == 45) = false := by rw [beq_eq_false_iff_ne]; omega
          have b9 : ((s[m].toNat : Int) == 42) = false := by rw [beq_eq_false_iff_ne]; omega
          have b10 : ((s[m].toNat : Int) == 47) = false := by rw [beq_eq_false_iff_ne]; omega
          have b11 : ((s[m].toNat : Int) == 37) = false := by rw [beq_eq_false_iff_ne]; omega
          clear hfour hseven
          go_wp2_with (go_at_call 62; refine (AMI.out).mono ?_; rintro e w3 ⟨rfl, h3, hg3⟩)
          try simp only [Exit.inBlock, Exit.then]
          first | (refine bodyPost_ret (results_none rfl _ _ _) rfl ?_) | (refine bodyPost_end (results_none rfl _ _ _) rfl ?_)
          exact ⟨rfl, DN.amiss (grown_trans HG.out hg3) h3 HX.out⟩
    · obtain rfl : m = s.size := by omega
      have HE := FIN (.inl rfl)
      clear FIN
      go_wp2
      try simp only [Exit.inBlock, Exit.then]
      first | (refine bodyPost_ret (results_none rfl _ _ _) rfl ?_) | (refine bodyPost_end (results_none rfl _ _ _) rfl ?_)
      obtain ⟨w1, hw1, h1, hg1⟩ := CELL.out
      rw [← hw1]
      refine ⟨rfl, DN.last hg1 h1 ?_⟩
      rw [HE.out, ← HL.out, Co.d_last]
/-- The next word, if nothing is amiss. -/
theorem dnext_any {st : Co.St} (h : Cel w q (Dq.list s ⟨st.frm, st.till, ⟨(Co.text s.data.toList st).toArray⟩, 0, false, 0, d⟩)) (hst : st.err = none) (hti : st.till ≤ s.size) (hsz : s.size ≤ 80) :
    Calls Tryz.prog 59 #[.pointer (some ⟨q, 0, none⟩)] w fun e w' => e = .returned (.tuple #[]) ∧ DN s d q w (Co.next s.data.toList st) w' := by
  by_cases h1 : Co.ofWord s.data.toList[Co.ends Co.blank s.data.toList st.till]! = true ∨ s.data.toList[Co.ends Co.blank s.data.toList st.till]! = 34
  · exact dnext_a h hst hti hsz fun m hm _ => by rw [hm]; exact h1
  · have h2 : Co.ofWord s.data.toList[Co.ends Co.blank s.data.toList st.till]! = false := by
      rw [Bool.eq_false_iff]; exact fun e => h1 (.inl e)
    have h3 : s.data.toList[Co.ends Co.blank s.data.toList st.till]! ≠ 34 := fun e => h1 (.inr e)
    by_cases h4 : ((s.data.toList[Co.ends Co.blank s.data.toList st.till]!).toNat = 61 ∨ (s.data.toList[Co.ends Co.blank s.data.toList st.till]!).toNat = 33 ∨ (s.data.toList[Co.ends Co.blank s.data.toList st.till]!).toNat = 60 ∨ (s.data.toList[Co.ends Co.blank s.data.toList st.till]!).toNat = 62)
    · by_cases h5 : Co.ends Co.blank s.data.toList st.till + 1 < s.size
      · by_cases h6 : s.data.toList[Co.ends Co.blank s.data.toList st.till + 1]! = 61
        · exact dnext_b1 h hst hti hsz fun m hm _ => by rw [hm]; exact ⟨h2, h3, h4, h5, h6⟩
        · exact dnext_b2 h hst hti hsz fun m hm _ => by rw [hm]; exact ⟨h2, h3, h4, h5, h6⟩
      · exact dnext_b3 h hst hti hsz fun m hm _ => by rw [hm]; exact ⟨h2, h3, h4, h5⟩
    · exact dnext_c h hst hti hsz fun m hm _ => by rw [hm]; exact ⟨h2, h3, h4⟩
end
end Go.Proofs.YtddedbpbenkdoaaGreatDoor
