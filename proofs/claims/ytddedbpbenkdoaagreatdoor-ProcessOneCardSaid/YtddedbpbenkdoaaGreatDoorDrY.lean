/- The document's parser: the next word, an operator or bracket. -/
import Derived.Test.YtddedbpbenkdoaaGreatDoorDnY
namespace Go.Proofs.YtddedbpbenkdoaaGreatDoor
open Go.RowKit

section
variable {w w1 : World} {q d m j kd : Nat} {s : ByteArray} {st' : Co.St}
set_option maxRecDepth 10000 in
set_option maxHeartbeats 3200000 in
theorem dnext_b1 {st : Co.St} (h : Cel w q (Dq.list s ⟨st.frm, st.till, ⟨(Co.text s.data.toList st).toArray⟩, 0, false, 0, d⟩)) (hst : st.err = none) (hti : st.till ≤ s.size) (hsz : s.size ≤ 80)
    (hcls : ∀ m, m = Co.ends Co.blank s.data.toList st.till → m < s.size → Co.ofWord s.data.toList[m]! = false ∧ s.data.toList[m]! ≠ 34 ∧ ((s.data.toList[m]!).toNat = 61 ∨ (s.data.toList[m]!).toNat = 33 ∨ (s.data.toList[m]!).toNat = 60 ∨ (s.data.toList[m]!).toNat = 62) ∧ (m + 1 < s.size ∧ s.data.toList[m + 1]! = 61)) :
    Calls Tryz.prog 59 #[.pointer (some ⟨q, 0, none⟩)] w fun e w' => e = .returned (.tuple #[]) ∧ DN s d q w (Co.next s.data.toList st) w' := by
  obtain ⟨⟨k0, _, k2, _, _, _, _, _⟩, f1, f2, f3, _, _, _, _⟩ := Dq.facts h
  have H := Lib.hid h
  have HL : Hid (s.data.toList.length = s.size) := by simp [Hid]
  have HN := Lib.hid (@Co.dnext_at s.data.toList · st hst)
  have HCL := Lib.hid hcls
  clear h hst hcls
  dsimp only at k2
  go_enter Tryz.func59, Tryz.ntmps59
  go_wp2_with fail
  go_loop [2] (fun i => ∃ m : Nat, st.till ≤ m ∧ m ≤ s.size ∧ i = .int .i64 m ∧ Hid (∀ j, st.till ≤ j → j < m → Co.blank s.data.toList[j]! = true)) (fun i => s.size - (intOf i).toNat)
  case atStart => exact ⟨st.till, Nat.le_refl _, by omega, rfl, fun j h1 h2 => by omega⟩
  case round =>
    obtain ⟨m, hm1, hm, rfl, hall⟩ := hrel
    have FIN : ∀ hn : m = s.size ∨ Co.blank s.data.toList[m]! = false, Hid (Co.next s.data.toList st = ⟨(Co.wordAt s.data.toList m).1, (Co.wordAt s.data.toList m).2.1, (Co.wordAt s.data.toList m).2.2, none⟩) := fun hn =>
      HN.out m hm1 (by rw [HL.out]; exact hm) hall.out (by rw [HL.out]; exact hn)
    have CELL : Hid (∃ w1, w1 = ((w.setCell ⟨q, 1, none⟩ (.int .i64 (m : Int))).setCell ⟨q, 3, none⟩ (.string ⟨#[]⟩)).setCell ⟨q, 2, none⟩ (.int .i64 (m : Int)) ∧ Cel w1 q (Dq.list s ⟨m, m, ⟨#[]⟩, 0, false, 0, d⟩) ∧ w.grownBy w1 (some q)) :=
      ⟨_, rfl, ((H.out.set (i := 1) (by simp [Dq.list]) (.int .i64 (m : Int))).set (i := 3) (by simp [Dq.list]) (.string ⟨#[]⟩)).set (i := 2) (by simp [Dq.list]) (.int .i64 (m : Int)), set_grown (set_grown (set_grown (World.grownBy.refl _ _) 1 _) 3 _) 2 _⟩
    by_cases hmlt : m < s.size
    · have hat : s.data.toList[m]! = s[m] := by rw [getElem!_pos s.data.toList m (by simpa using hmlt)]; simp [ByteArray.getElem_eq_getElem_data]
      have hbl : Co.blank s[m] = true ↔ (s[m].toNat : Int) = 32 := by unfold Co.blank; simp; omega
      have HB := Lib.hid hbl
      have HA := Lib.hid hat
      clear hbl hat
      by_cases h32 : (s[m].toNat : Int) = 32
      · have HE : Hid (Co.blank s.data.toList[m]! = true) := by rw [HA.out, HB.out]; exact h32
        clear FIN
        go_wp2_with fail
        go_round
        case measure => simp [intOf]; omega
        case rel =>
          refine ⟨m + 1, by omega, by omega, by go_num, fun j hj hjm => ?_⟩
          by_cases e : j = m
          · subst e; exact HE.out
          · exact hall.out j hj (by omega)
      · have HM := Lib.hid (HCL.out m (Co.ends_eq hm1 (by rw [HL.out]; exact hm) hall.out (.inr (by rw [HA.out, Bool.eq_false_iff, ne_eq, HB.out]; exact h32))).symm hmlt)
        have HE := FIN (.inr (by rw [HA.out, Bool.eq_false_iff, ne_eq, HB.out]; exact h32))
        clear FIN
        have hc := s[m].toNat_lt
        go_upto_region 6 with (fail)
        obtain ⟨w1, hw1, h1, hg1⟩ := CELL.out
        rw [← hw1]
        clear hw1 k0 k2 f1 f2 f3 CELL HN H
        obtain ⟨⟨k0, _, _, _, _, _, _, _⟩, _, f2, f3, _, _, _, _⟩ := Dq.facts h1
        have H1 := Lib.hid h1
        have HG := Lib.hid hg1
        clear h1 hg1
        have WL := Lib.hid (dletter_any s[m])
        have h00 : (0 : Int) ≤ (m : Int) := by omega
        have HQ : Hid (Co.ofWord s.data.toList[m]! = false) := HM.out.1
        rw [show Co.ofWord s[m] = false from by rw [← HA.out]; exact HM.out.1] at WL
        have h34 : ¬ (s[m].toNat : Int) = 34 := fun h => HM.out.2.1 (by rw [HA.out]; exact Co.u8_of (by show _ = 34; omega))
        go_wp2_with fail
        refine (WL.out _).mono ?_
        rintro e w2 ⟨rfl, rfl⟩
        have AMI := Lib.hid (damiss_any H1.out rfl 111 (m : Int) (by decide))
        have HN34 : Hid (s.data.toList[m]! ≠ 34) := fun e => by rw [HA.out] at e; rw [e] at h34; exact h34 rfl
        have b34 : ((s[m].toNat : Int) == 34) = false := by rw [beq_eq_false_iff_ne]; exact h34
        have hfour : (s[m].toNat : Int) = 61 ∨ (s[m].toNat : Int) = 33 ∨ (s[m].toNat : Int) = 60 ∨ (s[m].toNat : Int) = 62 := by
          have := HM.out.2.2.1
          rw [HA.out] at this
          omega
        have hm1s : (m : Int) + 1 ≤ (s.size : Int) := by omega
        have hmm1 : (m : Int) ≤ (m : Int) + 1 := by omega
        have htn1 : ((m : Int) + 1).toNat = m + 1 := by omega
        obtain ⟨hlt1, hx61⟩ := HM.out.2.2.2
        have h61 : (s[m + 1].toNat : Int) = 61 := by
          have hat1 : s.data.toList[m + 1]! = s[m + 1] := by rw [getElem!_pos s.data.toList (m + 1) (by simpa using hlt1)]; simp [ByteArray.getElem_eq_getElem_data]
          rw [← hat1, hx61]; rfl
        clear hx61
        have hat1 : s.data.toList[m + 1]! = s[m + 1] := by rw [getElem!_pos s.data.toList (m + 1) (by simpa using hlt1)]; simp [ByteArray.getElem_eq_getElem_data]
        have HX : Hid (Co.next s.data.toList st = ⟨6, m, m + 2, none⟩) := by
          show _ = _
          rw [HE.out, Co.d_two (by rw [HA.out]; omega) (by rw [HL.out]; exact hlt1) (by rw [hat1]; exact Co.u8_of (by show _ = 61; omega))]
        have hm2s : (m : Int) + 1 + 1 ≤ (s.size : Int) := by omega
        have hmm2 : (m : Int) ≤ (m : Int) + 1 + 1 := by omega
        have htn2 : ((m : Int) + 1 + 1).toNat = m + 2 := by omega
        clear hat1
        rcases hfour with hv | hv | hv | hv
        all_goals
          go_wp2_with fail
          try simp only [Exit.inBlock, Exit.then]
          first | (refine bodyPost_ret (results_none rfl _ _ _) rfl ?_) | (refine bodyPost_end (results_none rfl _ _ _) rfl ?_)
          exact ⟨rfl, DN.fin (j := m + 2) HG.out H1.out HX.out (by omega) (by omega)⟩
    · obtain rfl : m = s.size := by omega
      have HE := FIN (.inl rfl)
      clear FIN
      go_wp2
      try simp only [Exit.inBlock, Exit.then]
      first | (refine bodyPost_ret (results_none rfl _ _ _) rfl ?_) | (refine bodyPost_end (results_none rfl _ _ _) rfl ?_)
      obtain ⟨w1, hw1, h1, hg1⟩ := CELL.out
      rw [← hw1]
      refine ⟨rfl, DN.last hg1 h1 ?_⟩
      rw [HE.out, ← HL.out, Co.d_last]
set_option maxRecDepth 10000 in
set_option maxHeartbeats 3200000 in
theorem dnext_b2 {st : Co.St} (h : Cel w q (Dq.list s ⟨st.frm, st.till, ⟨(Co.text s.data.toList st).toArray⟩, 0, false, 0, d⟩)) (hst : st.err = none) (hti : st.till ≤ s.size) (hsz : s.size ≤ 80)
    (hcls : ∀ m, m = Co.ends Co.blank s.data.toList st.till → m < s.size → Co.ofWord s.data.toList[m]! = false ∧ s.data.toList[m]! ≠ 34 ∧ ((s.data.toList[m]!).toNat = 61 ∨ (s.data.toList[m]!).toNat = 33 ∨ (s.data.toList[m]!).toNat = 60 ∨ (s.data.toList[m]!).toNat = 62) ∧ m + 1 < s.size ∧ s.data.toList[m + 1]! ≠ 61) :
    Calls Tryz.prog 59 #[.pointer (some ⟨q, 0, none⟩)] w fun e w' => e = .returned (.tuple #[]) ∧ DN s d q w (Co.next s.data.toList st) w' := by
  obtain ⟨⟨k0, _, k2, _, _, _, _, _⟩, f1, f2, f3, _, _, _, _⟩ := Dq.facts h
  have H := Lib.hid h
  have HL : Hid (s.data.toList.length = s.size) := by simp [Hid]
  have HN := Lib.hid (@Co.dnext_at s.data.toList · st hst)
  have HCL := Lib.hid hcls
  clear h hst hcls
  dsimp only at k2
  go_enter Tryz.func59, Tryz.ntmps59
  go_wp2_with fail
  go_loop [2] (fun i => ∃ m : Nat, st.till ≤ m ∧ m ≤ s.size ∧ i = .int .i64 m ∧ Hid (∀ j, st.till ≤ j → j < m → Co.blank s.data.toList[j]! = true)) (fun i => s.size - (intOf i).toNat)
  case atStart => exact ⟨st.till, Nat.le_refl _, by omega, rfl, fun j h1 h2 => by omega⟩
  case round =>
    obtain ⟨m, hm1, hm, rfl, hall⟩ := hrel
    have FIN : ∀ hn : m = s.size ∨ Co.blank s.data.toList[m]! = false, Hid (Co.next s.data.toList st = ⟨(Co.wordAt s.data.toList m).1, (Co.wordAt s.data.toList m).2.1, (Co.wordAt s.data.toList m).2.2, none⟩) := fun hn =>
      HN.out m hm1 (by rw [HL.out]; exact hm) hall.out (by rw [HL.out]; exact hn)
    have CELL : Hid (∃ w1, w1 = ((w.setCell ⟨q, 1, none⟩ (.int .i64 (m : Int))).setCell ⟨q, 3, none⟩ (.string ⟨#[]⟩)).setCell ⟨q, 2, none⟩ (.int .i64 (m : Int)) ∧ Cel w1 q (Dq.list s ⟨m, m, ⟨#[]⟩, 0, false, 0, d⟩) ∧ w.grownBy w1 (some q)) :=
      ⟨_, rfl, ((H.out.set (i := 1) (by simp [Dq.list]) (.int .i64 (m : Int))).set (i := 3) (by simp [Dq.list]) (.string ⟨#[]⟩)).set (i := 2) (by simp [Dq.list]) (.int .i64 (m : Int)), set_grown (set_grown (set_grown (World.grownBy.refl _ _) 1 _) 3 _) 2 _⟩
    by_cases hmlt : m < s.size
    · have hat : s.data.toList[m]! = s[m] := by rw [getElem!_pos s.data.toList m (by simpa using hmlt)]; simp [ByteArray.getElem_eq_getElem_data]
      have hbl : Co.blank s[m] = true ↔ (s[m].toNat : Int) = 32 := by unfold Co.blank; simp; omega
      have HB := Lib.hid hbl
      have HA := Lib.hid hat
      clear hbl hat
      by_cases h32 : (s[m].toNat : Int) = 32
      · have HE : Hid (Co.blank s.data.toList[m]! = true) := by rw [HA.out, HB.out]; exact h32
        clear FIN
        go_wp2_with fail
        go_round
        case measure => simp [intOf]; omega
        case rel =>
          refine ⟨m + 1, by omega, by omega, by go_num, fun j hj hjm => ?_⟩
          by_cases e : j = m
          · subst e; exact HE.out
          · exact hall.out j hj (by omega)
      · have HM := Lib.hid (HCL.out m (Co.ends_eq hm1 (by rw [HL.out]; exact hm) hall.out (.inr (by rw [HA.out, Bool.eq_false_iff, ne_eq, HB.out]; exact h32))).symm hmlt)
        have HE := FIN (.inr (by rw [HA.out, Bool.eq_false_iff, ne_eq, HB.out]; exact h32))
        clear FIN
        have hc := s[m].toNat_lt
        go_upto_region 6 with (fail)
        obtain ⟨w1, hw1, h1, hg1⟩ := CELL.out
        rw [← hw1]
        clear hw1 k0 k2 f1 f2 f3 CELL HN H
        obtain ⟨⟨k0, _, _, _, _, _, _, _⟩, _, f2, f3, _, _, _, _⟩ := Dq.facts h1
        have H1 := Lib.hid h1
        have HG := Lib.hid hg1
        clear h1 hg1
        have WL := Lib.hid (dletter_any s[m])
        have h00 : (0 : Int) ≤ (m : Int) := by omega
        have HQ : Hid (Co.ofWord s.data.toList[m]! = false) := HM.out.1
        rw [show Co.ofWord s[m] = false from by rw [← HA.out]; exact HM.out.1] at WL
        have h34 : ¬ (s[m].toNat : Int) = 34 := fun h => HM.out.2.1 (by rw [HA.out]; exact Co.u8_of (by show _ = 34; omega))
        go_wp2_with fail
        refine (WL.out _).mono ?_
        rintro e w2 ⟨rfl, rfl⟩
        have AMI := Lib.hid (damiss_any H1.out rfl 111 (m : Int) (by decide))
        have HN34 : Hid (s.data.toList[m]! ≠ 34) := fun e => by rw [HA.out] at e; rw [e] at h34; exact h34 rfl
        have b34 : ((s[m].toNat : Int) == 34) = false := by rw [beq_eq_false_iff_ne]; exact h34
        have hfour : (s[m].toNat : Int) = 61 ∨ (s[m].toNat : Int) = 33 ∨ (s[m].toNat : Int) = 60 ∨ (s[m].toNat : Int) = 62 := by
          have := HM.out.2.2.1
          rw [HA.out] at this
          omega
        have hm1s : (m : Int) + 1 ≤ (s.size : Int) := by omega
        have hmm1 : (m : Int) ≤ (m : Int) + 1 := by omega
        have htn1 : ((m : Int) + 1).toNat = m + 1 := by omega
        have hlt1 : m + 1 < s.size := HM.out.2.2.2.1
        have hat1 : s.data.toList[m + 1]! = s[m + 1] := by rw [getElem!_pos s.data.toList (m + 1) (by simpa using hlt1)]; simp [ByteArray.getElem_eq_getElem_data]
        have hn61 : ¬ (s[m + 1].toNat : Int) = 61 := fun h => HM.out.2.2.2.2 (by rw [hat1]; exact Co.u8_of (by show _ = 61; omega))
        have NOT : Hid (¬ (m + 1 < s.data.toList.length ∧ s.data.toList[m + 1]! = 61)) := fun h => hn61 (by rw [← hat1, h.2]; rfl)
        clear hat1
        rcases hfour with hv | hv | hv | hv
        · have HX : Hid (Co.next s.data.toList st = ⟨0, m, m, none⟩) := by
            show _ = _
            rw [HE.out, Co.d_none (by rw [HL.out]; exact hmlt) HQ.out HN34.out (.inl ⟨by rw [HA.out]; omega, NOT.out⟩)]
          go_wp2_with (go_at_call 62; refine (AMI.out).mono ?_; rintro e w3 ⟨rfl, h3, hg3⟩)
          try simp only [Exit.inBlock, Exit.then]
          first | (refine bodyPost_ret (results_none rfl _ _ _) rfl ?_) | (refine bodyPost_end (results_none rfl _ _ _) rfl ?_)
          exact ⟨rfl, DN.amiss (grown_trans HG.out hg3) h3 HX.out⟩
        · have HX : Hid (Co.next s.data.toList st = ⟨0, m, m, none⟩) := by
            show _ = _
            rw [HE.out, Co.d_none (by rw [HL.out]; exact hmlt) HQ.out HN34.out (.inl ⟨by rw [HA.out]; omega, NOT.out⟩)]
          go_wp2_with (go_at_call 62; refine (AMI.out).mono ?_; rintro e w3 ⟨rfl, h3, hg3⟩)
          try simp only [Exit.inBlock, Exit.then]
          first | (refine bodyPost_ret (results_none rfl _ _ _) rfl ?_) | (refine bodyPost_end (results_none rfl _ _ _) rfl ?_)
          exact ⟨rfl, DN.amiss (grown_trans HG.out hg3) h3 HX.out⟩
        all_goals
          have HX : Hid (Co.next s.data.toList st = ⟨6, m, m + 1, none⟩) := by
            show _ = _
            rw [HE.out, Co.d_one (by rw [HL.out]; exact hmlt) (.inl ⟨by rw [HA.out]; omega, NOT.out⟩)]
          go_wp2_with fail
          try simp only [Exit.inBlock, Exit.then]
          first | (refine bodyPost_ret (results_none rfl _ _ _) rfl ?_) | (refine bodyPost_end (results_none rfl _ _ _) rfl ?_)
          exact ⟨rfl, DN.fin (j := m + 1) HG.out H1.out HX.out (by omega) (by omega)⟩
    · obtain rfl : m = s.size := by omega
      have HE := FIN (.inl rfl)
      clear FIN
      go_wp2
      try simp only [Exit.inBlock, Exit.then]
      first | (refine bodyPost_ret (results_none rfl _ _ _) rfl ?_) | (refine bodyPost_end (results_none rfl _ _ _) rfl ?_)
      obtain ⟨w1, hw1, h1, hg1⟩ := CELL.out
      rw [← hw1]
      refine ⟨rfl, DN.last hg1 h1 ?_⟩
      rw [HE.out, ← HL.out, Co.d_last]
set_option maxRecDepth 10000 in
set_option maxHeartbeats 3200000 in
theorem dnext_b3 {st : Co.St} (h : Cel w q (Dq.list s ⟨st.frm, st.till, ⟨(Co.text s.data.toList st).toArray⟩, 0, false, 0, d⟩)) (hst : st.err = none) (hti : st.till ≤ s.size) (hsz : s.size ≤ 80)
    (hcls : ∀ m, m = Co.ends Co.blank s.data.toList st.till → m < s.size → Co.ofWord s.data.toList[m]! = false ∧ s.data.toList[m]! ≠ 34 ∧ ((s.data.toList[m]!).toNat = 61 ∨ (s.data.toList[m]!).toNat = 33 ∨ (s.data.toList[m]!).toNat = 60 ∨ (s.data.toList[m]!).toNat = 62) ∧ ¬ m + 1 < s.size) :
    Calls Tryz.prog 59 #[.pointer (some ⟨q, 0, none⟩)] w fun e w' => e = .returned (.tuple #[]) ∧ DN s d q w (Co.next s.data.toList st) w' := by
  obtain ⟨⟨k0, _, k2, _, _, _, _, _⟩, f1, f2, f3, _, _, _, _⟩ := Dq.facts h
  have H := Lib.hid h
  have HL : Hid (s.data.toList.length = s.size) := by simp [Hid]
  have HN := Lib.hid (@Co.dnext_at s.data.toList · st hst)
  have HCL := Lib.hid hcls
  clear h hst hcls
  dsimp only at k2
  go_enter Tryz.func59, Tryz.ntmps59
  go_wp2_with fail
  go_loop [2] (fun i => ∃ m : Nat, st.till ≤ m ∧ m ≤ s.size ∧ i = .int .i64 m ∧ Hid (∀ j, st.till ≤ j → j < m → Co.blank s.data.toList[j]! = true)) (fun i => s.size - (intOf i).toNat)
  case atStart => exact ⟨st.till, Nat.le_refl _, by omega, rfl, fun j h1 h2 => by omega⟩
  case round =>
    obtain ⟨m, hm1, hm, rfl, hall⟩ := hrel
    have FIN : ∀ hn : m = s.size ∨ Co.blank s.data.toList[m]! = false, Hid (Co.next s.data.toList st = ⟨(Co.wordAt s.data.toList m).1, (Co.wordAt s.data.toList m).2.1, (Co.wordAt s.data.toList m).2.2, none⟩) := fun hn =>
      HN.out m hm1 (by rw [HL.out]; exact hm) hall.out (by rw [HL.out]; exact hn)
    have CELL : Hid (∃ w1, w1 = ((w.setCell ⟨q, 1, none⟩ (.int .i64 (m : Int))).setCell ⟨q, 3, none⟩ (.string ⟨#[]⟩)).setCell ⟨q, 2, none⟩ (.int .i64 (m : Int)) ∧ Cel w1 q (Dq.list s ⟨m, m, ⟨#[]⟩, 0, false, 0, d⟩) ∧ w.grownBy w1 (some q)) :=
      ⟨_, rfl, ((H.out.set (i := 1) (by simp [Dq.list]) (.int .i64 (m : Int))).set (i := 3) (by simp [Dq.list]) (.string ⟨#[]⟩)).set (i := 2) (by simp [Dq.list]) (.int .i64 (m : Int)), set_grown (set_grown (set_grown (World.grownBy.refl _ _) 1 _) 3 _) 2 _⟩
    by_cases hmlt : m < s.size
    · have hat : s.data.toList[m]! = s[m] := by rw [getElem!_pos s.data.toList m (by simpa using hmlt)]; simp [ByteArray.getElem_eq_getElem_data]
      have hbl : Co.blank s[m] = true ↔ (s[m].toNat : Int) = 32 := by unfold Co.blank; simp; omega
      have HB := Lib.hid hbl
      have HA := Lib.hid hat
      clear hbl hat
      by_cases h32 : (s[m].toNat : Int) = 32
      · have HE : Hid (Co.blank s.data.toList[m]! = true) := by rw [HA.out, HB.out]; exact h32
        clear FIN
        go_wp2_with fail
        go_round
        case measure => simp [intOf]; omega
        case rel =>
          refine ⟨m + 1, by omega, by omega, by go_num, fun j hj hjm => ?_⟩
          by_cases e : j = m
          · subst e; exact HE.out
          · exact hall.out j hj (by omega)
      · have HM := Lib.hid (HCL.out m (Co.ends_eq hm1 (by rw [HL.out]; exact hm) hall.out (.inr (by rw [HA.out, Bool.eq_false_iff, ne_eq, HB.out]; exact h32))).symm hmlt)
        have HE := FIN (.inr (by rw [HA.out, Bool.eq_false_iff, ne_eq, HB.out]; exact h32))
        clear FIN
        have hc := s[m].toNat_lt
        go_upto_region 6 with (fail)
        obtain ⟨w1, hw1, h1, hg1⟩ := CELL.out
        rw [← hw1]
        clear hw1 k0 k2 f1 f2 f3 CELL HN H
        obtain ⟨⟨k0, _, _, _, _, _, _, _⟩, _, f2, f3, _, _, _, _⟩ := Dq.facts h1
        have H1 := Lib.hid h1
        have HG := Lib.hid hg1
        clear h1 hg1
        have WL := Lib.hid (dletter_any s[m])
        have h00 : (0 : Int) ≤ (m : Int) := by omega
        have HQ : Hid (Co.ofWord s.data.toList[m]! = false) := HM.out.1
        rw [show Co.ofWord s[m] = false from by rw [← HA.out]; exact HM.out.1] at WL
        have h34 : ¬ (s[m].toNat : Int) = 34 := fun h => HM.out.2.1 (by rw [HA.out]; exact Co.u8_of (by show _ = 34; omega))
        go_wp2_with fail
        refine (WL.out _).mono ?_
        rintro e w2 ⟨rfl, rfl⟩
        have AMI := Lib.hid (damiss_any H1.out rfl 111 (m : Int) (by decide))
        have HN34 : Hid (s.data.toList[m]! ≠ 34) := fun e => by rw [HA.out] at e; rw [e] at h34; exact h34 rfl
        have b34 : ((s[m].toNat : Int) == 34) = false := by rw [beq_eq_false_iff_ne]; exact h34
        have hfour : (s[m].toNat : Int) = 61 ∨ (s[m].toNat : Int) = 33 ∨ (s[m].toNat : Int) = 60 ∨ (s[m].toNat : Int) = 62 := by
          have := HM.out.2.2.1
          rw [HA.out] at this
          omega
        have hm1s : (m : Int) + 1 ≤ (s.size : Int) := by omega
        have hmm1 : (m : Int) ≤ (m : Int) + 1 := by omega
        have htn1 : ((m : Int) + 1).toNat = m + 1 := by omega
        have hlt1 : ¬ m + 1 < s.size := HM.out.2.2.2
        have NOT : Hid (¬ (m + 1 < s.data.toList.length ∧ s.data.toList[m + 1]! = 61)) := fun h => hlt1 (by rw [← HL.out]; exact h.1)
        have HMS : Hid (m + 1 = s.size) := by show _ = _; omega
        obtain hms : (m : Int) + 1 = (s.size : Int) := by omega
        rcases hfour with hv | hv | hv | hv
        · have HX : Hid (Co.next s.data.toList st = ⟨0, m, m, none⟩) := by
            show _ = _
            rw [HE.out, Co.d_none (by rw [HL.out]; exact hmlt) HQ.out HN34.out (.inl ⟨by rw [HA.out]; omega, NOT.out⟩)]
          go_wp2_with (go_at_call 62; refine (AMI.out).mono ?_; rintro e w3 ⟨rfl, h3, hg3⟩)
          try simp only [Exit.inBlock, Exit.then]
          first | (refine bodyPost_ret (results_none rfl _ _ _) rfl ?_) | (refine bodyPost_end (results_none rfl _ _ _) rfl ?_)
          exact ⟨rfl, DN.amiss (grown_trans HG.out hg3) h3 HX.out⟩
        · have HX : Hid (Co.next s.data.toList st = ⟨0, m, m, none⟩) := by
            show _ = _
            rw [HE.out, Co.d_none (by rw [HL.out]; exact hmlt) HQ.out HN34.out (.inl ⟨by rw [HA.out]; omega, NOT.out⟩)]
          go_wp2_with (go_at_call 62; refine (AMI.out).mono ?_; rintro e w3 ⟨rfl, h3, hg3⟩)
          try simp only [Exit.inBlock, Exit.then]
          first | (refine bodyPost_ret (results_none rfl _ _ _) rfl ?_) | (refine bodyPost_end (results_none rfl _ _ _) rfl ?_)
          exact ⟨rfl, DN.amiss (grown_trans HG.out hg3) h3 HX.out⟩
        all_goals
          have HX : Hid (Co.next s.data.toList st = ⟨6, m, s.size, none⟩) := by
            show _ = _
            rw [HE.out, Co.d_one (by rw [HL.out]; exact hmlt) (.inl ⟨by rw [HA.out]; omega, NOT.out⟩), HMS.out]
          go_wp2_with fail
          try simp only [Exit.inBlock, Exit.then]
          first | (refine bodyPost_ret (results_none rfl _ _ _) rfl ?_) | (refine bodyPost_end (results_none rfl _ _ _) rfl ?_)
          exact ⟨rfl, DN.fin (j := s.size) HG.out H1.out HX.out hmlt (Nat.le_refl _)⟩
    · obtain rfl : m = s.size := by omega
      have HE := FIN (.inl rfl)
      clear FIN
      go_wp2
      try simp only [Exit.inBlock, Exit.then]
      first | (refine bodyPost_ret (results_none rfl _ _ _) rfl ?_) | (refine bodyPost_end (results_none rfl _ _ _) rfl ?_)
      obtain ⟨w1, hw1, h1, hg1⟩ := CELL.out
      rw [← hw1]
      refine ⟨rfl, DN.last hg1 h1 ?_⟩
      rw [HE.out, ← HL.out, Co.d_last]
end
end Go.Proofs.YtddedbpbenkdoaaGreatDoor
