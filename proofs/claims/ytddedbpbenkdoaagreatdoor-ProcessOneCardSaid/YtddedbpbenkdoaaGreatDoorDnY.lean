/- The document's parser: the next word. -/
import Derived.Test.YtddedbpbenkdoaaGreatDoorYProcessOne6
namespace Go.Proofs.YtddedbpbenkdoaaGreatDoor
open Go.RowKit

namespace Co
section
variable {l : List UInt8} {k m : Nat} {st : St}
theorem u8_of {c d : UInt8} (h : c.toNat = d.toNat) : c = d := UInt8.toNat_inj.1 h
theorem dnext_at (h : st.err = none) (hm : st.till ≤ m) (hml : m ≤ l.length) (ha : ∀ j, st.till ≤ j → j < m → blank l[j]! = true) (hn : m = l.length ∨ blank l[m]! = false) :
    next l st = ⟨(wordAt l m).1, (wordAt l m).2.1, (wordAt l m).2.2, none⟩ := by
  unfold next
  rw [if_neg (by rw [h]; simp), ends_eq hm hml ha hn]
theorem d_last : wordAt l l.length = (1, l.length, l.length) := if_pos rfl
theorem d_word (hk : k < l.length) (h : ofWord l[k]! = true) (hm : k ≤ m) (hml : m ≤ l.length) (ha : ∀ j, k ≤ j → j < m → ofWord l[j]! = true) (hn : m = l.length ∨ ofWord l[m]! = false) :
    wordAt l k = (kindOf ((l.drop k).take (m - k)), k, m) := by
  unfold wordAt
  rw [if_neg (by omega), if_pos h, ends_eq hm hml ha hn]
theorem d_yes (hk : k < l.length) (h : l[k]! = 34) (hm : k + 1 ≤ m) (hml : m < l.length) (ha : ∀ j, k + 1 ≤ j → j < m → inText l[j]! = true) (h34 : l[m]! = 34) : wordAt l k = (3, k, m + 1) := by
  have he : ends inText l (k + 1) = m := ends_eq hm (by omega) ha (.inr (by rw [h34]; decide))
  unfold wordAt textAt
  rw [if_neg (by omega), if_neg (by rw [h]; decide), if_pos h, he, if_pos ⟨hml, h34⟩]
theorem d_no (hk : k < l.length) (h : l[k]! = 34) (hm : k + 1 ≤ m) (hml : m ≤ l.length) (ha : ∀ j, k + 1 ≤ j → j < m → inText l[j]! = true) (hn : m = l.length ∨ (inText l[m]! = false ∧ l[m]! ≠ 34)) : wordAt l k = (0, k, k) := by
  have he : ends inText l (k + 1) = m := ends_eq hm hml ha (hn.imp id (·.1))
  unfold wordAt textAt
  rw [if_neg (by omega), if_neg (by rw [h]; decide), if_pos h, he, if_neg (by rcases hn with rfl | hn <;> simp_all)]
theorem d_two (h : (l[k]!).toNat = 61 ∨ (l[k]!).toNat = 33 ∨ (l[k]!).toNat = 60 ∨ (l[k]!).toNat = 62) (h1 : k + 1 < l.length) (h2 : l[k + 1]! = 61) : wordAt l k = (6, k, k + 2) := by
  have e0 : (l.drop k)[0]! = l[k]! := by simp [List.getElem!_eq_getElem?_getD]
  have e1 : (l.drop k)[1]! = l[k + 1]! := by simp [List.getElem!_eq_getElem?_getD]
  have hc : l[k]! = 61 ∨ l[k]! = 33 ∨ l[k]! = 60 ∨ l[k]! = 62 := h.imp u8_of (Or.imp u8_of (Or.imp u8_of u8_of))
  have hm : markLen (l.drop k) = 2 := by
    unfold markLen
    rw [e0, e1, h2, List.length_drop, if_pos ⟨by omega, rfl, by rcases hc with h | h | h | h <;> rw [h] <;> rfl⟩]
  unfold wordAt
  rw [if_neg (by omega), if_neg (by rcases hc with h | h | h | h <;> rw [h] <;> decide), if_neg (by rcases hc with h | h | h | h <;> rw [h] <;> decide), hm]
  rfl
theorem d_one (hk : k < l.length) (h : ((l[k]!).toNat = 60 ∨ (l[k]!).toNat = 62) ∧ ¬ (k + 1 < l.length ∧ l[k + 1]! = 61) ∨ (l[k]!).toNat = 40 ∨ (l[k]!).toNat = 41 ∨ (l[k]!).toNat = 43 ∨ (l[k]!).toNat = 45 ∨ (l[k]!).toNat = 42 ∨ (l[k]!).toNat = 47 ∨ (l[k]!).toNat = 37) : wordAt l k = (6, k, k + 1) := by
  have e0 : (l.drop k)[0]! = l[k]! := by simp [List.getElem!_eq_getElem?_getD]
  have e1 : (l.drop k)[1]! = l[k + 1]! := by simp [List.getElem!_eq_getElem?_getD]
  have hc : (l[k]! = 60 ∨ l[k]! = 62) ∧ ¬ (k + 1 < l.length ∧ l[k + 1]! = 61) ∨ l[k]! = 40 ∨ l[k]! = 41 ∨ l[k]! = 43 ∨ l[k]! = 45 ∨ l[k]! = 42 ∨ l[k]! = 47 ∨ l[k]! = 37 := by
    exact h.imp (And.imp (Or.imp u8_of u8_of) id) (Or.imp u8_of (Or.imp u8_of (Or.imp u8_of (Or.imp u8_of (Or.imp u8_of (Or.imp u8_of u8_of))))))
  have hm : markLen (l.drop k) = 1 := by
    unfold markLen
    rw [e0, e1, List.length_drop]
    rcases hc with ⟨h | h, hn⟩ | h | h | h | h | h | h | h
    · rw [if_neg (fun e => hn ⟨by omega, e.2.1⟩), h]; rfl
    · rw [if_neg (fun e => hn ⟨by omega, e.2.1⟩), h]; rfl
    all_goals
      rw [h, if_neg (fun e => absurd e.2.2 (by decide))]; rfl
  have hw : ofWord l[k]! = false ∧ l[k]! ≠ 34 := by
    rcases hc with ⟨h | h, _⟩ | h | h | h | h | h | h | h <;> rw [h] <;> decide
  unfold wordAt
  rw [if_neg (by omega), if_neg (by rw [hw.1]; decide), if_neg hw.2, hm]
  rfl
theorem d_none (hk : k < l.length) (hw : ofWord l[k]! = false) (h34 : l[k]! ≠ 34) (h : ((l[k]!).toNat = 61 ∨ (l[k]!).toNat = 33) ∧ ¬ (k + 1 < l.length ∧ l[k + 1]! = 61) ∨ ((l[k]!).toNat ≠ 61 ∧ (l[k]!).toNat ≠ 33 ∧ (l[k]!).toNat ≠ 60 ∧ (l[k]!).toNat ≠ 62 ∧ (l[k]!).toNat ≠ 40 ∧ (l[k]!).toNat ≠ 41 ∧ (l[k]!).toNat ≠ 43 ∧ (l[k]!).toNat ≠ 45 ∧ (l[k]!).toNat ≠ 42 ∧ (l[k]!).toNat ≠ 47 ∧ (l[k]!).toNat ≠ 37)) : wordAt l k = (0, k, k) := by
  have e0 : (l.drop k)[0]! = l[k]! := by simp [List.getElem!_eq_getElem?_getD]
  have e1 : (l.drop k)[1]! = l[k + 1]! := by simp [List.getElem!_eq_getElem?_getD]
  have hm : markLen (l.drop k) = 0 := by
    unfold markLen
    rw [e0, e1, List.length_drop]
    rcases h with ⟨h, hn⟩ | h
    · rw [if_neg (fun e => hn ⟨by omega, e.2.1⟩)]
      rcases h with h | h
      · rw [u8_of (d := 61) h]; rfl
      · rw [u8_of (d := 33) h]; rfl
    · generalize l[k]! = c at *
      obtain ⟨n1, n2, n3, n4, n5, n6, n7, n8, n9, n10, n11⟩ := h
      have hne : ∀ d : UInt8, c.toNat ≠ d.toNat → c ≠ d := fun d h e => h (by rw [e])
      have m1 := hne 61 n1
      have m2 := hne 33 n2
      have m3 := hne 60 n3
      have m4 := hne 62 n4
      have m5 := hne 40 n5
      have m6 := hne 41 n6
      have m7 := hne 43 n7
      have m8 := hne 45 n8
      have m9 := hne 42 n9
      have m10 := hne 47 n10
      have m11 := hne 37 n11
      rw [if_neg (fun e => by have := e.2.2; simp_all), if_neg (by unfold marks; simp_all)]
  unfold wordAt
  rw [if_neg (by omega), if_neg (by rw [hw]; decide), if_neg h34, hm]
  rfl
end
end Co
/-- What stands after the next word: what the parser holds, and which blocks changed. -/
def DN (s : ByteArray) (d q : Nat) (w : World) (st' : Co.St) (w' : World) : Prop := (∃ x : Dq, Cel w' q (x.list s) ∧ Says s st' d x) ∧ w.grownBy w' (some q)
section
variable {w w1 : World} {q d m j kd : Nat} {s : ByteArray} {st' : Co.St}
theorem DN.fin (hg : w.grownBy w1 (some q)) (h1 : Cel w1 q (Dq.list s ⟨m, m, ⟨#[]⟩, 0, false, 0, d⟩)) (he : st' = ⟨kd, m, j, none⟩) (hlt : m < j) (hle : j ≤ s.size) :
    DN s d q w st' ((w1.setCell ⟨q, 3, none⟩ (.string (s.extract m j))).setCell ⟨q, 2, none⟩ (.int .i64 (j : Int))) := by
  subst he
  have hx : s.extract m j = ⟨(Co.text s.data.toList ⟨kd, m, j, none⟩).toArray⟩ := Co.of_lit (Lib.extract_data s m j)
  have hs := (h1.set (i := 3) (by simp [Dq.list]) (.string (s.extract m j))).set (i := 2) (by simp [Dq.list]) (.int .i64 (j : Int))
  refine ⟨⟨⟨m, j, s.extract m j, 0, false, 0, d⟩, hs, ?_⟩, set_grown (set_grown hg 3 _) 2 _⟩
  rw [hx]
  refine .fine rfl fun e => ?_
  have hl : s.data.toList.length = s.size := by simp
  have := congrArg List.length e
  unfold Co.text at this
  rw [List.length_take, List.length_drop, hl] at this
  simp at this
  omega
theorem DN.last (hg : w.grownBy w1 (some q)) (h1 : Cel w1 q (Dq.list s ⟨m, m, ⟨#[]⟩, 0, false, 0, d⟩)) (he : st' = ⟨1, m, m, none⟩) : DN s d q w st' w1 := by
  subst he
  refine ⟨⟨_, h1, ?_⟩, hg⟩
  have hx : (⟨#[]⟩ : ByteArray) = ⟨(Co.text s.data.toList ⟨1, m, m, none⟩).toArray⟩ := by unfold Co.text; simp
  rw [hx]
  exact .fine rfl fun _ => rfl
theorem DN.amiss (hg : w.grownBy w1 (some q)) (h1 : Cel w1 q (Dq.list s ⟨m, m, ⟨#[]⟩, 111, true, m, d⟩)) (he : st' = ⟨0, m, m, none⟩) : DN s d q w st' w1 := by
  subst he
  exact ⟨⟨_, h1, .bad _ _ _ _ _ _ (by decide) rfl⟩, hg⟩
set_option maxRecDepth 10000 in
set_option maxHeartbeats 3200000 in
theorem dnext_a {st : Co.St} (h : Cel w q (Dq.list s ⟨st.frm, st.till, ⟨(Co.text s.data.toList st).toArray⟩, 0, false, 0, d⟩)) (hst : st.err = none) (hti : st.till ≤ s.size) (hsz : s.size ≤ 80)
    (hcls : ∀ m, m = Co.ends Co.blank s.data.toList st.till → m < s.size → Co.ofWord s.data.toList[m]! = true ∨ s.data.toList[m]! = 34) :
    Calls Tryz.prog 59 #[.pointer (some ⟨q, 0, none⟩)] w fun e w' => e = .returned (.tuple #[]) ∧ DN s d q w (Co.next s.data.toList st) w' := by
  obtain ⟨⟨k0, _, k2, _, _, _, _, _⟩, f1, f2, f3, _, _, _, _⟩ := Dq.facts h
  have H := Lib.hid h
  have HL : Hid (s.data.toList.length = s.size) := by simp [Hid]
  have HN := Lib.hid (@Co.dnext_at s.data.toList · st hst)
  have HCL := Lib.hid hcls
  clear h hst hcls
  dsimp only at k2
  go_enter Tryz.func59, Tryz.ntmps59
  go_wp2_with fail
  go_loop [2] (fun i => ∃ m : Nat, st.till ≤ m ∧ m ≤ s.size ∧ i = .int .i64 m ∧ Hid (∀ j, st.till ≤ j → j < m → Co.blank s.data.toList[j]! = true)) (fun i => s.size - (intOf i).toNat)
  case atStart => exact ⟨st.till, Nat.le_refl _, by omega, rfl, fun j h1 h2 => by omega⟩
  case round =>
    obtain ⟨m, hm1, hm, rfl, hall⟩ := hrel
    have FIN : ∀ hn : m = s.size ∨ Co.blank s.data.toList[m]! = false, Hid (Co.next s.data.toList st = ⟨(Co.wordAt s.data.toList m).1, (Co.wordAt s.data.toList m).2.1, (Co.wordAt s.data.toList m).2.2, none⟩) := fun hn =>
      HN.out m hm1 (by rw [HL.out]; exact hm) hall.out (by rw [HL.out]; exact hn)
    have CELL : Hid (∃ w1, w1 = ((w.setCell ⟨q, 1, none⟩ (.int .i64 (m : Int))).setCell ⟨q, 3, none⟩ (.string ⟨#[]⟩)).setCell ⟨q, 2, none⟩ (.int .i64 (m : Int)) ∧ Cel w1 q (Dq.list s ⟨m, m, ⟨#[]⟩, 0, false, 0, d⟩) ∧ w.grownBy w1 (some q)) :=
      ⟨_, rfl, ((H.out.set (i := 1) (by simp [Dq.list]) (.int .i64 (m : Int))).set (i := 3) (by simp [Dq.list]) (.string ⟨#[]⟩)).set (i := 2) (by simp [Dq.list]) (.int .i64 (m : Int)), set_grown (set_grown (set_grown (World.grownBy.refl _ _) 1 _) 3 _) 2 _⟩
    by_cases hmlt : m < s.size
    · have hat : s.data.toList[m]! = s[m] := by rw [getElem!_pos s.data.toList m (by simpa using hmlt)]; simp [ByteArray.getElem_eq_getElem_data]
      have hbl : Co.blank s[m] = true ↔ (s[m].toNat : Int) = 32 := by unfold Co.blank; simp; omega
      have HB := Lib.hid hbl
      have HA := Lib.hid hat
      clear hbl hat
      by_cases h32 : (s[m].toNat : Int) = 32
      · have HE : Hid (Co.blank s.data.toList[m]! = true) := by rw [HA.out, HB.out]; exact h32
        clear FIN
        go_wp2_with fail
        go_round
        case measure => simp [intOf]; omega
        case rel =>
          refine ⟨m + 1, by omega, by omega, by go_num, fun j hj hjm => ?_⟩
          by_cases e : j = m
          · subst e; exact HE.out
          · exact hall.out j hj (by omega)
      · have HM := Lib.hid (HCL.out m (Co.ends_eq hm1 (by rw [HL.out]; exact hm) hall.out (.inr (by rw [HA.out, Bool.eq_false_iff, ne_eq, HB.out]; exact h32))).symm hmlt)
        have HE := FIN (.inr (by rw [HA.out, Bool.eq_false_iff, ne_eq, HB.out]; exact h32))
        clear FIN
        have hc := s[m].toNat_lt
        go_upto_region 6 with (fail)
        obtain ⟨w1, hw1, h1, hg1⟩ := CELL.out
        rw [← hw1]
        clear hw1 k0 k2 f1 f2 f3 CELL HN H
        obtain ⟨⟨k0, _, _, _, _, _, _, _⟩, _, f2, f3, _, _, _, _⟩ := Dq.facts h1
        have H1 := Lib.hid h1
        have HG := Lib.hid hg1
        clear h1 hg1
        have WL := Lib.hid (dletter_any s[m])
        have h00 : (0 : Int) ≤ (m : Int) := by omega
        cases hq : Co.ofWord s[m] with
        | true =>
          rw [hq] at WL
          have HW := Lib.hid (@Co.d_word s.data.toList m · (by rw [HL.out]; exact hmlt) (by rw [HA.out]; exact hq))
          have HF : Hid (∀ o, m ≤ o → o < m + 1 → Co.ofWord s.data.toList[o]! = true) := fun o h1 h2 => by
            obtain rfl : o = m := by omega
            rw [HA.out]; exact hq
          clear hq
          go_wp2_with fail
          refine (WL.out _).mono ?_
          rintro e w2 ⟨rfl, rfl⟩
          go_wp2_with fail
          go_loop [4] (fun i => ∃ j : Nat, m + 1 ≤ j ∧ j ≤ s.size ∧ i = .int .i64 j ∧ Hid (∀ o, m ≤ o → o < j → Co.ofWord s.data.toList[o]! = true)) (fun i => s.size - (intOf i).toNat)
          case atStart => exact ⟨m + 1, Nat.le_refl _, by omega, by simp, HF.out⟩
          case round =>
            obtain ⟨j, hj1, hj, rfl, hall2⟩ := hrel
            have hmj : (m : Int) ≤ (j : Int) := by omega
            have hjs : (j : Int) ≤ (s.size : Int) := by omega
            have FIN : ∀ hn : j = s.size ∨ Co.ofWord s.data.toList[j]! = false, Hid (Co.next s.data.toList st = ⟨Co.kindOf ((s.data.toList.drop m).take (j - m)), m, j, none⟩) := fun hn => by
              have := HW.out j (by omega) (by rw [HL.out]; exact hj) hall2.out (by rw [HL.out]; exact hn)
              show _ = _
              rw [HE.out, this]
            by_cases hjlt : j < s.size
            · have hat : s.data.toList[j]! = s[j] := by rw [getElem!_pos s.data.toList j (by simpa using hjlt)]; simp [ByteArray.getElem_eq_getElem_data]
              have WJ := Lib.hid (dletter_any s[j])
              cases hq : Co.ofWord s[j] with
              | true =>
                rw [hq] at WJ
                have HQ : Hid (Co.ofWord s.data.toList[j]! = true) := by rw [hat]; exact hq
                clear FIN hat hq
                go_wp2_with (go_at_call 72; refine (WJ.out _).mono ?_; rintro e w2 ⟨rfl, rfl⟩)
                go_round
                case measure => simp [intOf]; omega
                case rel =>
                  refine ⟨j + 1, by omega, by omega, by go_num, fun o ho hoj => ?_⟩
                  by_cases e : o = j
                  · subst e; exact HQ.out
                  · exact hall2.out o ho (by omega)
              | false =>
                rw [hq] at WJ
                have HX := FIN (.inr (by rw [hat]; exact hq))
                clear FIN hat hq
                go_wp2_with (go_at_call 72; refine (WJ.out _).mono ?_; rintro e w2 ⟨rfl, rfl⟩)
                try simp only [Exit.inBlock, Exit.then]
                first | (refine bodyPost_ret (results_none rfl _ _ _) rfl ?_) | (refine bodyPost_end (results_none rfl _ _ _) rfl ?_)
                exact ⟨rfl, DN.fin HG.out H1.out HX.out (by omega) (by omega)⟩
            · obtain rfl : j = s.size := by omega
              have HX := FIN (.inl rfl)
              clear FIN
              go_wp2_with fail
              try simp only [Exit.inBlock, Exit.then]
              first | (refine bodyPost_ret (results_none rfl _ _ _) rfl ?_) | (refine bodyPost_end (results_none rfl _ _ _) rfl ?_)
              exact ⟨rfl, DN.fin HG.out H1.out HX.out (by omega) (by omega)⟩
        | false =>
          rw [hq] at WL
          have HQ : Hid (Co.ofWord s.data.toList[m]! = false) := by rw [HA.out]; exact hq
          clear hq
          go_wp2_with fail
          refine (WL.out _).mono ?_
          rintro e w2 ⟨rfl, rfl⟩
          have AMI := Lib.hid (damiss_any H1.out rfl 111 (m : Int) (by decide))
          have h34 : (s[m].toNat : Int) = 34 := by
            rcases HM.out with h | h
            · exact absurd (HQ.out.symm.trans h) (by decide)
            · rw [HA.out] at h; rw [h]; rfl
          have HB34 : Hid (s.data.toList[m]! = 34) := by rw [HA.out]; exact Co.u8_of (by show _ = 34; omega)
          have HY := Lib.hid (@Co.d_yes s.data.toList m · (by rw [HL.out]; exact hmlt) HB34.out)
          have HZ := Lib.hid (@Co.d_no s.data.toList m · (by rw [HL.out]; exact hmlt) HB34.out)
          go_wp2_with fail
          go_loop [4] (fun i => ∃ j : Nat, m + 1 ≤ j ∧ j ≤ s.size ∧ i = .int .i64 j ∧ Hid (∀ o, m + 1 ≤ o → o < j → Co.inText s.data.toList[o]! = true)) (fun i => s.size - (intOf i).toNat)
          case atStart => exact ⟨m + 1, Nat.le_refl _, by omega, by simp, fun o h1 h2 => by omega⟩
          case round =>
            obtain ⟨j, hj1, hj, rfl, hall2⟩ := hrel
            by_cases hjlt : j < s.size
            · have hat : s.data.toList[j]! = s[j] := by rw [getElem!_pos s.data.toList j (by simpa using hjlt)]; simp [ByteArray.getElem_eq_getElem_data]
              have hcj := s[j].toNat_lt
              by_cases j34 : (s[j].toNat : Int) = 34
              · have HX : Hid (Co.next s.data.toList st = ⟨3, m, j + 1, none⟩) := by
                  show _ = _
                  rw [HE.out, HY.out j hj1 (by rw [HL.out]; exact hjlt) hall2.out (by rw [hat]; exact Co.u8_of (by show _ = 34; omega))]
                have hmj : (m : Int) ≤ (j : Int) + 1 := by omega
                have hjs : (j : Int) + 1 ≤ (s.size : Int) := by omega
                have htn : ((j : Int) + 1).toNat = j + 1 := by omega
                clear hat
                go_wp2_with fail
                try simp only [Exit.inBlock, Exit.then]
                first | (refine bodyPost_ret (results_none rfl _ _ _) rfl ?_) | (refine bodyPost_end (results_none rfl _ _ _) rfl ?_)
                exact ⟨rfl, DN.fin (j := j + 1) HG.out H1.out HX.out (by omega) (by omega)⟩
              · have j34b : ((s[j].toNat : Int) != 34) = true := by rw [bne_iff_ne]; exact j34
                by_cases hin : 32 ≤ (s[j].toNat : Int) ∧ (s[j].toNat : Int) ≤ 126
                · obtain ⟨hin1, hin2⟩ := hin
                  have HQJ : Hid (Co.inText s.data.toList[j]! = true) := by
                    rw [hat]; unfold Co.inText; rw [show decide (32 ≤ s[j].toNat) = true from decide_eq_true (by omega), show decide (s[j].toNat ≤ 126) = true from decide_eq_true (by omega), show decide (s[j].toNat = 34) = false from decide_eq_false (by omega)]; rfl
                  clear hat
                  go_wp2_with fail
                  go_round
                  case measure => simp [intOf]; omega
                  case rel =>
                    refine ⟨j + 1, by omega, by omega, by go_num, fun o ho hoj => ?_⟩
                    by_cases e : o = j
                    · subst e; exact HQJ.out
                    · exact hall2.out o ho (by omega)
                · have HX : Hid (Co.next s.data.toList st = ⟨0, m, m, none⟩) := by
                    show _ = _
                    rw [HE.out, HZ.out j hj1 (by rw [HL.out]; exact hj) hall2.out (.inr ⟨by rw [hat]; unfold Co.inText; simp; omega, by rw [hat]; intro e; rw [e] at j34; exact j34 rfl⟩)]
                  clear hat
                  by_cases h32 : (s[j].toNat : Int) < 32
                  · clear hin
                    go_wp2_with (go_at_call 62; refine (AMI.out).mono ?_; rintro e w3 ⟨rfl, h3, hg3⟩)
                    try simp only [Exit.inBlock, Exit.then]
                    first | (refine bodyPost_ret (results_none rfl _ _ _) rfl ?_) | (refine bodyPost_end (results_none rfl _ _ _) rfl ?_)
                    exact ⟨rfl, DN.amiss (grown_trans HG.out hg3) h3 HX.out⟩
                  · have h126 : 126 < (s[j].toNat : Int) := by omega
                    clear hin
                    go_wp2_with (go_at_call 62; refine (AMI.out).mono ?_; rintro e w3 ⟨rfl, h3, hg3⟩)
                    try simp only [Exit.inBlock, Exit.then]
                    first | (refine bodyPost_ret (results_none rfl _ _ _) rfl ?_) | (refine bodyPost_end (results_none rfl _ _ _) rfl ?_)
                    exact ⟨rfl, DN.amiss (grown_trans HG.out hg3) h3 HX.out⟩
            · obtain rfl : j = s.size := by omega
              have HX : Hid (Co.next s.data.toList st = ⟨0, m, m, none⟩) := by
                show _ = _
                rw [HE.out, HZ.out s.size hj1 (by rw [HL.out]; exact Nat.le_refl _) hall2.out (.inl HL.out.symm)]
              go_wp2_with (go_at_call 62; refine (AMI.out).mono ?_; rintro e w3 ⟨rfl, h3, hg3⟩)
              try simp only [Exit.inBlock, Exit.then]
              first | (refine bodyPost_ret (results_none rfl _ _ _) rfl ?_) | (refine bodyPost_end (results_none rfl _ _ _) rfl ?_)
              exact ⟨rfl, DN.amiss (grown_trans HG.out hg3) h3 HX.out⟩
    · obtain rfl : m = s.size := by omega
      have HE := FIN (.inl rfl)
      clear FIN
      go_wp2
      try simp only [Exit.inBlock, Exit.then]
      first | (refine bodyPost_ret (results_none rfl _ _ _) rfl ?_) | (refine bodyPost_end (results_none rfl _ _ _) rfl ?_)
      obtain ⟨w1, hw1, h1, hg1⟩ := CELL.out
      rw [← hw1]
      refine ⟨rfl, DN.last hg1 h1 ?_⟩
      rw [HE.out, ← HL.out, Co.d_last]
end
end Go.Proofs.YtddedbpbenkdoaaGreatDoor
