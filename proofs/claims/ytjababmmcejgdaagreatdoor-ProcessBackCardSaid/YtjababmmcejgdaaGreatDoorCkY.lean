/- Walks of package cond: what a word of letters, digits and _ is; a bracket's or operator's length. -/
import Derived.Test.YtjababmmcejgdaaGreatDoorYProcessBack3
namespace Go.Proofs.YtjababmmcejgdaaGreatDoor
open Go.RowKit

theorem ret_nat {k : IntKind} {a b : Nat} (h : a = b) : Ending.returned (.int k (a : Int)) = .returned (.int k (b : Int)) := by rw [h]
theorem Co.kind_mark {t : List UInt8} (h : t = [111, 114] ∨ t = [97, 110, 100] ∨ t = [110, 111, 116]) : Co.kindOf t = 6 := if_pos h
section
variable {t : List UInt8}
theorem Co.kind_num (h : ¬ (t = [111, 114] ∨ t = [97, 110, 100] ∨ t = [110, 111, 116])) (h2 : ¬ (t = [116, 114, 117, 101] ∨ t = [102, 97, 108, 115, 101])) (h3 : t.length ≤ 9) (h4 : t.all Co.digit = true) : Co.kindOf t = 2 := by
  unfold Co.kindOf; rw [if_neg h, if_neg h2, if_pos ⟨h3, h4⟩]
theorem Co.kind_rest (h : ¬ (t = [111, 114] ∨ t = [97, 110, 100] ∨ t = [110, 111, 116])) (h2 : ¬ (t = [116, 114, 117, 101] ∨ t = [102, 97, 108, 115, 101])) (h3 : ¬ (t.length ≤ 9 ∧ t.all Co.digit = true)) :
    Co.kindOf t = if Co.digit t[0]! = false ∧ t[0]! ≠ 95 ∧ Vr.name t = true then 5 else 0 := by
  unfold Co.kindOf; rw [if_neg h, if_neg h2, if_neg h3]
end

set_option maxHeartbeats 1600000 in
theorem ckind_any (s : ByteArray) (w : World) (h0 : 0 < s.size) (h80 : s.size ≤ 80) :
    Calls Tryz.prog 104 #[.string s] w fun e w' => e = .returned (.int .i64 (Co.kindOf s.data.toList : Int)) ∧ Below w.heap.size w w' := by
  by_cases m1 : s.data.toList = [111, 114]
  · obtain rfl := Co.of_lit m1
    clear m1 h0 h80
    go_enter Tryz.func104, Tryz.ntmps104
    go_wp2
    go_ret
    exact ⟨rfl, Below.refl _ _⟩
  by_cases m2 : s.data.toList = [97, 110, 100]
  · obtain rfl := Co.of_lit m2
    clear m1 m2 h0 h80
    go_enter Tryz.func104, Tryz.ntmps104
    go_wp2
    go_ret
    exact ⟨rfl, Below.refl _ _⟩
  by_cases m3 : s.data.toList = [110, 111, 116]
  · obtain rfl := Co.of_lit m3
    clear m1 m2 m3 h0 h80
    go_enter Tryz.func104, Tryz.ntmps104
    go_wp2
    go_ret
    exact ⟨rfl, Below.refl _ _⟩
  by_cases m4 : s.data.toList = [116, 114, 117, 101]
  · obtain rfl := Co.of_lit m4
    clear m1 m2 m3 m4 h0 h80
    go_enter Tryz.func104, Tryz.ntmps104
    go_wp2
    go_ret
    exact ⟨rfl, Below.refl _ _⟩
  by_cases m5 : s.data.toList = [102, 97, 108, 115, 101]
  · obtain rfl := Co.of_lit m5
    clear m1 m2 m3 m4 m5 h0 h80
    go_enter Tryz.func104, Tryz.ntmps104
    go_wp2
    go_ret
    exact ⟨rfl, Below.refl _ _⟩
  have M1 : ¬ (s.data.toList = [111, 114] ∨ s.data.toList = [97, 110, 100] ∨ s.data.toList = [110, 111, 116]) := by simp [m1, m2, m3]
  have M2 : ¬ (s.data.toList = [116, 114, 117, 101] ∨ s.data.toList = [102, 97, 108, 115, 101]) := by simp [m4, m5]
  have b1 : (s.toList == [111, 114]) = false := by rw [Co.eq_lit]; simpa using m1
  have b2 : (s.toList == [97, 110, 100]) = false := by rw [Co.eq_lit]; simpa using m2
  have b3 : (s.toList == [110, 111, 116]) = false := by rw [Co.eq_lit]; simpa using m3
  have b4 : (s.toList == [116, 114, 117, 101]) = false := by rw [Co.eq_lit]; simpa using m4
  have b5 : (s.toList == [102, 97, 108, 115, 101]) = false := by rw [Co.eq_lit]; simpa using m5
  have K2 := Lib.hid (@Co.kind_num s.data.toList M1 M2)
  have K3 := Lib.hid (@Co.kind_rest s.data.toList M1 M2)
  clear m1 m2 m3 m4 m5 M1 M2
  have hl : s.data.toList.length = s.size := by simp
  have hs0 : s.data.toList[0]! = s[0] := by
    rw [getElem!_pos s.data.toList 0 (by omega)]
    simp [ByteArray.getElem_eq_getElem_data]
  have hD := fun W => cdigit_any s[0] W
  have hN := fun W => name_any s W (by omega)
  have hT : ∀ W, Calls Tryz.prog 115 #[.string s, .string ⟨#[48, 49, 50, 51, 52, 53, 54, 55, 56, 57]⟩] W fun e w' => e = .returned (.string ⟨(Lib.trimS s.data.toList [48, 49, 50, 51, 52, 53, 54, 55, 56, 57]).toArray⟩) ∧ Below W.heap.size W w' :=
    fun W => Any.strings_Trim_laid shLays160 (by kernel_rfl) s ⟨#[48, 49, 50, 51, 52, 53, 54, 55, 56, 57]⟩ W (by omega) (by decide) (ascii_of_all (by decide))
  obtain ⟨tr, htr⟩ : ∃ tr : ByteArray, tr = ⟨(Lib.trimS s.data.toList [48, 49, 50, 51, 52, 53, 54, 55, 56, 57]).toArray⟩ := ⟨_, rfl⟩
  rw [← htr] at hT
  have hte : (tr.toList == []) = s.data.toList.all Co.digit := by
    rw [Co.eq_lit, htr, Bool.eq_iff_iff]
    simpa using Co.trim_digits s.data.toList
  have HD := Lib.hid hD
  have HN := Lib.hid hN
  have HT := Lib.hid hT
  have h0' : (0 : Int) < (s.size : Int) := by omega
  clear htr hD hN hT
  have HL := Lib.hid hl
  have HS := Lib.hid hs0
  clear hl hs0
  have hdc : Co.digit s[0] = true ∨ Co.digit s[0] = false := by cases Co.digit s[0] <;> simp
  have h95 : s[0] = 95 ∨ ¬ (s[0].toNat : Int) = 95 := by
    by_cases e : s[0] = 95
    · exact .inl e
    · exact .inr (fun h => e (UInt8.toNat_inj.1 (by simp; omega)))
  have hnm : Vr.name s.data.toList = true ∨ Vr.name s.data.toList = false := by cases Vr.name s.data.toList <;> simp
  by_cases h9 : s.size ≤ 9
  · have h9' : (s.size : Int) ≤ 9 := by omega
    cases hall : s.data.toList.all Co.digit with
    | true =>
      rw [hall] at hte
      have HA := Lib.hid (K2.out (by rw [HL.out]; exact h9) hall)
      clear hall h9 hdc h95 hnm
      go_enter Tryz.func104, Tryz.ntmps104
      go_wp2_with (go_at_call 115; refine (HT.out _).mono ?_; rintro e w' ⟨rfl, hb⟩)
      go_ret
      rw [HA.out]
      exact ⟨rfl, hb⟩
    | false =>
      rw [hall] at hte
      have HA := Lib.hid (K3.out (by rw [hall]; simp))
      clear hall h9
      rcases hdc with hd | hd
      · have HA2 : Hid (Co.kindOf s.data.toList = 0) := by
          have := HA.out
          rw [HS.out, hd] at this
          exact this
        rw [hd] at HD
        clear hd h95 hnm HA
        go_enter Tryz.func104, Tryz.ntmps104
        go_wp2_with (first | (go_at_call 115; refine (HT.out _).mono ?_; rintro e w' ⟨rfl, hb⟩) | (go_at_call 114; refine (HD.out _).mono ?_; rintro e w' ⟨rfl, rfl⟩) | (go_at_call 27; refine (HN.out _).mono ?_; rintro e w' ⟨rfl, rfl⟩))
        go_ret
        rw [HA2.out]
        exact ⟨rfl, hb⟩
      · rcases h95 with h95 | h95
        · have HA2 : Hid (Co.kindOf s.data.toList = 0) := by
            have h := HA.out
            rw [HS.out, h95, if_neg (by simp)] at h
            exact h
          rw [hd] at HD
          have hx : ((s[0].toNat : Int) != 95) = false := by rw [h95]; rfl
          clear hd hnm HA h95
          go_enter Tryz.func104, Tryz.ntmps104
          go_wp2_with (first | (go_at_call 115; refine (HT.out _).mono ?_; rintro e w' ⟨rfl, hb⟩) | (go_at_call 114; refine (HD.out _).mono ?_; rintro e w' ⟨rfl, rfl⟩) | (go_at_call 27; refine (HN.out _).mono ?_; rintro e w' ⟨rfl, rfl⟩))
          go_ret
          rw [HA2.out]
          exact ⟨rfl, hb⟩
        · have n95 : s[0] ≠ 95 := fun e => h95 (by rw [e]; rfl)
          rcases hnm with hnm | hnm
          · have HA2 : Hid (Co.kindOf s.data.toList = 5) := by
              have h := HA.out
              rw [HS.out, if_pos ⟨hd, n95, hnm⟩] at h
              exact h
            rw [hd] at HD
            rw [hnm] at HN
            clear hd hnm HA n95
            go_enter Tryz.func104, Tryz.ntmps104
            go_wp2_with (first | (go_at_call 115; refine (HT.out _).mono ?_; rintro e w' ⟨rfl, hb⟩) | (go_at_call 114; refine (HD.out _).mono ?_; rintro e w' ⟨rfl, rfl⟩) | (go_at_call 27; refine (HN.out _).mono ?_; rintro e w' ⟨rfl, rfl⟩))
            go_ret
            rw [HA2.out]
            exact ⟨rfl, hb⟩
          · have HA2 : Hid (Co.kindOf s.data.toList = 0) := by
              have h := HA.out
              rw [hnm, if_neg (by simp)] at h
              exact h
            rw [hd] at HD
            rw [hnm] at HN
            clear hd hnm HA n95
            go_enter Tryz.func104, Tryz.ntmps104
            go_wp2_with (first | (go_at_call 115; refine (HT.out _).mono ?_; rintro e w' ⟨rfl, hb⟩) | (go_at_call 114; refine (HD.out _).mono ?_; rintro e w' ⟨rfl, rfl⟩) | (go_at_call 27; refine (HN.out _).mono ?_; rintro e w' ⟨rfl, rfl⟩))
            go_ret
            rw [HA2.out]
            exact ⟨rfl, hb⟩
  · have h9' : 9 < (s.size : Int) := by omega
    have HA := Lib.hid (K3.out (by rw [HL.out]; simp [h9]))
    clear h9
    rcases hdc with hd | hd
    · have HA2 : Hid (Co.kindOf s.data.toList = 0) := by
        have := HA.out
        rw [HS.out, hd] at this
        exact this
      rw [hd] at HD
      clear hd h95 hnm HA
      go_enter Tryz.func104, Tryz.ntmps104
      go_wp2_with (first | (go_at_call 115; refine (HT.out _).mono ?_; rintro e w' ⟨rfl, hb⟩) | (go_at_call 114; refine (HD.out _).mono ?_; rintro e w' ⟨rfl, rfl⟩) | (go_at_call 27; refine (HN.out _).mono ?_; rintro e w' ⟨rfl, rfl⟩))
      go_ret
      rw [HA2.out]
      exact ⟨rfl, Below.refl _ _⟩
    · rcases h95 with h95 | h95
      · have HA2 : Hid (Co.kindOf s.data.toList = 0) := by
          have h := HA.out
          rw [HS.out, h95, if_neg (by simp)] at h
          exact h
        rw [hd] at HD
        have hx : ((s[0].toNat : Int) != 95) = false := by rw [h95]; rfl
        clear hd hnm HA h95
        go_enter Tryz.func104, Tryz.ntmps104
        go_wp2_with (first | (go_at_call 115; refine (HT.out _).mono ?_; rintro e w' ⟨rfl, hb⟩) | (go_at_call 114; refine (HD.out _).mono ?_; rintro e w' ⟨rfl, rfl⟩) | (go_at_call 27; refine (HN.out _).mono ?_; rintro e w' ⟨rfl, rfl⟩))
        go_ret
        rw [HA2.out]
        exact ⟨rfl, Below.refl _ _⟩
      · have n95 : s[0] ≠ 95 := fun e => h95 (by rw [e]; rfl)
        rcases hnm with hnm | hnm
        · have HA2 : Hid (Co.kindOf s.data.toList = 5) := by
            have h := HA.out
            rw [HS.out, if_pos ⟨hd, n95, hnm⟩] at h
            exact h
          rw [hd] at HD
          rw [hnm] at HN
          clear hd hnm HA n95
          go_enter Tryz.func104, Tryz.ntmps104
          go_wp2_with (first | (go_at_call 115; refine (HT.out _).mono ?_; rintro e w' ⟨rfl, hb⟩) | (go_at_call 114; refine (HD.out _).mono ?_; rintro e w' ⟨rfl, rfl⟩) | (go_at_call 27; refine (HN.out _).mono ?_; rintro e w' ⟨rfl, rfl⟩))
          go_ret
          rw [HA2.out]
          exact ⟨rfl, Below.refl _ _⟩
        · have HA2 : Hid (Co.kindOf s.data.toList = 0) := by
            have h := HA.out
            rw [hnm, if_neg (by simp)] at h
            exact h
          rw [hd] at HD
          rw [hnm] at HN
          clear hd hnm HA n95
          go_enter Tryz.func104, Tryz.ntmps104
          go_wp2_with (first | (go_at_call 115; refine (HT.out _).mono ?_; rintro e w' ⟨rfl, hb⟩) | (go_at_call 114; refine (HD.out _).mono ?_; rintro e w' ⟨rfl, rfl⟩) | (go_at_call 27; refine (HN.out _).mono ?_; rintro e w' ⟨rfl, rfl⟩))
          go_ret
          rw [HA2.out]
          exact ⟨rfl, Below.refl _ _⟩
end Go.Proofs.YtjababmmcejgdaaGreatDoor
