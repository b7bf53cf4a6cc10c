/- Walks of package cond: what a word of letters, digits and _ is; a bracket's or operator's length. Walks of package cond: a bracket's or operator's length; a text; the word that begins at a place. The rows of package cond's walks: the words that it lists, the sentinels that it tells. Runners in memory. Package flow: the first token that is ready; its step. The sentinels that the rows of package token lay. -/
import Derived.Test.YtkffnfgdmcebdaaGreatDoorYJoint13
import Derived.Test.YtkffnfgdmcebdaaGreatDoorYJoint22
import Derived.Test.YtkffnfgdmcebdaaGreatDoorYJoint1
import Derived.Lib.LaidTab
import Derived.Test.YtkffnfgdmcebdaaGreatDoorZnY
namespace Go.Proofs.YtkffnfgdmcebdaaGreatDoor
open Go.RowKit

theorem ret_nat {k : IntKind} {a b : Nat} (h : a = b) : Ending.returned (.int k (a : Int)) = .returned (.int k (b : Int)) := by rw [h]
theorem Co.kind_mark {t : List UInt8} (h : t = [111, 114] ∨ t = [97, 110, 100] ∨ t = [110, 111, 116]) : Co.kindOf t = 6 := if_pos h
section
variable {t : List UInt8}
theorem Co.kind_num (h : ¬ (t = [111, 114] ∨ t = [97, 110, 100] ∨ t = [110, 111, 116])) (h2 : ¬ (t = [116, 114, 117, 101] ∨ t = [102, 97, 108, 115, 101])) (h3 : t.length ≤ 9) (h4 : t.all Co.digit = true) : Co.kindOf t = 2 := by
  unfold Co.kindOf; rw [if_neg h, if_neg h2, if_pos ⟨h3, h4⟩]
theorem Co.kind_rest (h : ¬ (t = [111, 114] ∨ t = [97, 110, 100] ∨ t = [110, 111, 116])) (h2 : ¬ (t = [116, 114, 117, 101] ∨ t = [102, 97, 108, 115, 101])) (h3 : ¬ (t.length ≤ 9 ∧ t.all Co.digit = true)) :
    Co.kindOf t = if Co.digit t[0]! = false ∧ t[0]! ≠ 95 ∧ Vr.name t = true then 5 else 0 := by
  unfold Co.kindOf; rw [if_neg h, if_neg h2, if_neg h3]
end

set_option maxHeartbeats 1600000 in
theorem ckind_any (s : ByteArray) (w : World) (h0 : 0 < s.size) (h80 : s.size ≤ 80) :
    Calls Tryz.prog 167 #[.string s] w fun e w' => e = .returned (.int .i64 (Co.kindOf s.data.toList : Int)) ∧ Below w.heap.size w w' := by
  by_cases m1 : s.data.toList = [111, 114]
  · obtain rfl := Co.of_lit m1
    clear m1 h0 h80
    go_enter Tryz.func167, Tryz.ntmps167
    go_wp2
    go_ret
    exact ⟨rfl, Below.refl _ _⟩
  by_cases m2 : s.data.toList = [97, 110, 100]
  · obtain rfl := Co.of_lit m2
    clear m1 m2 h0 h80
    go_enter Tryz.func167, Tryz.ntmps167
    go_wp2
    go_ret
    exact ⟨rfl, Below.refl _ _⟩
  by_cases m3 : s.data.toList = [110, 111, 116]
  · obtain rfl := Co.of_lit m3
    clear m1 m2 m3 h0 h80
    go_enter Tryz.func167, Tryz.ntmps167
    go_wp2
    go_ret
    exact ⟨rfl, Below.refl _ _⟩
  by_cases m4 : s.data.toList = [116, 114, 117, 101]
  · obtain rfl := Co.of_lit m4
    clear m1 m2 m3 m4 h0 h80
    go_enter Tryz.func167, Tryz.ntmps167
    go_wp2
    go_ret
    exact ⟨rfl, Below.refl _ _⟩
  by_cases m5 : s.data.toList = [102, 97, 108, 115, 101]
  · obtain rfl := Co.of_lit m5
    clear m1 m2 m3 m4 m5 h0 h80
    go_enter Tryz.func167, Tryz.ntmps167
    go_wp2
    go_ret
    exact ⟨rfl, Below.refl _ _⟩
  have M1 : ¬ (s.data.toList = [111, 114] ∨ s.data.toList = [97, 110, 100] ∨ s.data.toList = [110, 111, 116]) := by simp [m1, m2, m3]
  have M2 : ¬ (s.data.toList = [116, 114, 117, 101] ∨ s.data.toList = [102, 97, 108, 115, 101]) := by simp [m4, m5]
  have b1 : (s.toList == [111, 114]) = false := by rw [Co.eq_lit]; simpa using m1
  have b2 : (s.toList == [97, 110, 100]) = false := by rw [Co.eq_lit]; simpa using m2
  have b3 : (s.toList == [110, 111, 116]) = false := by rw [Co.eq_lit]; simpa using m3
  have b4 : (s.toList == [116, 114, 117, 101]) = false := by rw [Co.eq_lit]; simpa using m4
  have b5 : (s.toList == [102, 97, 108, 115, 101]) = false := by rw [Co.eq_lit]; simpa using m5
  have K2 := Lib.hid (@Co.kind_num s.data.toList M1 M2)
  have K3 := Lib.hid (@Co.kind_rest s.data.toList M1 M2)
  clear m1 m2 m3 m4 m5 M1 M2
  have hl : s.data.toList.length = s.size := by simp
  have hs0 : s.data.toList[0]! = s[0] := by
    rw [getElem!_pos s.data.toList 0 (by omega)]
    simp [ByteArray.getElem_eq_getElem_data]
  have hD := fun W => cdigit_any s[0] W
  have hN := fun W => name_any s W (by omega)
  have hT : ∀ W, Calls Tryz.prog 176 #[.string s, .string ⟨#[48, 49, 50, 51, 52, 53, 54, 55, 56, 57]⟩] W fun e w' => e = .returned (.string ⟨(Lib.trimS s.data.toList [48, 49, 50, 51, 52, 53, 54, 55, 56, 57]).toArray⟩) ∧ Below W.heap.size W w' :=
    fun W => Any.strings_Trim_laid shLays160 (by kernel_rfl) s ⟨#[48, 49, 50, 51, 52, 53, 54, 55, 56, 57]⟩ W (by omega) (by decide) (ascii_of_all (by decide))
  obtain ⟨tr, htr⟩ : ∃ tr : ByteArray, tr = ⟨(Lib.trimS s.data.toList [48, 49, 50, 51, 52, 53, 54, 55, 56, 57]).toArray⟩ := ⟨_, rfl⟩
  rw [← htr] at hT
  have hte : (tr.toList == []) = s.data.toList.all Co.digit := by
    rw [Co.eq_lit, htr, Bool.eq_iff_iff]
    simpa using Co.trim_digits s.data.toList
  have HD := Lib.hid hD
  have HN := Lib.hid hN
  have HT := Lib.hid hT
  have h0' : (0 : Int) < (s.size : Int) := by omega
  clear htr hD hN hT
  have HL := Lib.hid hl
  have HS := Lib.hid hs0
  clear hl hs0
  have hdc : Co.digit s[0] = true ∨ Co.digit s[0] = false := by cases Co.digit s[0] <;> simp
  have h95 : s[0] = 95 ∨ ¬ (s[0].toNat : Int) = 95 := by
    by_cases e : s[0] = 95
    · exact .inl e
    · exact .inr (fun h => e (UInt8.toNat_inj.1 (by simp; omega)))
  have hnm : Vr.name s.data.toList = true ∨ Vr.name s.data.toList = false := by cases Vr.name s.data.toList <;> simp
  by_cases h9 : s.size ≤ 9
  · have h9' : (s.size : Int) ≤ 9 := by omega
    cases hall : s.data.toList.all Co.digit with
    | true =>
      rw [hall] at hte
      have HA := Lib.hid (K2.out (by rw [HL.out]; exact h9) hall)
      clear hall h9 hdc h95 hnm
      go_enter Tryz.func167, Tryz.ntmps167
      go_wp2_with (go_at_call 176; refine (HT.out _).mono ?_; rintro e w' ⟨rfl, hb⟩)
      go_ret
      rw [HA.out]
      exact ⟨rfl, hb⟩
    | false =>
      rw [hall] at hte
      have HA := Lib.hid (K3.out (by rw [hall]; simp))
      clear hall h9
      rcases hdc with hd | hd
      · have HA2 : Hid (Co.kindOf s.data.toList = 0) := by
          have := HA.out
          rw [HS.out, hd] at this
          exact this
        rw [hd] at HD
        clear hd h95 hnm HA
        go_enter Tryz.func167, Tryz.ntmps167
        go_wp2_with (first | (go_at_call 176; refine (HT.out _).mono ?_; rintro e w' ⟨rfl, hb⟩) | (go_at_call 175; refine (HD.out _).mono ?_; rintro e w' ⟨rfl, rfl⟩) | (go_at_call 177; refine (HN.out _).mono ?_; rintro e w' ⟨rfl, rfl⟩))
        go_ret
        rw [HA2.out]
        exact ⟨rfl, hb⟩
      · rcases h95 with h95 | h95
        · have HA2 : Hid (Co.kindOf s.data.toList = 0) := by
            have h := HA.out
            rw [HS.out, h95, if_neg (by simp)] at h
            exact h
          rw [hd] at HD
          have hx : ((s[0].toNat : Int) != 95) = false := by rw [h95]; rfl
          clear hd hnm HA h95
          go_enter Tryz.func167, Tryz.ntmps167
          go_wp2_with (first | (go_at_call 176; refine (HT.out _).mono ?_; rintro e w' ⟨rfl, hb⟩) | (go_at_call 175; refine (HD.out _).mono ?_; rintro e w' ⟨rfl, rfl⟩) | (go_at_call 177; refine (HN.out _).mono ?_; rintro e w' ⟨rfl, rfl⟩))
          go_ret
          rw [HA2.out]
          exact ⟨rfl, hb⟩
        · have n95 : s[0] ≠ 95 := fun e => h95 (by rw [e]; rfl)
          rcases hnm with hnm | hnm
          · have HA2 : Hid (Co.kindOf s.data.toList = 5) := by
              have h := HA.out
              rw [HS.out, if_pos ⟨hd, n95, hnm⟩] at h
              exact h
            rw [hd] at HD
            rw [hnm] at HN
            clear hd hnm HA n95
            go_enter Tryz.func167, Tryz.ntmps167
            go_wp2_with (first | (go_at_call 176; refine (HT.out _).mono ?_; rintro e w' ⟨rfl, hb⟩) | (go_at_call 175; refine (HD.out _).mono ?_; rintro e w' ⟨rfl, rfl⟩) | (go_at_call 177; refine (HN.out _).mono ?_; rintro e w' ⟨rfl, rfl⟩))
            go_ret
            rw [HA2.out]
            exact ⟨rfl, hb⟩
          · have HA2 : Hid (Co.kindOf s.data.toList = 0) := by
              have h := HA.out
              rw [hnm, if_neg (by simp)] at h
              exact h
            rw [hd] at HD
            rw [hnm] at HN
            clear hd hnm HA n95
            go_enter Tryz.func167, Tryz.ntmps167
            go_wp2_with (first | (go_at_call 176; refine (HT.out _).mono ?_; rintro e w' ⟨rfl, hb⟩) | (go_at_call 175; refine (HD.out _).mono ?_; rintro e w' ⟨rfl, rfl⟩) | (go_at_call 177; refine (HN.out _).mono ?_; rintro e w' ⟨rfl, rfl⟩))
            go_ret
            rw [HA2.out]
            exact ⟨rfl, hb⟩
  · have h9' : 9 < (s.size : Int) := by omega
    have HA := Lib.hid (K3.out (by rw [HL.out]; simp [h9]))
    clear h9
    rcases hdc with hd | hd
    · have HA2 : Hid (Co.kindOf s.data.toList = 0) := by
        have := HA.out
        rw [HS.out, hd] at this
        exact this
      rw [hd] at HD
      clear hd h95 hnm HA
      go_enter Tryz.func167, Tryz.ntmps167
      go_wp2_with (first | (go_at_call 176; refine (HT.out _).mono ?_; rintro e w' ⟨rfl, hb⟩) | (go_at_call 175; refine (HD.out _).mono ?_; rintro e w' ⟨rfl, rfl⟩) | (go_at_call 177; refine (HN.out _).mono ?_; rintro e w' ⟨rfl, rfl⟩))
      go_ret
      rw [HA2.out]
      exact ⟨rfl, Below.refl _ _⟩
    · rcases h95 with h95 | h95
      · have HA2 : Hid (Co.kindOf s.data.toList = 0) := by
          have h := HA.out
          rw [HS.out, h95, if_neg (by simp)] at h
          exact h
        rw [hd] at HD
        have hx : ((s[0].toNat : Int) != 95) = false := by rw [h95]; rfl
        clear hd hnm HA h95
        go_enter Tryz.func167, Tryz.ntmps167
        go_wp2_with (first | (go_at_call 176; refine (HT.out _).mono ?_; rintro e w' ⟨rfl, hb⟩) | (go_at_call 175; refine (HD.out _).mono ?_; rintro e w' ⟨rfl, rfl⟩) | (go_at_call 177; refine (HN.out _).mono ?_; rintro e w' ⟨rfl, rfl⟩))
        go_ret
        rw [HA2.out]
        exact ⟨rfl, Below.refl _ _⟩
      · have n95 : s[0] ≠ 95 := fun e => h95 (by rw [e]; rfl)
        rcases hnm with hnm | hnm
        · have HA2 : Hid (Co.kindOf s.data.toList = 5) := by
            have h := HA.out
            rw [HS.out, if_pos ⟨hd, n95, hnm⟩] at h
            exact h
          rw [hd] at HD
          rw [hnm] at HN
          clear hd hnm HA n95
          go_enter Tryz.func167, Tryz.ntmps167
          go_wp2_with (first | (go_at_call 176; refine (HT.out _).mono ?_; rintro e w' ⟨rfl, hb⟩) | (go_at_call 175; refine (HD.out _).mono ?_; rintro e w' ⟨rfl, rfl⟩) | (go_at_call 177; refine (HN.out _).mono ?_; rintro e w' ⟨rfl, rfl⟩))
          go_ret
          rw [HA2.out]
          exact ⟨rfl, Below.refl _ _⟩
        · have HA2 : Hid (Co.kindOf s.data.toList = 0) := by
            have h := HA.out
            rw [hnm, if_neg (by simp)] at h
            exact h
          rw [hd] at HD
          rw [hnm] at HN
          clear hd hnm HA n95
          go_enter Tryz.func167, Tryz.ntmps167
          go_wp2_with (first | (go_at_call 176; refine (HT.out _).mono ?_; rintro e w' ⟨rfl, hb⟩) | (go_at_call 175; refine (HD.out _).mono ?_; rintro e w' ⟨rfl, rfl⟩) | (go_at_call 177; refine (HN.out _).mono ?_; rintro e w' ⟨rfl, rfl⟩))
          go_ret
          rw [HA2.out]
          exact ⟨rfl, Below.refl _ _⟩
end Go.Proofs.YtkffnfgdmcebdaaGreatDoor
namespace Go.Proofs.YtkffnfgdmcebdaaGreatDoor
open Go.RowKit

theorem Co.index_has : ∀ (m : List UInt8) (x : UInt8), (m.contains x = true → 0 ≤ Lib.indexByte m x) ∧ (m.contains x = false → Lib.indexByte m x = -1)
  | [], _ => ⟨by simp, fun _ => rfl⟩
  | b :: m, x => by
    have ih := Co.index_has m x
    unfold Lib.indexByte
    by_cases e : b = x
    · subst e; simp
    · have e1 : (b == x) = false := by simpa using e
      have e2 : (x == b) = false := by simpa using fun h => e h.symm
      rw [List.contains_cons, e1, e2, if_neg (by simp), Bool.false_or]
      refine ⟨fun h => ?_, fun h => ?_⟩
      · have h1 := ih.1 h
        rw [if_neg (by simp; omega)]
        omega
      · rw [ih.2 h]; rfl
theorem at_list (s : ByteArray) (k : Nat) (h : k < s.size) : s.data.toList[k]! = s[k] := by
  rw [getElem!_pos s.data.toList k (by simpa using h)]
  simp [ByteArray.getElem_eq_getElem_data]
theorem index_byte (s : ByteArray) (m : List UInt8) (x : UInt8) (hs : s.data.toList = m) (w : World) :
    Calls Tryz.prog 178 #[.string s, .int .u8 (x.toNat : Int)] w fun e w' => e = .returned (.int .i64 (Lib.indexByte m x)) ∧ w = w' := by
  have h : Calls Tryz.prog 178 #[.string s, .int .u8 (x.toNat : Int)] w fun e w' => e = .returned (.int .i64 (Lib.indexByte s.data.toList ((x.toNat : Int).toNat.toUInt8))) ∧ w' = w :=
    Any.strings_IndexByte shLays137 s (x.toNat : Int) w
  have hx : (x.toNat : Int).toNat.toUInt8 = x := by simp
  rw [hx, hs] at h
  refine h.mono ?_
  rintro e w' ⟨h1, h2⟩
  exact ⟨h1, h2.symm⟩

set_option maxHeartbeats 1600000 in
theorem cmark_any (s : ByteArray) (w : World) (h0 : 0 < s.size) (hsz : s.size ≤ 80) :
    Calls Tryz.prog 169 #[.string s] w fun e w' => e = .returned (.int .i64 (Co.markLen s.data.toList : Int)) ∧ w = w' := by
  have hl : s.data.toList.length = s.size := by simp
  have hF := fun W => index_byte ⟨#[61, 33, 60, 62]⟩ [61, 33, 60, 62] s[0] rfl W
  have hN := fun W => index_byte ⟨#[40, 41, 60, 62, 43, 45, 42, 47, 37]⟩ Co.marks s[0] rfl W
  have hf := Co.index_has [61, 33, 60, 62] s[0]
  have hn := Co.index_has Co.marks s[0]
  have hm : Co.markLen s.data.toList = if 1 < s.data.toList.length ∧ s.data.toList[1]! = 61 ∧ ([61, 33, 60, 62] : List UInt8).contains (s.data.toList[0]!) = true then 2
    else if Co.marks.contains (s.data.toList[0]!) = true then 1 else 0 := rfl
  rw [at_list s 0 h0, hl] at hm
  have h0' : (0 : Int) < (s.size : Int) := by omega
  have hz : (Co.marks.contains s[0] = true ∧ 0 ≤ Lib.indexByte Co.marks s[0]) ∨ (Co.marks.contains s[0] = false ∧ Lib.indexByte Co.marks s[0] < 0) := by
    cases h : Co.marks.contains s[0] with
    | true => exact .inl ⟨rfl, hn.1 h⟩
    | false => exact .inr ⟨rfl, by rw [hn.2 h]; omega⟩
  have hy : (([61, 33, 60, 62] : List UInt8).contains s[0] = true ∧ 0 ≤ Lib.indexByte [61, 33, 60, 62] s[0]) ∨ (([61, 33, 60, 62] : List UInt8).contains s[0] = false ∧ Lib.indexByte [61, 33, 60, 62] s[0] < 0) := by
    cases h : ([61, 33, 60, 62] : List UInt8).contains s[0] with
    | true => exact .inl ⟨rfl, hf.1 h⟩
    | false => exact .inr ⟨rfl, by rw [hf.2 h]; omega⟩
  clear hf hn hl
  generalize Lib.indexByte Co.marks s[0] = z9 at *
  generalize Lib.indexByte [61, 33, 60, 62] s[0] = z4 at *
  generalize Co.marks.contains s[0] = c9 at *
  generalize ([61, 33, 60, 62] : List UInt8).contains s[0] = c4 at *
  have HF := Lib.hid hF
  have HN := Lib.hid hN
  clear hF hN
  by_cases h1 : 1 < s.size
  · rw [at_list s 1 h1] at hm
    have h1' : (1 : Int) < (s.size : Int) := by omega
    have he : s[1] = 61 ↔ (s[1].toNat : Int) = 61 := ⟨fun h => by rw [h]; rfl, fun h => UInt8.toNat_inj.1 (by simp; omega)⟩
    simp only [he] at hm
    have HM := Lib.hid hm
    clear hm he
    by_cases e61 : (s[1].toNat : Int) = 61
    · rcases hy with ⟨rfl, hy⟩ | ⟨rfl, hy⟩
      · have HR : Hid (Co.markLen s.data.toList = 2) := HM.out.trans (if_pos ⟨h1, e61, rfl⟩)
        clear HM hz HN
        go_enter Tryz.func169, Tryz.ntmps169
        go_wp2_with fail
        refine (HF.out _).mono ?_
        rintro e w' ⟨rfl, rfl⟩
        go_wp2
        go_ret
        rw [HR.out]
        exact ⟨rfl, rfl⟩
      · have HM : Hid (Co.markLen s.data.toList = if c9 = true then 1 else 0) := HM.out.trans (if_neg (by simp))
        rcases hz with ⟨rfl, hz⟩ | ⟨rfl, hz⟩
        all_goals
          go_enter Tryz.func169, Tryz.ntmps169
          go_wp2_with fail
          refine (HF.out _).mono ?_
          rintro e w' ⟨rfl, rfl⟩
          go_wp2_with fail
          refine (HN.out _).mono ?_
          rintro e w' ⟨rfl, rfl⟩
          go_wp2
          go_ret
          rw [HM.out]
          exact ⟨rfl, rfl⟩
    · have HM : Hid (Co.markLen s.data.toList = if c9 = true then 1 else 0) := HM.out.trans (if_neg (fun h => e61 h.2.1))
      clear hy HF
      rcases hz with ⟨rfl, hz⟩ | ⟨rfl, hz⟩
      all_goals
        go_enter Tryz.func169, Tryz.ntmps169
        go_wp2_with fail
        refine (HN.out _).mono ?_
        rintro e w' ⟨rfl, rfl⟩
        go_wp2
        go_ret
        rw [HM.out]
        exact ⟨rfl, rfl⟩
  · rw [if_neg (by simp [h1])] at hm
    have h1' : ¬ (1 : Int) < (s.size : Int) := by omega
    clear h1 hsz
    have HM := Lib.hid hm
    clear hm hy HF
    rcases hz with ⟨rfl, hz⟩ | ⟨rfl, hz⟩
    all_goals
      go_enter Tryz.func169, Tryz.ntmps169
      go_wp2_with fail
      refine (HN.out _).mono ?_
      rintro e w' ⟨rfl, rfl⟩
      go_wp2
      go_ret
      rw [HM.out]
      exact ⟨rfl, rfl⟩
end Go.Proofs.YtkffnfgdmcebdaaGreatDoor
namespace Go.Proofs.YtkffnfgdmcebdaaGreatDoor
open Go.RowKit

/-- An array of texts that reads as a list holds the list's texts. -/
theorem cells_of_texts {H : Type} {enc : TypeId × Value → H} {P : Program} {w : World} {base : Nat} {sp : Nat → Bool} {held : Bool} {fuel : Nat} {t e : TypeId} {n : Nat} {cs : List Value} {ss : List (List UInt8)} {p : List MemPlace}
    (ht : P.underlying t = some (.array n e)) (he : P.underlying e = some .string) (hce : P.cellsOf e = 1) (hct : P.cellsOf t = n)
    (h : DataW.trod enc P w base sp held fuel t cs = some (.agg (ss.map fun s => .lit (.string s)), p)) : cs = ss.map fun s => Value.string ⟨s.toArray⟩ := by
  cases fuel with
  | zero => simp [DataW.trod] at h
  | succ fuel =>
    simp only [DataW.trod, ht, hce, hct, Nat.mul_one] at h
    split at h
    · rename_i hl
      obtain ⟨xs, hm, hx⟩ := Option.map_eq_some_iff.1 h
      have hxs : xs.map (·.1) = ss.map fun s => (DataW.lit (.string s) : DataW H) := by
        have := congrArg Prod.fst hx
        simpa using this
      have hxl : xs.length = n := by simpa using Lib.mapM_length hm
      have hzl : ss.length = n := by
        have := congrArg List.length hxs
        simp at this
        omega
      apply List.ext_getElem?
      intro i
      by_cases hi : i < n
      · obtain ⟨b, hb, hf⟩ := Lib.mapM_at hm i i (by simp [hi])
        obtain ⟨z, hc, rfl, _⟩ := DataW.trod_string he hf
        have h1 : cs[i]? = some (.string z) := by
          have := congrArg (·[0]?) hc
          simpa [List.getElem?_take, List.getElem?_drop] using this
        have h2 : (xs.map (·.1))[i]? = some (DataW.lit (.string z.data.toList) : DataW H) := by simp [hb]
        rw [hxs] at h2
        simp only [List.getElem?_map, Option.map_eq_some_iff, DataW.lit.injEq, Lit.string.injEq] at h2
        obtain ⟨z', hz', rfl⟩ := h2
        simp [h1, hz']
      · rw [List.getElem?_eq_none (by omega), List.getElem?_eq_none (by simp; omega)]
    · cases h

/-- The words of package cond lie in its table. -/
def CoWords (W : World) : Prop := ∀ i : Nat, i < 18 → W.cell? ⟨16, i, none⟩ = some (.string ⟨(Co.words[i]!).toArray⟩)
theorem tab_cond_words {W : World} {rest : List (String × DataW Unit)} (h : laidMet Tryz.prog (("leasehold/cond.words", Rows.laid_leasehold_cond_words) :: rest) W) : CoWords W := by
  have hg : Tryz.prog.globalNamed "leasehold/cond.words" = some 16 := by kernel_rfl
  have hty : (Tryz.prog.globals[16]?).map (·.type) = some 216 := by kernel_rfl
  obtain ⟨ps, ⟨g', t', cs, fuel, p, q, hg', ht', hvar, hd, _, _⟩, _⟩ := h
  obtain rfl := Option.some.inj (hg.symm.trans hg')
  obtain rfl := Option.some.inj (hty.symm.trans ht')
  have hcs := cells_of_texts (ss := Co.words) Tryz.underlying216 Tryz.underlying9 (by kernel_rfl) (by kernel_rfl) hd
  intro i hi
  have hv : W.var? Tryz.prog "leasehold/cond.words" = some (Co.words.map fun s => Value.string ⟨s.toArray⟩).toArray := by rw [hvar, ← hcs]
  have := World.var?_cell hg hv i
  have hl : Co.words.length = 18 := rfl
  rw [this]
  simp [hl, hi]
section
variable {W : World} {ads : List Addr}
def pos6 (c : Int) : Nat := if c = 105 then 0 else if c = 108 then 1 else if c = 110 then 2 else if c = 111 then 3 else if c = 112 then 4 else if c = 113 then 5 else 100
theorem coErrs6 (hE : Errs W 254 [6, 8, 10, 11, 12, 13] ads) (hW : CoWords W) : CoErrs W (errMap pos6 ads) where
  e105 := errIn_of hE 105 0 _ rfl rfl
  e111 := errIn_of hE 111 3 _ rfl rfl
  e112 := errIn_of hE 112 4 _ rfl rfl
  words := hW
theorem coErrsE6 (hE : Errs W 254 [6, 8, 10, 11, 12, 13] ads) (hW : CoWords W) : CoErrsE W (errMap pos6 ads) where
  toCoErrs := coErrs6 hE hW
  e108 := errIn_of hE 108 1 _ rfl rfl
  e110 := errIn_of hE 110 2 _ rfl rfl
  e113 := errIn_of hE 113 5 _ rfl rfl
theorem coErrs16 (hE : Errs W 254 sents ads) (hW : CoWords W) : CoErrs W (errMap pos16 ads) where
  e105 := errIn_of hE 105 4 _ rfl rfl
  e111 := errIn_of hE 111 10 _ rfl rfl
  e112 := errIn_of hE 112 11 _ rfl rfl
  words := hW
theorem coErrsE16 (hE : Errs W 254 sents ads) (hW : CoWords W) : CoErrsE W (errMap pos16 ads) where
  toCoErrs := coErrs16 hE hW
  e108 := errIn_of hE 108 7 _ rfl rfl
  e110 := errIn_of hE 110 9 _ rfl rfl
  e113 := errIn_of hE 113 12 _ rfl rfl
end
end Go.Proofs.YtkffnfgdmcebdaaGreatDoor
namespace Go.Proofs.YtkffnfgdmcebdaaGreatDoor
open Go.RowKit

section
variable {α : Type} {κ : Cs α} {w w' : World} {B n : Nat} {A : Option Addr} {l : List α} {row : Option Nat}
theorem KRow.kept (h : KRow κ w B A n l) (hB : B ≤ w.heap.size) (hg : w.grownBy w' row) (hne : ∀ a, A = some a → row ≠ some a.block) : KRow κ w' B A n l := by
  refine ⟨h.1, fun hn => ?_⟩
  obtain ⟨b, off, rfl, hb, hc⟩ := h.2 hn
  refine ⟨b, off, rfl, hb, fun k v hk => ?_⟩
  have hbl := hg.block b (Nat.lt_of_lt_of_le hb hB) (fun e => hne _ rfl e.symm)
  exact (World.cell?_of_block (a := ⟨b, off + k, none⟩) hbl).trans (hc k v hk)
end
theorem below_grown {w0 w w' : World} {q : Nat} (h : Below w0.heap.size w0 w) (hg : w.grownBy w' (some q)) (hq : w0.heap.size ≤ q) : Below w0.heap.size w0 w' :=
  ⟨hg.os.trans h.os, hg.tape.trans h.tape, hg.output.trans h.output, Nat.le_trans h.size hg.size, fun b hb => (hg.block b (Nat.lt_of_lt_of_le hb h.size) (fun e => by have := Option.some.inj e; omega)).trans (h.block b hb)⟩
theorem grown_below {w w' : World} {q : Nat} (hb : Below w.heap.size w w') : w.grownBy w' (some q) :=
  ⟨hb.os, hb.tape, hb.output, hb.size, fun k hk _ => hb.block k hk⟩
namespace Pr
section
variable {w w' : World} {B B' q : Nat} {x : BdV} {b : Bd} {row : Option Nat}
/-- None of a board's rows lies in that block. -/
def BdV.off (x : BdV) (q : Nat) : Prop := ∀ a, (x.A = some a ∨ x.F = some a ∨ x.V = some a ∨ x.T = some a) → a.block ≠ q
theorem BdIn.kept (h : BdIn w B x b) (hB : B ≤ w.heap.size) (hg : w.grownBy w' (some q)) (hn : x.off q) : BdIn w' B x b :=
  ⟨h.s, h.k, h.nodes.kept hB hg (fun a ha e => hn a (.inl ha) (Option.some.inj e).symm), h.flows.kept hB hg (fun a ha e => hn a (.inr (.inl ha)) (Option.some.inj e).symm),
    h.vars.kept hB hg (fun a ha e => hn a (.inr (.inr (.inl ha))) (Option.some.inj e).symm), h.toks.kept hB hg (fun a ha e => hn a (.inr (.inr (.inr ha))) (Option.some.inj e).symm), h.nA, h.nF, h.nV, h.nT⟩
theorem BdOwn.off_of (h : BdOwn w B x b) (hq : q < B) : x.off q := by
  rintro a (ha | ha | ha | ha)
  · have := (h.nodes.block ha).1; omega
  · have := (h.flows.block ha).1; omega
  · have := (h.vars.block ha).1; omega
  · have := (h.toks.block ha).1; omega
/-- The eight cells of a runner. -/
def rnL (x : BdV) (mv : Nat) (fl : ByteArray) : List Value := [.string x.s, .slice x.A x.n x.c, .slice x.F x.m x.d, .slice x.V x.nv x.cv, .slice x.T x.nt x.ct, .int .i64 x.k, .int .i64 (mv : Int), .string fl]
/-- A runner in block q. -/
structure RnC (w : World) (q : Nat) (x : BdV) (r : Rn) : Prop where
  cel : Cel w q (rnL x r.moves r.failed)
  inn : BdIn w w.heap.size x r.b
  off : x.off q
theorem RnC.below {r : Rn} (h : RnC w q x r) (hb : Below w.heap.size w w') : RnC w' q x r := ⟨h.cel.below hb (Nat.le_refl _), h.inn.on hb, h.off⟩
theorem RnC.kept {r : Rn} (h : RnC w q x r) {p : Nat} (hg : w.grownBy w' (some p)) (hp : p ≠ q) (hx : x.off p) : RnC w' q x r :=
  ⟨h.cel.kept hg (fun e => hp (Option.some.inj e)), (h.inn.kept (Nat.le_refl _) hg hx).mono hg.size, h.off⟩
theorem eight_facts {w : World} {z : Nat} {a0 a1 a2 a3 a4 a5 a6 a7 : Value} (h : Cel w z [a0, a1, a2, a3, a4, a5, a6, a7]) :
    (w.cell? ⟨z, 0, none⟩ = some a0 ∧ w.cell? ⟨z, 1, none⟩ = some a1 ∧ w.cell? ⟨z, 2, none⟩ = some a2 ∧ w.cell? ⟨z, 3, none⟩ = some a3 ∧ w.cell? ⟨z, 4, none⟩ = some a4 ∧ w.cell? ⟨z, 5, none⟩ = some a5 ∧ w.cell? ⟨z, 6, none⟩ = some a6 ∧ w.cell? ⟨z, 7, none⟩ = some a7) ∧
    (w.frozen? ⟨z, 0, none⟩ = false ∧ w.frozen? ⟨z, 1, none⟩ = false ∧ w.frozen? ⟨z, 2, none⟩ = false ∧ w.frozen? ⟨z, 3, none⟩ = false ∧ w.frozen? ⟨z, 4, none⟩ = false ∧ w.frozen? ⟨z, 5, none⟩ = false ∧ w.frozen? ⟨z, 6, none⟩ = false ∧ w.frozen? ⟨z, 7, none⟩ = false) :=
  ⟨⟨h.cell 0 _ rfl, h.cell 1 _ rfl, h.cell 2 _ rfl, h.cell 3 _ rfl, h.cell 4 _ rfl, h.cell 5 _ rfl, h.cell 6 _ rfl, h.cell 7 _ rfl⟩, h.froz 0 (by simp), h.froz 1 (by simp), h.froz 2 (by simp), h.froz 3 (by simp), h.froz 4 (by simp), h.froz 5 (by simp), h.froz 6 (by simp), h.froz 7 (by simp)⟩
/-- What Holds answers of a condition, wherever the variables lie. -/
def CondAll (E : Int → Option Addr) (w0 : World) (vars : List Vr.V) (c : ByteArray) : Prop :=
  c.size = 0 ∨ ∀ (w : World) (V : Option Addr) (nv cv : Nat), Below w0.heap.size w0 w → KRow Vκ w w.heap.size V nv vars → CondOk E w V nv cv vars c
/-- What a runner's walk stands on. -/
structure Env (E : Int → Option Addr) (w0 : World) (p : P) (vars : List Vr.V) : Prop where
  e116 : ErrIn w0 E 116 2
  e104 : ErrIn w0 E 104 1
  conds : ∀ f : Nat, CondAll E w0 vars p.flows[f]!.cond
theorem Env.ok {E : Int → Option Addr} {w0 : World} {r : Rn} (h : Env E w0 r.b.p r.b.vars) (hb : Below w0.heap.size w0 w) (hi : BdIn w w.heap.size x r.b) (f : Nat) : CondOk E w x.V x.nv x.cv r.b.vars r.b.p.flows[f]!.cond := by
  rcases h.conds f with h1 | h1
  · exact .inl h1
  · exact h1 w x.V x.nv x.cv hb hi.vars
end
end Pr
end Go.Proofs.YtkffnfgdmcebdaaGreatDoor
namespace Go.Proofs.YtkffnfgdmcebdaaGreatDoor
open Go.RowKit

namespace Pr
set_option maxHeartbeats 3200000 in
set_option maxRecDepth 10000 in
theorem frdy_any (q : Nat) (x : BdV) (r : Rn) (w : World) (h : RnC w q x r) (hf : r.b.Few) (ha : Asc r.b.toks) :
    Calls Tryz.prog 67 #[.pointer (some ⟨q, 0, none⟩)] w fun e w' => (∃ k : Int, e = .returned (.int .i64 k) ∧ ((k = -1 ∧ Rest r.b) ∨ ∃ j : Nat, k = j ∧ Fst r.b j)) ∧ Below w.heap.size w w' := by
  obtain ⟨b, mv, fl⟩ := r
  dsimp only at *
  have et := h.inn.ht
  have HT := Lib.hid hf.t
  have HRY := Lib.hid (fun (k : Nat) (W : World) (hb : Below w.heap.size w W) => ready_any (k : Int) x b W (h.inn.on hb) hf ha)
  have HC := Lib.hid h.cel
  clear h hf ha
  obtain ⟨s, A, n, c, F, m, d, V, nv, cv, T, nt, ct, k⟩ := x
  unfold BdV.val at HRY
  dsimp only [rnL] at *
  subst et
  obtain ⟨⟨z0, z1, z2, z3, z4, z5, z6, z7⟩, _⟩ := eight_facts HC.out
  go_enter Tryz.func67, Tryz.ntmps67
  go_wp2
  clear z0 z1 z2 z3 z4 z5 z6 z7
  go_loopw [10] (fun i wr => ∃ j : Nat, j ≤ b.toks.length ∧ i = .int .i64 j ∧ Below w.heap.size w wr ∧ Hid (∀ k : Nat, k < j → ¬ Rdy b k)) (fun i _ => b.toks.length - (intOf i).toNat)
  case atStart => exact ⟨0, Nat.zero_le _, rfl, Below.refl _ _, Lib.hid fun k hk => absurd hk (Nat.not_lt_zero k)⟩
  case round =>
    obtain ⟨j, hj, rfl, hbr, hall⟩ := hrel
    by_cases hlt : j < b.toks.length
    · have hI : (j : Int) < (b.toks.length : Int) := by omega
      have hwj : IntKind.i64.wrap ((j : Int) + 1) = (j : Int) + 1 := by have := HT.out; rw [IntKind.wrap_i64]; omega
      have HBR := Lib.hid hbr
      obtain ⟨⟨z0, z1, z2, z3, z4, z5, z6, z7⟩, _⟩ := eight_facts (HC.out.below hbr (Nat.le_refl _))
      have HRD := Lib.hid (HRY.out j wr hbr)
      clear hbr
      go_wp2_with (go_at_call 14; refine HRD.out.mono ?_; rintro e w1 ⟨⟨rr, rfl, hr⟩, hb1⟩; have HB1 := Lib.hid hb1; have HR := Lib.hid hr; clear hr hb1; cases rr)
      · go_roundw
        case measure => simp [intOf]; omega
        case rel =>
          exact ⟨j + 1, by omega, by go_num, HBR.out.trans (HB1.out.mono HBR.out.size), Lib.hid fun k hk => by
            by_cases e : k = j
            · subst e; exact fun h => by have := HR.out.2 h; cases this
            · exact hall.out k (by omega)⟩
      · go_ret
        exact ⟨⟨_, rfl, .inr ⟨j, rfl, HR.out.1 trivial, hall.out⟩⟩, HBR.out.trans (HB1.out.mono HBR.out.size)⟩
    · have hI : ¬ (j : Int) < (b.toks.length : Int) := by omega
      go_wp2
      go_ret
      exact ⟨⟨_, rfl, .inl ⟨rfl, fun k h => by have := h.lt; exact hall.out k (by omega) h⟩⟩, hbr⟩
end Pr
end Go.Proofs.YtkffnfgdmcebdaaGreatDoor
namespace Go.Proofs.YtkffnfgdmcebdaaGreatDoor
open Go.RowKit

namespace Pr
abbrev sents9 : List Nat := [1, 6, 0, 8, 10, 11, 12, 13, 2]
def pos9 (c : Int) : Nat := if c = 104 then 0 else if c = 105 then 1 else if c = 107 then 2 else if c = 108 then 3 else if c = 110 then 4 else if c = 111 then 5 else if c = 112 then 6 else if c = 113 then 7 else if c = 116 then 8 else 100
theorem stuck9 {W : World} {ads : List Addr} (hE : Errs W 254 sents9 ads) : ErrIn W (errMap pos9 ads) 116 2 := errIn_of hE 116 8 _ rfl rfl
theorem many9 {W : World} {ads : List Addr} (hE : Errs W 254 sents9 ads) : ErrIn W (errMap pos9 ads) 104 1 := errIn_of hE 104 0 _ rfl rfl
end Pr
end Go.Proofs.YtkffnfgdmcebdaaGreatDoor
