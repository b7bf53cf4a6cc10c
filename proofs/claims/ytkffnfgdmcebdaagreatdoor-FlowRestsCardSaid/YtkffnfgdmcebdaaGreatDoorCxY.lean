/- Walks of package cond: the word that begins at a place. -/
import Derived.Test.YtkffnfgdmcebdaaGreatDoorYJoint14
namespace Go.Proofs.YtkffnfgdmcebdaaGreatDoor
open Go.RowKit

section
variable {l : List UInt8} {k m : Nat}
theorem Co.wordAt_end : Co.wordAt l l.length = (1, l.length, l.length) := if_pos rfl
theorem Co.wordAt_word (hk : k < l.length) (h : Co.ofWord l[k]! = true) (hm : k ≤ m) (hml : m ≤ l.length) (ha : ∀ j, k ≤ j → j < m → Co.ofWord l[j]! = true) (hn : m = l.length ∨ Co.ofWord l[m]! = false) :
    Co.wordAt l k = (Co.kindOf ((l.drop k).take (m - k)), k, m) := by
  unfold Co.wordAt
  rw [if_neg (by omega), if_pos h, Co.ends_eq hm hml ha hn]
theorem Co.wordAt_text (hk : k < l.length) (h : Co.ofWord l[k]! = false) (h34 : l[k]! = 34) : Co.wordAt l k = Co.textAt l k := by
  unfold Co.wordAt
  rw [if_neg (by omega), if_neg (by rw [h]; simp), if_pos h34]
theorem Co.wordAt_mark (hk : k < l.length) (h : Co.ofWord l[k]! = false) (h34 : l[k]! ≠ 34) : Co.wordAt l k = if Co.markLen (l.drop k) = 0 then (0, k, k) else (6, k, k + Co.markLen (l.drop k)) := by
  unfold Co.wordAt
  rw [if_neg (by omega), if_neg (by rw [h]; simp), if_neg h34]
end
theorem Co.markLen_le (t : List UInt8) : Co.markLen t ≤ 2 := by
  unfold Co.markLen
  split
  · exact Nat.le_refl _
  · split <;> omega
theorem ext_list (s : ByteArray) (a b : Nat) : (s.extract a b).data.toList = (s.data.toList.drop a).take (b - a) := Lib.extract_data s a b
theorem ext_size (s : ByteArray) (a b : Nat) (h : a ≤ b) (hb : b ≤ s.size) : (s.extract a b).size = b - a := by
  rw [ByteArray.size_extract]
  omega

set_option maxHeartbeats 3200000 in
theorem cwordAt_any (s : ByteArray) (k : Nat) (w : World) (hk : k ≤ s.size) (hsz : s.size ≤ 80) :
    Calls Tryz.prog 153 #[.string s, .int .i64 (k : Int)] w fun e w' => e = .returned (wordV (Co.wordAt s.data.toList k)) ∧ Below w.heap.size w w' := by
  have hl : s.data.toList.length = s.size := by simp
  have HL := Lib.hid hl
  clear hl
  by_cases hlt : k < s.size
  · have hne : ((k : Int) == (s.size : Int)) = false := by rw [beq_eq_false_iff_ne]; omega
    have hat := at_list s k hlt
    have hcall := cword_any s[k]
    cases hq : Co.ofWord s[k] with
    | true =>
      rw [hq] at hcall
      have HW := Lib.hid (@Co.wordAt_word s.data.toList k · (by rw [HL.out]; exact hlt) (by rw [hat]; exact hq))
      clear hat
      have HC := Lib.hid hcall
      have HQ := Lib.hid hq
      clear hcall hq
      go_enter Tryz.func153, Tryz.ntmps153
      go_wp2_with fail
      refine (HC.out _).mono ?_
      rintro e w' ⟨rfl, rfl⟩
      go_wp2_with fail
      go_loop [5] (fun i => ∃ m : Nat, k ≤ m ∧ m ≤ s.size ∧ i = .int .i64 m ∧ Hid (∀ j, k ≤ j → j < m → Co.ofWord s.data.toList[j]! = true)) (fun i => s.size - (intOf i).toNat)
      case atStart => exact ⟨k, Nat.le_refl _, by omega, rfl, fun j h1 h2 => by omega⟩
      case round =>
        obtain ⟨m, hm1, hm, rfl, hall⟩ := hrel
        have FIN : ∀ hn : m = s.size ∨ Co.ofWord s.data.toList[m]! = false, Hid (Co.wordAt s.data.toList k = (Co.kindOf ((s.data.toList.drop k).take (m - k)), k, m)) := fun hn =>
          HW.out m hm1 (by rw [HL.out]; exact hm) hall.out (by rw [HL.out]; exact hn)
        by_cases hmlt : m < s.size
        · have hat := at_list s m hmlt
          have hcall := cword_any s[m]
          cases hq : Co.ofWord s[m] with
          | true =>
            rw [hq] at hcall
            have HC2 := Lib.hid hcall
            have HA : Hid (Co.ofWord s.data.toList[m]! = true) := by rw [hat]; exact hq
            clear hcall hq hat FIN
            go_wp2_with fail
            refine (HC2.out _).mono ?_
            rintro e w' ⟨rfl, rfl⟩
            go_wp2_with fail
            go_round
            case measure => simp [intOf]; omega
            case rel =>
              refine ⟨m + 1, by omega, by omega, by go_num, fun j hj hjm => ?_⟩
              by_cases e : j = m
              · subst e; exact HA.out
              · exact hall.out j hj (by omega)
          | false =>
            have HE := FIN (.inr (by rw [hat]; exact hq))
            have hkm : k < m := by
              rcases Nat.lt_or_ge k m with h | h
              · exact h
              · have hkm : k = m := by omega
                have h1 := HQ.out
                subst hkm
                rw [hq] at h1
                cases h1
            rw [hq] at hcall
            have HC2 := Lib.hid hcall
            have hes := ext_size s k m hm1 hm
            have hK := ckind_any (s.extract k m) (w.alloc (.cells #[.int .i64 0, .int .i64 0, .int .i64 0] 193)) (by omega) (by omega)
            rw [ext_list] at hK
            generalize Co.kindOf ((s.data.toList.drop k).take (m - k)) = kd at *
            clear hcall hq hat FIN hes
            have HK := Lib.hid hK
            clear hK
            go_wp2_with fail
            refine (HC2.out _).mono ?_
            rintro e w' ⟨rfl, rfl⟩
            go_wp2_with fail
            refine HK.out.mono ?_
            rintro e w2 ⟨rfl, hb2⟩
            have hbw : Below w.heap.size w w2 := ((Below.refl _ _).alloc (Nat.le_refl _) _).trans (hb2.mono (by simp))
            obtain ⟨cc, cf⟩ := bcell hb2
            go_wp2
            refine bodyPost_ret (v := .agg #[.int .i64 (kd : Int), .int .i64 (k : Int), .int .i64 (m : Int)]) (by simp [results, Tryz.results153, go_sem, cc]) rfl ⟨?_, ?_⟩
            · rw [HE.out]; rfl
            · exact ((hbw.setCell (Nat.le_refl _) _).setCell (Nat.le_refl _) _).setCell (Nat.le_refl _) _
        · obtain rfl : m = s.size := by omega
          have HE := FIN (.inl rfl)
          have hes := ext_size s k s.size hm1 hm
          have hK := ckind_any (s.extract k s.size) (w.alloc (.cells #[.int .i64 0, .int .i64 0, .int .i64 0] 193)) (by omega) (by omega)
          rw [ext_list] at hK
          generalize Co.kindOf ((s.data.toList.drop k).take (s.size - k)) = kd at *
          clear FIN hes
          have HK := Lib.hid hK
          clear hK
          go_wp2_with fail
          refine HK.out.mono ?_
          rintro e w2 ⟨rfl, hb2⟩
          have hbw : Below w.heap.size w w2 := ((Below.refl _ _).alloc (Nat.le_refl _) _).trans (hb2.mono (by simp))
          obtain ⟨cc, cf⟩ := bcell hb2
          go_wp2
          refine bodyPost_ret (v := .agg #[.int .i64 (kd : Int), .int .i64 (k : Int), .int .i64 (s.size : Int)]) (by simp [results, Tryz.results153, go_sem, cc]) rfl ⟨?_, ?_⟩
          · rw [HE.out]; rfl
          · exact ((hbw.setCell (Nat.le_refl _) _).setCell (Nat.le_refl _) _).setCell (Nat.le_refl _) _
    | false =>
      rw [hq] at hcall
      have HT := Lib.hid (@Co.wordAt_text s.data.toList k (by rw [HL.out]; exact hlt) (by rw [hat]; exact hq))
      have HM := Lib.hid (@Co.wordAt_mark s.data.toList k (by rw [HL.out]; exact hlt) (by rw [hat]; exact hq))
      rw [hat] at HT HM
      have HC := Lib.hid hcall
      clear hcall hq hat
      by_cases h34 : s[k] = 34
      · have hx : ((s[k].toNat : Int) == 34) = true := by rw [h34]; rfl
        have HE := Lib.hid (HT.out h34)
        have HX := Lib.hid (ctext_any s k (w.alloc (.cells #[.int .i64 0, .int .i64 0, .int .i64 0] 193)) hlt hsz)
        unfold wordV at HX
        generalize Co.textAt s.data.toList k = r at *
        obtain ⟨bx, hbx⟩ : ∃ bx, ((s[k].toNat : Int) == 34) = bx := ⟨_, rfl⟩
        rw [hbx] at hx
        subst hx
        clear HT HM h34
        go_enter Tryz.func153, Tryz.ntmps153
        go_wp2_with fail
        refine (HC.out _).mono ?_
        rintro e w' ⟨rfl, rfl⟩
        go_wp2_with fail
        refine HX.out.mono ?_
        rintro e w2 ⟨rfl, hb2⟩
        have hbw : Below w.heap.size w w2 := ((Below.refl _ _).alloc (Nat.le_refl _) _).trans (hb2.mono (by simp))
        obtain ⟨cc, cf⟩ := bcell hb2
        go_wp2
        refine bodyPost_ret (v := .agg #[.int .i64 (r.1 : Int), .int .i64 (r.2.1 : Int), .int .i64 (r.2.2 : Int)]) (by simp [results, Tryz.results153, go_sem, cc]) rfl ⟨?_, ?_⟩
        · rw [HE.out]; rfl
        · exact ((hbw.setCell (Nat.le_refl _) _).setCell (Nat.le_refl _) _).setCell (Nat.le_refl _) _
      · have hx : ¬ (s[k].toNat : Int) = 34 := fun h => h34 (UInt8.toNat_inj.1 (by simp; omega))
        have HE := Lib.hid (HM.out h34)
        have hes := ext_size s k s.size hk (Nat.le_refl _)
        have hK := cmark_any (s.extract k s.size) (w.alloc (.cells #[.int .i64 0, .int .i64 0, .int .i64 0] 193)) (by omega) (by omega)
        rw [ext_list, List.take_of_length_le (by simp)] at hK
        have hn2 := Co.markLen_le (s.data.toList.drop k)
        have HK := Lib.hid hK
        generalize Co.markLen (s.data.toList.drop k) = n at *
        clear HT HM h34 hK hes
        have hn : n = 0 ∨ (n : Int) ≠ 0 := by omega
        rcases hn with rfl | hn
        · go_enter Tryz.func153, Tryz.ntmps153
          go_wp2_with fail
          refine (HC.out _).mono ?_
          rintro e w' ⟨rfl, rfl⟩
          go_wp2_with fail
          refine HK.out.mono ?_
          rintro e w2 ⟨rfl, rfl⟩
          go_wp2
          refine bodyPost_ret (v := .agg #[.int .i64 0, .int .i64 (k : Int), .int .i64 (k : Int)]) (by simp [results, Tryz.results153, go_sem]) rfl ⟨?_, (Below.refl _ _).alloc (Nat.le_refl _) _⟩
          rw [HE.out]; rfl
        · go_enter Tryz.func153, Tryz.ntmps153
          go_wp2_with fail
          refine (HC.out _).mono ?_
          rintro e w' ⟨rfl, rfl⟩
          go_wp2_with fail
          refine HK.out.mono ?_
          rintro e w2 ⟨rfl, rfl⟩
          go_wp2
          refine bodyPost_ret (v := .agg #[.int .i64 6, .int .i64 (k : Int), .int .i64 ((k : Int) + n)]) (by simp [results, Tryz.results153, go_sem]) rfl ⟨?_, (Below.refl _ _).alloc (Nat.le_refl _) _⟩
          rw [HE.out, if_neg (by omega)]; rfl
  · obtain rfl : k = s.size := by omega
    have hW := HL.out ▸ @Co.wordAt_end s.data.toList
    go_enter Tryz.func153, Tryz.ntmps153
    go_wp2
    refine bodyPost_ret (v := .agg #[.int .i64 1, .int .i64 (s.size : Int), .int .i64 (s.size : Int)]) (by simp [results, Tryz.results153, go_sem]) rfl ⟨?_, (Below.refl _ _).alloc (Nat.le_refl _) _⟩
    rw [hW]
    rfl
end Go.Proofs.YtkffnfgdmcebdaaGreatDoor
