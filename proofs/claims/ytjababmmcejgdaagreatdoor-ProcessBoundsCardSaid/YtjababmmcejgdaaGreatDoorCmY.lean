/- Walks of package cond: a bracket's or operator's length; a text; the word that begins at a place. -/
import Derived.Test.YtjababmmcejgdaaGreatDoorCkY
namespace Go.Proofs.YtjababmmcejgdaaGreatDoor
open Go.RowKit

theorem Co.index_has : ∀ (m : List UInt8) (x : UInt8), (m.contains x = true → 0 ≤ Lib.indexByte m x) ∧ (m.contains x = false → Lib.indexByte m x = -1)
  | [], _ => ⟨by simp, fun _ => rfl⟩
  | b :: m, x => by
    have ih := Co.index_has m x
    unfold Lib.indexByte
    by_cases e : b = x
    · subst e; simp
    · have e1 : (b == x) = false := by simpa using e
      have e2 : (x == b) = false := by simpa using fun h => e h.symm
      rw [List.contains_cons, e1, e2, if_neg (by simp), Bool.false_or]
      refine ⟨fun h => ?_, fun h => ?_⟩
      · have h1 := ih.1 h
        rw [if_neg (by simp; omega)]
        omega
      · rw [ih.2 h]; rfl
theorem at_list (s : ByteArray) (k : Nat) (h : k < s.size) : s.data.toList[k]! = s[k] := by
  rw [getElem!_pos s.data.toList k (by simpa using h)]
  simp [ByteArray.getElem_eq_getElem_data]
theorem index_byte (s : ByteArray) (m : List UInt8) (x : UInt8) (hs : s.data.toList = m) (w : World) :
    Calls Tryz.prog 116 #[.string s, .int .u8 (x.toNat : Int)] w fun e w' => e = .returned (.int .i64 (Lib.indexByte m x)) ∧ w = w' := by
  have h : Calls Tryz.prog 116 #[.string s, .int .u8 (x.toNat : Int)] w fun e w' => e = .returned (.int .i64 (Lib.indexByte s.data.toList ((x.toNat : Int).toNat.toUInt8))) ∧ w' = w :=
    Any.strings_IndexByte shLays137 s (x.toNat : Int) w
  have hx : (x.toNat : Int).toNat.toUInt8 = x := by simp
  rw [hx, hs] at h
  refine h.mono ?_
  rintro e w' ⟨h1, h2⟩
  exact ⟨h1, h2.symm⟩

set_option maxHeartbeats 1600000 in
theorem cmark_any (s : ByteArray) (w : World) (h0 : 0 < s.size) (hsz : s.size ≤ 80) :
    Calls Tryz.prog 106 #[.string s] w fun e w' => e = .returned (.int .i64 (Co.markLen s.data.toList : Int)) ∧ w = w' := by
  have hl : s.data.toList.length = s.size := by simp
  have hF := fun W => index_byte ⟨#[61, 33, 60, 62]⟩ [61, 33, 60, 62] s[0] rfl W
  have hN := fun W => index_byte ⟨#[40, 41, 60, 62, 43, 45, 42, 47, 37]⟩ Co.marks s[0] rfl W
  have hf := Co.index_has [61, 33, 60, 62] s[0]
  have hn := Co.index_has Co.marks s[0]
  have hm : Co.markLen s.data.toList = if 1 < s.data.toList.length ∧ s.data.toList[1]! = 61 ∧ ([61, 33, 60, 62] : List UInt8).contains (s.data.toList[0]!) = true then 2
    else if Co.marks.contains (s.data.toList[0]!) = true then 1 else 0 := rfl
  rw [at_list s 0 h0, hl] at hm
  have h0' : (0 : Int) < (s.size : Int) := by omega
  have hz : (Co.marks.contains s[0] = true ∧ 0 ≤ Lib.indexByte Co.marks s[0]) ∨ (Co.marks.contains s[0] = false ∧ Lib.indexByte Co.marks s[0] < 0) := by
    cases h : Co.marks.contains s[0] with
    | true => exact .inl ⟨rfl, hn.1 h⟩
    | false => exact .inr ⟨rfl, by rw [hn.2 h]; omega⟩
  have hy : (([61, 33, 60, 62] : List UInt8).contains s[0] = true ∧ 0 ≤ Lib.indexByte [61, 33, 60, 62] s[0]) ∨ (([61, 33, 60, 62] : List UInt8).contains s[0] = false ∧ Lib.indexByte [61, 33, 60, 62] s[0] < 0) := by
    cases h : ([61, 33, 60, 62] : List UInt8).contains s[0] with
    | true => exact .inl ⟨rfl, hf.1 h⟩
    | false => exact .inr ⟨rfl, by rw [hf.2 h]; omega⟩
  clear hf hn hl
  generalize Lib.indexByte Co.marks s[0] = z9 at *
  generalize Lib.indexByte [61, 33, 60, 62] s[0] = z4 at *
  generalize Co.marks.contains s[0] = c9 at *
  generalize ([61, 33, 60, 62] : List UInt8).contains s[0] = c4 at *
  have HF := Lib.hid hF
  have HN := Lib.hid hN
  clear hF hN
  by_cases h1 : 1 < s.size
  · rw [at_list s 1 h1] at hm
    have h1' : (1 : Int) < (s.size : Int) := by omega
    have he : s[1] = 61 ↔ (s[1].toNat : Int) = 61 := ⟨fun h => by rw [h]; rfl, fun h => UInt8.toNat_inj.1 (by simp; omega)⟩
    simp only [he] at hm
    have HM := Lib.hid hm
    clear hm he
    by_cases e61 : (s[1].toNat : Int) = 61
    · rcases hy with ⟨rfl, hy⟩ | ⟨rfl, hy⟩
      · have HR : Hid (Co.markLen s.data.toList = 2) := HM.out.trans (if_pos ⟨h1, e61, rfl⟩)
        clear HM hz HN
        go_enter Tryz.func106, Tryz.ntmps106
        go_wp2_with fail
        refine (HF.out _).mono ?_
        rintro e w' ⟨rfl, rfl⟩
        go_wp2
        go_ret
        rw [HR.out]
        exact ⟨rfl, rfl⟩
      · have HM : Hid (Co.markLen s.data.toList = if c9 = true then 1 else 0) := HM.out.trans (if_neg (by simp))
        rcases hz with ⟨rfl, hz⟩ | ⟨rfl, hz⟩
        all_goals
          go_enter Tryz.func106, Tryz.ntmps106
          go_wp2_with fail
          refine (HF.out _).mono ?_
          rintro e w' ⟨rfl, rfl⟩
          go_wp2_with fail
          refine (HN.out _).mono ?_
          rintro e w' ⟨rfl, rfl⟩
          go_wp2
          go_ret
          rw [HM.out]
          exact ⟨rfl, rfl⟩
    · have HM : Hid (Co.markLen s.data.toList = if c9 = true then 1 else 0) := HM.out.trans (if_neg (fun h => e61 h.2.1))
      clear hy HF
      rcases hz with ⟨rfl, hz⟩ | ⟨rfl, hz⟩
      all_goals
        go_enter Tryz.func106, Tryz.ntmps106
        go_wp2_with fail
        refine (HN.out _).mono ?_
        rintro e w' ⟨rfl, rfl⟩
        go_wp2
        go_ret
        rw [HM.out]
        exact ⟨rfl, rfl⟩
  · rw [if_neg (by simp [h1])] at hm
    have h1' : ¬ (1 : Int) < (s.size : Int) := by omega
    clear h1 hsz
    have HM := Lib.hid hm
    clear hm hy HF
    rcases hz with ⟨rfl, hz⟩ | ⟨rfl, hz⟩
    all_goals
      go_enter Tryz.func106, Tryz.ntmps106
      go_wp2_with fail
      refine (HN.out _).mono ?_
      rintro e w' ⟨rfl, rfl⟩
      go_wp2
      go_ret
      rw [HM.out]
      exact ⟨rfl, rfl⟩
end Go.Proofs.YtjababmmcejgdaaGreatDoor
