/- Walks of package cond: what a word is. -/
import Derived.Test.YtjababmmcejgdaaGreatDoorYProcessBounds2
import Derived.Test.YtjababmmcejgdaaGreatDoorYProcessBounds5
namespace Go.Proofs.YtjababmmcejgdaaGreatDoor
open Go.RowKit

namespace Co
theorem digit_yes {c : UInt8} (h : 48 ≤ (c.toNat : Int) ∧ (c.toNat : Int) ≤ 57) : digit c = true := by unfold digit; simp; omega
theorem digit_no {c : UInt8} (h : ¬ (48 ≤ (c.toNat : Int) ∧ (c.toNat : Int) ≤ 57)) : digit c = false := by
  unfold digit
  rw [Bool.eq_false_iff]
  simp
  omega
theorem trim_digits (l : List UInt8) : (Lib.trimS l [48, 49, 50, 51, 52, 53, 54, 55, 56, 57] = []) ↔ l.all digit = true := by
  have hc : ∀ c : UInt8, ([48, 49, 50, 51, 52, 53, 54, 55, 56, 57] : List UInt8).contains c = digit c := by
    intro c
    have hb := c.toNat_lt
    have h : ∀ k : Fin 256, ([48, 49, 50, 51, 52, 53, 54, 55, 56, 57] : List UInt8).contains (UInt8.ofNat k.val) = digit (UInt8.ofNat k.val) := by decide +kernel
    have := h ⟨c.toNat, hb⟩
    simpa using this
  have hd : ∀ m : List UInt8, m.dropWhile digit = [] ↔ m.all digit = true := by
    intro m
    induction m with
    | nil => simp
    | cons a m ih =>
      cases ha : digit a with
      | true => simpa [List.dropWhile_cons, ha] using ih
      | false => simp [ha]
  unfold Lib.trimS Lib.trimLeftS Lib.trimRightS
  simp only [hc]
  rw [hd, List.all_reverse]
  constructor
  · intro h
    rw [← List.all_reverse]
    have hh : ∀ m : List UInt8, (m.dropWhile digit).all digit = true → m.all digit = true := by
      intro m
      induction m with
      | nil => simp
      | cons a m ih =>
        cases ha : digit a with
        | true => intro h; rw [List.dropWhile_cons_of_pos ha] at h; simp [ha, ih h]
        | false => intro h; rw [List.dropWhile_cons_of_neg (by simp [ha])] at h; exact h
    exact hh _ h
  · intro h
    have : l.reverse.dropWhile digit = [] := (hd _).2 (by rw [List.all_reverse]; exact h)
    rw [this]
    rfl
theorem list_data (s : ByteArray) : s.toList = s.data.toList := by rw [ByteArray.toList_eq]
theorem eq_lit (s : ByteArray) (m : List UInt8) : (s.toList == m) = decide (s.data.toList = m) := by
  rw [list_data, Bool.eq_iff_iff]; simp
theorem of_lit {s : ByteArray} {m : List UInt8} (h : s.data.toList = m) : s = ⟨m.toArray⟩ := by
  subst h
  cases s with
  | mk d => simp
end Co

set_option maxHeartbeats 400000 in
theorem cdigit_any (c : UInt8) (w : World) :
    Calls Tryz.prog 114 #[.int .u8 (c.toNat : Int)] w fun e w' => e = .returned (.bool (Co.digit c)) ∧ w = w' := by
  have hc := c.toNat_lt
  go_enter Tryz.func114, Tryz.ntmps114
  go_wp2
  all_goals
    go_ret
    refine ⟨ret_bool ?_, rfl⟩
    first
      | exact (Co.digit_yes (by omega)).symm
      | exact (Co.digit_no (by omega)).symm
      | (unfold Co.digit; rw [Bool.eq_iff_iff]; simp; omega)
set_option maxHeartbeats 800000 in
theorem cword_any (c : UInt8) (w : World) :
    Calls Tryz.prog 103 #[.int .u8 (c.toNat : Int)] w fun e w' => e = .returned (.bool (Co.ofWord c)) ∧ w = w' := by
  have hc := c.toNat_lt
  have hd := cdigit_any c
  have hw : Co.ofWord c = ((decide (97 ≤ c.toNat) && decide (c.toNat ≤ 122)) || Co.digit c || decide (c.toNat = 95)) := rfl
  have hn : Co.digit c = true → ¬ (97 ≤ c.toNat) := by unfold Co.digit; simp; omega
  have HW := Lib.hid hw
  have HN := Lib.hid hn
  clear hw hn
  generalize Co.ofWord c = r at *
  cases hq : Co.digit c with
  | true =>
    rw [hq] at hd HW
    have HQ := Lib.hid (HN.out hq)
    clear hq HN
    go_enter Tryz.func103, Tryz.ntmps103
    go_wp2_with (go_at_call 114; refine (hd _).mono ?_; rintro e w' ⟨rfl, rfl⟩)
    all_goals
      go_ret
      refine ⟨ret_bool ?_, rfl⟩
      have h1 := HW.out
      have h2 := HQ.out
      rw [h1]
      first
        | (simp; done)
        | (rw [Bool.eq_iff_iff]; simp; omega)
  | false =>
    rw [hq] at hd HW
    clear hq HN
    go_enter Tryz.func103, Tryz.ntmps103
    go_wp2_with (go_at_call 114; refine (hd _).mono ?_; rintro e w' ⟨rfl, rfl⟩)
    all_goals
      go_ret
      refine ⟨ret_bool ?_, rfl⟩
      have h1 := HW.out
      rw [h1]
      first
        | (rw [Bool.eq_iff_iff]; simp; omega)
        | (rw [Bool.eq_iff_iff]; simp; done)
end Go.Proofs.YtjababmmcejgdaaGreatDoor
