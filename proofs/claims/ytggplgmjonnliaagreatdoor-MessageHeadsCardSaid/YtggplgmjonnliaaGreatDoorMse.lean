/- Package message: Same. Printed by tools/specs/message/same.py. -/
import Derived.Test.YtggplgmjonnliaaGreatDoorMsa
namespace Go.Proofs.YtggplgmjonnliaaGreatDoor
open Go.RowKit

namespace Ms
theorem empty_no (s : ByteArray) : s.toList.isEmpty = decide (s = no) := by
  rw [Bool.eq_iff_iff, List.isEmpty_iff, decide_eq_true_iff, ByteArray.toList_eq]
  exact ⟨fun h => by cases s with | mk d => simp only [no, ByteArray.mk.injEq]; exact Array.toList_inj.1 h, fun e => by rw [e]; rfl⟩
theorem eq_node_nil (A : Option Addr) (n c : Nat) (w : World) : Calls Tryz.prog 54 #[.slice A n c, .slice none 0 0] w fun e w' => e = .returned (.bool (decide (n = 0))) ∧ w' = w := by
  by_cases h : n = 0
  · subst h
    go_enter Tryz.func54, Tryz.ntmps54
    go_wp2_with fail
    go_loopw [13] (fun s wr => s = .int .i64 0 ∧ wr = w) (fun _ _ => 0)
    case atStart => exact ⟨rfl, rfl⟩
    case round =>
      obtain ⟨rfl, rfl⟩ := hrel
      go_wp2
      go_ret
      exact ⟨rfl, rfl⟩
  · have hI : ((n : Int) == 0) = false := by simpa using h
    have hJ : ¬ (n : Int) = 0 := by omega
    rw [decide_eq_false h]
    go_enter Tryz.func54, Tryz.ntmps54
    go_wp2
    go_ret
    exact ⟨rfl, rfl⟩
theorem eq_flow_nil (A : Option Addr) (n c : Nat) (w : World) : Calls Tryz.prog 55 #[.slice A n c, .slice none 0 0] w fun e w' => e = .returned (.bool (decide (n = 0))) ∧ w' = w := by
  by_cases h : n = 0
  · subst h
    go_enter Tryz.func55, Tryz.ntmps55
    go_wp2_with fail
    go_loopw [13] (fun s wr => s = .int .i64 0 ∧ wr = w) (fun _ _ => 0)
    case atStart => exact ⟨rfl, rfl⟩
    case round =>
      obtain ⟨rfl, rfl⟩ := hrel
      go_wp2
      go_ret
      exact ⟨rfl, rfl⟩
  · have hI : ((n : Int) == 0) = false := by simpa using h
    have hJ : ¬ (n : Int) = 0 := by omega
    rw [decide_eq_false h]
    go_enter Tryz.func55, Tryz.ntmps55
    go_wp2
    go_ret
    exact ⟨rfl, rfl⟩
theorem eq_var_nil (A : Option Addr) (n c : Nat) (w : World) : Calls Tryz.prog 56 #[.slice A n c, .slice none 0 0] w fun e w' => e = .returned (.bool (decide (n = 0))) ∧ w' = w := by
  by_cases h : n = 0
  · subst h
    go_enter Tryz.func56, Tryz.ntmps56
    go_wp2_with fail
    go_loopw [13] (fun s wr => s = .int .i64 0 ∧ wr = w) (fun _ _ => 0)
    case atStart => exact ⟨rfl, rfl⟩
    case round =>
      obtain ⟨rfl, rfl⟩ := hrel
      go_wp2
      go_ret
      exact ⟨rfl, rfl⟩
  · have hI : ((n : Int) == 0) = false := by simpa using h
    have hJ : ¬ (n : Int) = 0 := by omega
    rw [decide_eq_false h]
    go_enter Tryz.func56, Tryz.ntmps56
    go_wp2
    go_ret
    exact ⟨rfl, rfl⟩
theorem eq_text_nil (A : Option Addr) (n c : Nat) (w : World) : Calls Tryz.prog 31 #[.slice A n c, .slice none 0 0] w fun e w' => e = .returned (.bool (decide (n = 0))) ∧ w' = w := by
  by_cases h : n = 0
  · subst h
    go_enter Tryz.func31, Tryz.ntmps31
    go_wp2_with fail
    go_loopw [13] (fun s wr => s = .int .i64 0 ∧ wr = w) (fun _ _ => 0)
    case atStart => exact ⟨rfl, rfl⟩
    case round =>
      obtain ⟨rfl, rfl⟩ := hrel
      go_wp2
      go_ret
      exact ⟨rfl, rfl⟩
  · have hI : ((n : Int) == 0) = false := by simpa using h
    have hJ : ¬ (n : Int) = 0 := by omega
    rw [decide_eq_false h]
    go_enter Tryz.func31, Tryz.ntmps31
    go_wp2
    go_ret
    exact ⟨rfl, rfl⟩
theorem sameProcess_zero (pn : ByteArray) (NA FA : Option Addr) (nn nc fn fc : Nat) (w : World) :
    Calls Tryz.prog 29 #[.agg #[.string pn, .slice NA nn nc, .slice FA fn fc], .agg #[.string ⟨#[]⟩, .slice none 0 0, .slice none 0 0]] w fun e w' => e = .returned (.bool (decide (pn = no) && (decide (nn = 0) && decide (fn = 0)))) ∧ Below w.heap.size w w' := by
  have HN := Lib.hid (fun (W : World) => eq_node_nil NA nn nc W)
  have HF := Lib.hid (fun (W : World) => eq_flow_nil FA fn fc W)
  obtain ⟨a, ha⟩ : ∃ a, decide (nn = 0) = a := ⟨_, rfl⟩
  obtain ⟨b, hb⟩ : ∃ b, decide (fn = 0) = b := ⟨_, rfl⟩
  rw [ha] at HN ⊢
  rw [hb] at HF ⊢
  clear ha hb
  have hbl := ((Below.refl w.heap.size w).alloc (Nat.le_refl _) (.cells #[.string pn, .slice NA nn nc, .slice FA fn fc] 29)).alloc (by simp) (.cells #[.string ⟨#[]⟩, .slice none 0 0, .slice none 0 0] 29)
  have hp := empty_no pn
  obtain ⟨p, hpp⟩ : ∃ p, decide (pn = no) = p := ⟨_, rfl⟩
  rw [hpp] at hp ⊢
  clear hpp
  cases p with
  | false =>
    go_enter Tryz.func29, Tryz.ntmps29
    go_wp2
    go_ret
    exact ⟨rfl, hbl⟩
  | true =>
    cases a with
    | false =>
      go_enter Tryz.func29, Tryz.ntmps29
      go_wp2_with (go_at_call 54; (with_reducible refine (HN.out _).mono ?_); rintro e w1 ⟨rfl, rfl⟩)
      go_ret
      exact ⟨rfl, hbl⟩
    | true =>
      go_enter Tryz.func29, Tryz.ntmps29
      go_wp2_with (first | (go_at_call 54; (with_reducible refine (HN.out _).mono ?_); rintro e w1 ⟨rfl, rfl⟩) | (go_at_call 55; (with_reducible refine (HF.out _).mono ?_); rintro e w1 ⟨rfl, rfl⟩))
      go_ret
      exact ⟨by simp, hbl⟩
theorem vsame_nil (A : Option Addr) (n c : Nat) (w : World) : Calls Tryz.prog 30 #[.slice A n c, .slice none 0 0] w fun e w' => e = .returned (.bool (decide (n = 0))) ∧ w' = w := by
  have HV := Lib.hid (eq_var_nil A n c w)
  go_enter Tryz.func30, Tryz.ntmps30
  go_wp2_with fail
  (with_reducible refine HV.out.mono ?_)
  rintro e w1 ⟨rfl, rfl⟩
  go_wp2
  go_ret
  exact ⟨rfl, rfl⟩
end Ms
end Go.Proofs.YtggplgmjonnliaaGreatDoor
