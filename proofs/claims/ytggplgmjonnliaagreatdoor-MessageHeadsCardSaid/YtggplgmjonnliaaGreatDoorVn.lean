/- Walks of package vars, and of the document's answers: names. -/
import Derived.Test.YtggplgmjonnliaaGreatDoorProg
import Derived.Test.YtggplgmjonnliaaGreatDoorVr
import Derived.KernelRfl
namespace Go.Proofs.YtggplgmjonnliaaGreatDoor
open Go.RowKit

theorem ret_bool {a b : Bool} (h : a = b) : Ending.returned (.bool a) = .returned (.bool b) := by rw [h]

set_option maxHeartbeats 800000 in
theorem ofName_any (c : UInt8) (w : World) :
    Calls Tryz.prog 57 #[.int .u8 (c.toNat : Int)] w fun e w' => e = .returned (.bool (Vr.sign c)) ∧ w = w' := by
  have hc := c.toNat_lt
  go_enter Tryz.func57, Tryz.ntmps57
  go_wp2
  all_goals
    go_ret
    refine ⟨ret_bool ?_, rfl⟩
    first
      | exact (Vr.sign_yes (by omega)).symm
      | exact (Vr.sign_no (by omega)).symm
      | (rw [Bool.eq_iff_iff, Vr.sign_iff]; simp; omega)

set_option maxHeartbeats 800000 in
theorem name_any (s : ByteArray) (w : World) (hs : s.size ≤ 9223372036854775807) :
    Calls Tryz.prog 32 #[.string s] w fun e w' => e = .returned (.bool (Vr.name s.data.toList)) ∧ w = w' := by
  have hl : s.data.toList.length = s.size := by simp
  by_cases h0 : s.size = 0
  · rw [Vr.name_short (s := s.data.toList) (by omega)]
    have h0' : (s.size : Int) = 0 := by omega
    clear hl
    go_enter Tryz.func32, Tryz.ntmps32
    go_wp2
    go_ret
    exact ⟨rfl, rfl⟩
  · have h0' : ((s.size : Int) == 0) = false := by rw [beq_eq_false_iff_ne]; omega
    by_cases h24 : 24 < s.size
    · rw [Vr.name_long (s := s.data.toList) (by omega)]
      clear hl
      go_enter Tryz.func32, Tryz.ntmps32
      go_wp2
      go_ret
      exact ⟨rfl, rfl⟩
    · have HL := Lib.hid hl
      clear hl
      go_enter Tryz.func32, Tryz.ntmps32
      go_wp2_with fail
      go_loop [14] (fun i => ∃ k : Nat, k ≤ s.size ∧ i = .int .i64 k ∧ Hid (∀ j (hj : j < s.data.toList.length), j < k → Vr.sign s.data.toList[j] = true)) (fun i => s.size - (intOf i).toNat)
      case atStart => exact ⟨0, Nat.zero_le _, rfl, fun j _ h => absurd h (Nat.not_lt_zero j)⟩
      case round =>
        obtain ⟨k, hk, rfl, hall⟩ := hrel
        by_cases hlt : k < s.size
        · have hkl : k < s.data.toList.length := by rw [HL.out]; exact hlt
          have hx : s[k] = s.data.toList[k] := rfl
          cases hq : Vr.sign s[k] with
          | true =>
            have HQ := Lib.hid hq
            have hcall := ofName_any s[k]
            rw [hq] at hcall
            clear hq hx
            go_wp2_with (go_at_call 57; refine (hcall _).mono ?_; rintro e w' ⟨rfl, rfl⟩)
            go_round
            case measure => simp [intOf]; omega
            case rel =>
              refine ⟨k + 1, by omega, by go_num, fun j hj hjk => ?_⟩
              by_cases e : j = k
              · subst e; exact HQ.out
              · exact hall j hj (by omega)
          | false =>
            have HQ := Lib.hid hq
            have hcall := ofName_any s[k]
            rw [hq] at hcall
            clear hq hx
            go_wp2_with (go_at_call 57; refine (hcall _).mono ?_; rintro e w' ⟨rfl, rfl⟩)
            go_ret
            exact ⟨ret_bool (Vr.name_not (k := k) hkl HQ.out).symm, rfl⟩
        · have : k = s.size := by omega
          subst this
          go_wp2
          go_ret
          exact ⟨ret_bool (Vr.name_all (by rw [HL.out]; omega) (by rw [HL.out]; omega) fun j hj => hall j hj (by rw [← HL.out]; exact hj)).symm, rfl⟩

end Go.Proofs.YtggplgmjonnliaaGreatDoor
