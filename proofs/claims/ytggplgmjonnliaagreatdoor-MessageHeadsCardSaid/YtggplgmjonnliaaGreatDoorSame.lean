/- A walk of the equality of bytes. -/
import Derived.Test.YtggplgmjonnliaaGreatDoorProg
import Derived.Test.YtggplgmjonnliaaGreatDoorBase
import Derived.Deep.QuietTactic
import Derived.BigQuiet
namespace Go.Proofs.YtggplgmjonnliaaGreatDoor
open Go.RowKit

theorem take_eq_succ (l l' : List UInt8) (k : Nat) (h : k < l.length) (h' : k < l'.length) (ht : l.take k = l'.take k) (hx : l[k] = l'[k]) : l.take (k + 1) = l'.take (k + 1) := by
  rw [List.take_succ_eq_append_getElem h, List.take_succ_eq_append_getElem h', ht, hx]
theorem u8_ne {x y : UInt8} (h : x ≠ y) : ((x.toNat : Int) == (y.toNat : Int)) = false := by
  rw [beq_eq_false_iff_ne]
  intro e
  exact h (UInt8.toNat_inj.1 (by omega))

set_option maxHeartbeats 800000 in
theorem same_any (A A' : Option Addr) (n n' c c' : Nat) (l l' : List UInt8) (w : World) (hr : Bytes w w.heap.size A n l) (hr' : Bytes w w.heap.size A' n' l') (hn : n ≤ 140737488355328) (hn' : n' ≤ 140737488355328) :
    Calls Tryz.prog 10 #[.slice A n c, .slice A' n' c'] w fun e w' => e = .returned (.bool (l == l')) ∧ Below w.heap.size w w' := by
  by_cases hne : n = n'
  · subst hne
    have h0 : (bne (n : Int) (n : Int)) = false := by simp
    go_enter Tryz.func10, Tryz.ntmps10
    go_wp2
    go_loopw [5] (fun i wr => ∃ k : Nat, k ≤ n ∧ i = .int .i64 k ∧ l.take k = l'.take k ∧ Below w.heap.size w wr) (fun i _ => n - (intOf i).toNat)
    case atStart => exact ⟨0, Nat.zero_le _, rfl, rfl, Below.refl _ _⟩
    case round =>
      obtain ⟨k, hk, rfl, htk, hbw⟩ := hrel
      have HT := Lib.hid htk
      clear htk
      by_cases hlt : k < n
      · obtain ⟨b, off, rfl, hb, hc⟩ := (hr.below hbw (Nat.le_refl _)).at_ hlt
        obtain ⟨b', off', rfl, hb', hc'⟩ := (hr'.below hbw (Nat.le_refl _)).at_ hlt
        have hk1 : k < l.length := by rw [hr.len]; exact hlt
        have hk2 : k < l'.length := by rw [hr'.len]; exact hlt
        by_cases hxy : l[k]'hk1 = l'[k]'hk2
        · have H := Lib.hid (take_eq_succ l l' k hk1 hk2 HT.out hxy)
          rw [← hxy] at hc'
          generalize l[k]'hk1 = x at *
          have hbb : ((x.toNat : Int) == (x.toNat : Int)) = true := by simp
          clear hxy
          go_wp2
          go_quiet (fail)
          go_wp2
          go_roundw
          case measure => simp [intOf]; omega
          case rel => exact ⟨k + 1, by omega, by go_num, H.out, below_drewN hbw _⟩
        · have hbb := u8_ne hxy
          have H : Hid ((l == l') = false) := by
            refine Lib.hid ?_
            rw [beq_eq_false_iff_ne]
            intro e
            subst e
            exact hxy rfl
          generalize l[k]'hk1 = x at *
          generalize l'[k]'hk2 = y at *
          clear hxy
          go_wp2
          go_quiet (fail)
          go_wp2
          go_ret
          rw [H.out]
          exact ⟨rfl, below_drewN hbw _⟩
      · have hkn : k = n := by omega
        have H : Hid ((l == l') = true) := by
          refine Lib.hid ?_
          have h := HT.out
          rw [List.take_of_length_le (by rw [hr.len]; omega), List.take_of_length_le (by rw [hr'.len]; omega)] at h
          rw [h]; simp
        clear hkn
        go_wp2
        go_ret
        rw [H.out]
        exact ⟨rfl, hbw⟩
  · have h0 : (bne (n : Int) (n' : Int)) = true := by simp; omega
    have h1 : (l == l') = false := by
      rw [beq_eq_false_iff_ne]
      intro h
      apply hne
      rw [← hr.len, ← hr'.len, h]
    rw [h1]
    go_enter Tryz.func10, Tryz.ntmps10
    go_wp2
    go_ret
    exact ⟨rfl, Below.refl _ _⟩
end Go.Proofs.YtggplgmjonnliaaGreatDoor
