/- Walks: the document's SameBools, SameInts of rows that are alike. -/
import Derived.Test.YtjdgloofdafebaaQfY
namespace Go.Proofs.Ytjdgloofdafebaa
open Go.RowKit

namespace Pr
set_option maxHeartbeats 1600000 in
theorem samebools_any (g g' n : Nat) (f f' : Nat → Bool) (w : World) (h : Cel w g (bv f n)) (h' : Cel w g' (bv f' n)) (hn : n ≤ 100000) (he : ∀ v, v < n → f v = f' v) :
    Calls Try.prog 15 #[.slice (some ⟨g, 0, none⟩) n n, .slice (some ⟨g', 0, none⟩) n n] w fun e w' => e = .returned (.bool true) ∧ Below w.heap.size w w' := by
  have h0 : (bne (n : Int) (n : Int)) = false := by simp
  have HE := Lib.hid he
  have HC := Lib.hid h
  have HD := Lib.hid h'
  clear he h h'
  go_enter Try.func15, Try.ntmps15
  go_wp2
  go_loopw [5] (fun i wr => ∃ k : Nat, k ≤ n ∧ i = .int .i64 k ∧ Below w.heap.size w wr) (fun i _ => n - (intOf i).toNat)
  case atStart => exact ⟨0, Nat.zero_le _, rfl, Below.refl _ _⟩
  case round =>
    obtain ⟨k, hk, rfl, hbw⟩ := hrel
    have hk0 : (0 : Int) ≤ (k : Int) := by omega
    have HB := Lib.hid hbw
    by_cases hlt : k < n
    · have hI : (k : Int) < (n : Int) := by omega
      have c1 := (HC.out.below hbw (Nat.le_refl _)).cell k _ (bv_at f hlt)
      have c2 := (HD.out.below hbw (Nat.le_refl _)).cell k _ (bv_at f' hlt)
      rw [← HE.out k hlt] at c2
      generalize f k = x at *
      have hbb : (x == x) = true := by simp
      clear hbw
      go_wp2
      go_quiet (fail)
      go_wp2
      go_roundw
      case measure => simp [intOf]; omega
      case rel => exact ⟨k + 1, by omega, by go_num, below_drewN HB.out _⟩
    · obtain rfl : k = n := by omega
      have hI : ¬ ((k : Int) < (k : Int)) := by omega
      clear hbw
      go_wp2
      go_ret
      exact ⟨rfl, HB.out⟩
set_option maxHeartbeats 1600000 in
theorem sameints_any (A A' : Option Addr) (n c c' B B' : Nat) (l : List Int) (w : World) (h : KRow iκ w B A n l) (h' : KRow iκ w B' A' n l) (hB : B ≤ w.heap.size) (hB' : B' ≤ w.heap.size) (hn : n ≤ 100000) :
    Calls Try.prog 20 #[.slice A n c, .slice A' n c'] w fun e w' => e = .returned (.bool true) ∧ Below w.heap.size w w' := by
  have h0 : (bne (n : Int) (n : Int)) = false := by simp
  have HC := Lib.hid (h.mono hB)
  have HD := Lib.hid (h'.mono hB')
  clear h h' hB hB'
  go_enter Try.func20, Try.ntmps20
  go_wp2
  go_loopw [5] (fun i wr => ∃ k : Nat, k ≤ n ∧ i = .int .i64 k ∧ Below w.heap.size w wr) (fun i _ => n - (intOf i).toNat)
  case atStart => exact ⟨0, Nat.zero_le _, rfl, Below.refl _ _⟩
  case round =>
    obtain ⟨k, hk, rfl, hbw⟩ := hrel
    have hk0 : (0 : Int) ≤ (k : Int) := by omega
    have HB := Lib.hid hbw
    by_cases hlt : k < n
    · have hI : (k : Int) < (n : Int) := by omega
      obtain ⟨b, off, rfl, _, _⟩ := HC.out.2 (by omega)
      obtain ⟨b', off', rfl, _, _⟩ := HD.out.2 (by omega)
      have c1 := iκ_cells (HC.out.below hbw (Nat.le_refl _)) hlt
      have c2 := iκ_cells (HD.out.below hbw (Nat.le_refl _)) hlt
      generalize l[k]! = x at *
      have hbb : (x == x) = true := by simp
      clear hbw
      go_wp2
      go_quiet (fail)
      go_wp2
      go_roundw
      case measure => simp [intOf]; omega
      case rel => exact ⟨k + 1, by omega, by go_num, below_drewN HB.out _⟩
    · obtain rfl : k = n := by omega
      have hI : ¬ ((k : Int) < (k : Int)) := by omega
      clear hbw
      go_wp2
      go_ret
      exact ⟨rfl, HB.out⟩
end Pr
end Go.Proofs.Ytjdgloofdafebaa
