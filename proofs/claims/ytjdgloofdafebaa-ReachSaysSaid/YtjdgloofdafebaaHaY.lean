/- Walks of the document's Has, within; its Outs, Ins. -/
import Derived.Test.YtjdgloofdafebaaYReachSays2
import Derived.Test.YtjdgloofdafebaaGiY
import Derived.Test.YtjdgloofdafebaaYReachSays1
import Derived.Test.YtjdgloofdafebaaGnY
import Derived.Test.YtjdgloofdafebaaYReachSays5
namespace Go.Proofs.Ytjdgloofdafebaa
open Go.RowKit

namespace Pr
theorem refwithin_any (x lo hi : Int) (w : World) :
    Calls Try.prog 32 #[.int .i64 x, .int .i64 lo, .int .i64 hi] w fun e w' => e = .returned (.bool (within x lo hi)) ∧ w = w' := by
  unfold within
  go_enter Try.func32, Try.ntmps32
  by_cases h1 : lo ≤ x
  · have h1' : x ≥ lo := h1
    go_wp2
    go_ret
    exact ⟨by simp [h1], rfl⟩
  · have h1' : ¬ x ≥ lo := h1
    go_wp2
    go_ret
    exact ⟨by simp; omega, rfl⟩
set_option maxHeartbeats 800000 in
theorem refhas_any (A : Option Addr) (n c : Nat) (l : List Int) (B : Nat) (x : Int) (w : World) (hr : KRow iκ w B A n l) (hn : n ≤ 100000) :
    Calls Try.prog 31 #[.slice A n c, .int .i64 x] w fun e w' => e = .returned (.bool (l.any fun y => y == x)) ∧ w = w' := by
  have hl := hr.len (by decide)
  have HR := Lib.hid hr
  clear hr
  go_enter Try.func31, Try.ntmps31
  go_wp2_with fail
  go_loopw [5] (fun i wr => ∃ j : Nat, j ≤ n ∧ i = .int .i64 j ∧ (∀ t, t < j → l[t]! ≠ x) ∧ w = wr) (fun i _ => n - (intOf i).toNat)
  case atStart => exact ⟨0, Nat.zero_le _, rfl, fun t h => absurd h (Nat.not_lt_zero t), rfl⟩
  case round =>
    obtain ⟨j, hj, rfl, hall, rfl⟩ := hrel
    have hj0 : (0 : Int) ≤ (j : Int) := by omega
    by_cases hlt : j < n
    · obtain ⟨b, off, rfl, _, _⟩ := HR.out.2 (by omega)
      have c1 := iκ_cells HR.out hlt
      have hI : (j : Int) < (n : Int) := by omega
      by_cases hx : l[j]! = x
      · have hB : (l[j]! == x) = true := beq_iff_eq.2 hx
        have hany : (l.any fun y => y == x) = true := by
          rw [List.any_eq_true]
          exact ⟨l[j]!, by rw [getElem!_pos l j (by omega)]; exact List.getElem_mem _, hB⟩
        have HA := Lib.hid hany
        rw [hx] at c1
        clear hany hall hx hB
        go_wp2
        go_ret
        exact ⟨by rw [HA.out]; rfl, rfl⟩
      · have hB : (l[j]! == x) = false := by rw [beq_eq_false_iff_ne]; exact hx
        have HALL := Lib.hid hall
        have HX := Lib.hid hx
        obtain ⟨y, hy⟩ : ∃ y, l[j]! = y := ⟨_, rfl⟩
        rw [hy] at hB c1
        clear hall hx hy
        go_wp2_with fail
        go_roundw
        case measure => simp [intOf]; omega
        case rel =>
          refine ⟨j + 1, by omega, by go_num, fun t ht => ?_, by first | trivial | rfl⟩
          by_cases e : t = j
          · subst e; exact HX.out
          · exact HALL.out t (by omega)
    · obtain rfl : j = n := by omega
      have hI : ¬ (j : Int) < (j : Int) := by omega
      have hany : (l.any fun y => y == x) = false := by
        rw [List.any_eq_false]
        intro y hy
        obtain ⟨t, ht, rfl⟩ := List.getElem_of_mem hy
        have := hall t (by omega)
        rw [getElem!_pos l t ht] at this
        simpa using this
      have HA := Lib.hid hany
      clear hany hall
      go_wp2
      go_ret
      exact ⟨by rw [HA.out]; rfl, rfl⟩
end Pr
end Go.Proofs.Ytjdgloofdafebaa
