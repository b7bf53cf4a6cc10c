/- Walks of leaseholdmake: a number, a topic, a condition out of a number; the one picked. -/
import Derived.Test.YtlmlhjepolefaaaGn
import Derived.Test.YtlmlhjepolefaaaLit
namespace Go.Proofs.Ytlmlhjepolefaaa
open Go.RowKit

namespace Pr
theorem nmb_tmod (n b : Int) (hb : 0 < b) : nmb n b = if n.tmod b < 0 then n.tmod b + b else n.tmod b := by
  have e1 : n.tmod b < b := Int.tmod_lt_of_pos _ hb
  have e2 : -b < n.tmod b := by
    have := Int.lt_tmod_of_pos n hb
    omega
  have e3 : n = n.tmod b + b * n.tdiv b := by have := Int.tmod_add_mul_tdiv n b; omega
  have e4 : n % b = (n.tmod b) % b := by
    conv => lhs; rw [e3]
    exact Int.add_mul_emod_self_left _ _ _
  unfold nmb
  rw [e4]
  split
  · rw [← Int.add_emod_right]
    exact Int.emod_eq_of_lt (by omega) (by omega)
  · exact Int.emod_eq_of_lt (by omega) (by omega)
theorem nmb_nat (n b : Int) (hb : 0 < b) : ∃ k : Nat, nmb n b = k ∧ (k : Int) < b := by
  have h1 := Int.emod_nonneg n (show b ≠ 0 by omega)
  have h2 := Int.emod_lt_of_pos n hb
  exact ⟨(nmb n b).toNat, by unfold nmb; omega, by unfold nmb; omega⟩
set_option maxHeartbeats 400000 in
theorem mnumber_any (n b : Int) (w : World) (hb : 0 < b) (_h1 : -9223372036854775808 ≤ n) (_h2 : n ≤ 9223372036854775807) (h3 : b ≤ 4611686018427387904) :
    Calls Try.prog 5 #[.int .i64 n, .int .i64 b] w fun e w' => e = .returned (.int .i64 (nmb n b)) ∧ w = w' := by
  have hb0 : (b == 0) = false := by simp; omega
  have hv := nmb_tmod n b hb
  have e1 : n.tmod b < b := Int.tmod_lt_of_pos _ hb
  have e2 : -b < n.tmod b := by
    have := Int.lt_tmod_of_pos n hb
    omega
  by_cases hr : n.tmod b < 0
  · rw [if_pos hr] at hv
    rw [hv]
    clear hv
    go_enter Try.func5, Try.ntmps5
    go_wp2
    go_ret
    exact ⟨ret_int (by omega), rfl⟩
  · rw [if_neg hr] at hv
    rw [hv]
    clear hv
    go_enter Try.func5, Try.ntmps5
    go_wp2
    go_ret
    exact ⟨ret_int (by omega), rfl⟩
end Pr
end Go.Proofs.Ytlmlhjepolefaaa
