/- A walk of Number. -/
import Derived.Test.YtggplgmjonnliaaGreatDoorProg
import Derived.Test.YtggplgmjonnliaaGreatDoorBase
namespace Go.Proofs.YtggplgmjonnliaaGreatDoor
open Go.RowKit

set_option maxHeartbeats 400000 in
theorem number_any (n : Int) (b : Int) (w : World) (hb : 0 < b) (_h1 : -9223372036854775808 ≤ n) (_h2 : n ≤ 9223372036854775807) (h3 : b ≤ 4611686018427387904) :
    Calls Tryz.prog 6 #[.int .i64 n, .int .i64 b] w fun e w' => (∃ k : Nat, e = .returned (.int .i64 k) ∧ (k : Int) < b) ∧ w = w' := by
  have hb0 : (b == 0) = false := by simp; omega
  have e1 : n.tmod b < b := Int.tmod_lt_of_pos _ hb
  have e2 : -b < n.tmod b := by
    have := Int.lt_tmod_of_pos n hb
    omega
  by_cases hr : n.tmod b < 0
  · go_enter Tryz.func6, Tryz.ntmps6
    go_wp2
    go_ret
    exact ⟨⟨(n.tmod b + b).toNat, ret_int (by omega), by omega⟩, rfl⟩
  · go_enter Tryz.func6, Tryz.ntmps6
    go_wp2
    go_ret
    exact ⟨⟨(n.tmod b).toNat, ret_int (by omega), by omega⟩, rfl⟩
end Go.Proofs.YtggplgmjonnliaaGreatDoor
