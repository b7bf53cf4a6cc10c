/- Walks of leaseholdmake: a Work behind a node. -/
import Derived.Test.YtlmlhjepolefaaaGu
import Derived.Test.YtlmlhjepolefaaaGl
import Derived.Deep.RegionHeld3
namespace Go.Proofs.Ytlmlhjepolefaaa
open Go.RowKit

namespace Pr
theorem tdiv_in {m : Int} (k : Int) (h1 : -9223372036854775808 ≤ m) (h2 : m ≤ 9223372036854775807) (hk : 1 < k) : -9223372036854775808 ≤ m.tdiv k ∧ m.tdiv k ≤ 9223372036854775807 := by
  have := Int.natAbs_tdiv_le_natAbs m k
  have e := Int.tmod_add_mul_tdiv m k
  by_cases hm : m.tdiv k = 9223372036854775808
  · exfalso
    have h3 : m.natAbs = 9223372036854775808 := by omega
    have e1 : m.tmod k < k := Int.tmod_lt_of_pos _ (by omega)
    have e2 : -k < m.tmod k := by have := Int.lt_tmod_of_pos m (show 0 < k by omega); omega
    rw [hm] at e
    omega
  · omega
section
variable {w : World} {base q : Nat} {p : P}
end
end Pr
end Go.Proofs.Ytlmlhjepolefaaa
