/- The program's isNode. -/
import Derived.Test.YtnmlfjaagbhhoaaOb
import Derived.Test.YtnmlfjaagbhhoaaLit
import Derived.Test.YtnmlfjaagbhhoaaGn
namespace Go.Proofs.Ytnmlfjaagbhhoaa
open Go.RowKit

namespace Pr
section
variable {w : World}
set_option maxHeartbeats 800000 in
theorem isnode_any (s : ByteArray) (A : Option Addr) (n c : Nat) (F : Option Addr) (m d : Nat) (i : Int) :
    Calls Try.prog 20 #[.agg #[.string s, .slice A n c, .slice F m d], .int .i64 i] w fun e w' => e = .returned (.bool (decide (0 ≤ i) && decide (i < n))) ∧ Below w.heap.size w w' := by
  have HB := Lib.hid ((Below.refl w.heap.size w).alloc (Nat.le_refl _) (.cells #[.string s, .slice A n c, .slice F m d] 30))
  have hcel := Cel.lit w #[.string s, .slice A n c, .slice F m d] 30
  obtain ⟨R, hR⟩ : ∃ R, (decide (0 ≤ i) && decide (i < (n : Int))) = R := ⟨_, rfl⟩
  rw [hR]
  go_enter Try.func20, Try.ntmps20
  by_cases h1 : 0 ≤ i
  · by_cases h2 : i < (n : Int)
    · obtain rfl : R = true := by rw [← hR, decide_eq_true h1, decide_eq_true h2]; rfl
      clear hR
      go_upto_region 1 with (fail)
      generalize w.alloc _ = wb at *
      obtain ⟨⟨z0, z1, z2⟩, _⟩ := tri_facts hcel
      go_wp2
      go_ret
      exact ⟨rfl, HB.out⟩
    · obtain rfl : R = false := by rw [← hR, decide_eq_true h1, decide_eq_false h2]; rfl
      clear hR
      go_upto_region 1 with (fail)
      generalize w.alloc _ = wb at *
      obtain ⟨⟨z0, z1, z2⟩, _⟩ := tri_facts hcel
      go_wp2
      go_ret
      exact ⟨rfl, HB.out⟩
  · obtain rfl : R = false := by rw [← hR, decide_eq_false h1]; rfl
    clear hR
    go_wp2
    go_ret
    exact ⟨rfl, HB.out⟩
end
end Pr
end Go.Proofs.Ytnmlfjaagbhhoaa
