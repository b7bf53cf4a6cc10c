/- The walk of leaseholdmake.Light. -/
import Derived.Test.YtlmlhjepolefaaaCel
import Derived.Test.YtlmlhjepolefaaaOs
import Derived.Deep.CutRange
namespace Go.Proofs.Ytlmlhjepolefaaa
open Go.RowKit

namespace Pr
theorem quad_facts {w : World} {z : Nat} {a0 a1 a2 a3 : Value} (h : Cel w z [a0, a1, a2, a3]) : w.cell? ⟨z, 0, none⟩ = some a0 ∧ w.cell? ⟨z, 1, none⟩ = some a1 ∧ w.cell? ⟨z, 2, none⟩ = some a2 ∧ w.cell? ⟨z, 3, none⟩ = some a3 :=
  ⟨h.cell 0 _ rfl, h.cell 1 _ rfl, h.cell 2 _ rfl, h.cell 3 _ rfl⟩
def light (s : SeedV) : Bool := decide (s.name.size ≤ 30) && (decide (s.kn ≤ 28) && (decide (s.en ≤ 60) && decide (s.mn ≤ 60)))
end Pr
end Go.Proofs.Ytlmlhjepolefaaa
