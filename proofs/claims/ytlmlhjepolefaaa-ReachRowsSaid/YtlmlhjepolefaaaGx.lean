/- Walks of leaseholdmake: a gateway that leads back by a Work. -/
import Derived.Test.YtlmlhjepolefaaaGw
namespace Go.Proofs.Ytlmlhjepolefaaa
open Go.RowKit

namespace Pr
section
variable {w : World} {base q : Nat} {p : P}
end
end Pr
end Go.Proofs.Ytlmlhjepolefaaa
