/- The program's isNode. -/
import Derived.Test.YtlmlhjepolefaaaOb
import Derived.Test.YtlmlhjepolefaaaLit
import Derived.Test.YtlmlhjepolefaaaGn
namespace Go.Proofs.Ytlmlhjepolefaaa
open Go.RowKit

namespace Pr
section
variable {w : World}
end
end Pr
end Go.Proofs.Ytlmlhjepolefaaa
