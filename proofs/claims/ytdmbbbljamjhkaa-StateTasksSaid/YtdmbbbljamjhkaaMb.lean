/- Package lease: When, Free, within, Leave. -/
import Derived.Test.YtdmbbbljamjhkaaMa
import Derived.Deep.RegionLaw
import Derived.Deep.CutBlock
import Derived.Deep.DeepCutAuto
namespace Go.Proofs.Ytdmbbbljamjhkaa
open Go.RowKit

namespace Ls
end Ls
end Go.Proofs.Ytdmbbbljamjhkaa
