/- Package queue: slices.DeleteFunc of those that are not free (walk). -/
import Derived.Test.YtdmbbbljamjhkaaLi
namespace Go.Proofs.Ytdmbbbljamjhkaa
open Go.RowKit

namespace Qu
open Ls (T)
end Qu
end Go.Proofs.Ytdmbbbljamjhkaa
