/- Walks of package vars, and of the document's answers: names. -/
import Derived.Test.YtdmbbbljamjhkaaProg
import Derived.Test.YtdmbbbljamjhkaaVr
import Derived.KernelRfl
namespace Go.Proofs.Ytdmbbbljamjhkaa
open Go.RowKit

theorem ret_bool {a b : Bool} (h : a = b) : Ending.returned (.bool a) = .returned (.bool b) := by rw [h]



end Go.Proofs.Ytdmbbbljamjhkaa
