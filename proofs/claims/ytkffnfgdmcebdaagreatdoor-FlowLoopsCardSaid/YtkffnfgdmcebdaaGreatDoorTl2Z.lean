/- FlowLoops: the walk, as the frame wants it. -/
import Derived.Test.YtkffnfgdmcebdaaGreatDoorItY
namespace Go.Proofs.YtkffnfgdmcebdaaGreatDoor
open Go.RowKit
open Pr
theorem flowLoops_walk (n : Int) (work : Bool) (ads : List Addr) (w : World) (hn1 : -9223372036854775808 ≤ n) (hn2 : n ≤ 9223372036854775807)
    (hE : Errs w 254 sents9 ads) (hW : CoWords w) :
    Calls Tryz.prog 7 #[.int .i64 n, .bool work] w fun e w' => e = .returned (.bool true) ∧ Below w.heap.size w w' :=
  flowLoops_core (errMap pos9 ads) n work w hn1 hn2 (stuck9 hE) (many9 hE) (coErrsE9 hE hW)
end Go.Proofs.YtkffnfgdmcebdaaGreatDoor
