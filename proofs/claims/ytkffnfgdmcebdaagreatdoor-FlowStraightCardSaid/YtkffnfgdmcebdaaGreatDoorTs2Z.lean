/- FlowStraight: the walk, as the frame wants it. -/
import Derived.Test.YtkffnfgdmcebdaaGreatDoorIuZ
namespace Go.Proofs.YtkffnfgdmcebdaaGreatDoor
open Go.RowKit
open Pr
theorem flowStraight_walk (n : Int) (VA : Option Addr) (vn vc : Nat) (vl : List Vr.V) (ads : List Addr) (w : World) (hn1 : -9223372036854775808 ≤ n) (hn2 : n ≤ 9223372036854775807) (hin : InRow w 4 VA vn vc (vl.flatMap Vr.V.cells)) (_ : ∀ x ∈ vl, Vr.InV x)
    (hE : Errs w 254 sents9 ads) (_ : CoWords w) :
    Calls Tryz.prog 6 #[.int .i64 n, .slice VA vn vc] w fun e w' => e = .returned (.bool true) ∧ Below w.heap.size w w' :=
  flowStraight_core (errMap pos9 ads) n VA vn vc vl w hn1 hn2 hin (stuck9 hE) (many9 hE)
end Go.Proofs.YtkffnfgdmcebdaaGreatDoor
