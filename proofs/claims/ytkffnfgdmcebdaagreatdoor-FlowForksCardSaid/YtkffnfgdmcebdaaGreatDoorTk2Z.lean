/- FlowForks: the walk, as the frame wants it. -/
import Derived.Test.YtkffnfgdmcebdaaGreatDoorIwY
namespace Go.Proofs.YtkffnfgdmcebdaaGreatDoor
open Go.RowKit
open Pr
theorem flowForks_walk (n : Int) (TA : Option Addr) (tn tc : Nat) (tl : List Int) (inc : Bool) (ads : List Addr) (w : World) (hn1 : -9223372036854775808 ≤ n) (hn2 : n ≤ 9223372036854775807) (ht : InRow w 1 TA tn tc (tl.map (Value.int .i64))) (htb : ∀ y ∈ tl, -9223372036854775808 ≤ y ∧ y ≤ 9223372036854775807)
    (hE : Errs w 254 sents9 ads) (_ : CoWords w) :
    Calls Tryz.prog 8 #[.int .i64 n, .slice TA tn tc, .bool inc] w fun e w' => e = .returned (.bool true) ∧ Below w.heap.size w w' := by
  cases inc with
  | true => exact flowForks_true (errMap pos9 ads) n TA tn tc tl w hn1 hn2 ht htb (stuck9 hE) (many9 hE)
  | false => exact flowForks_false (errMap pos9 ads) n TA tn tc tl w hn1 hn2 ht htb (stuck9 hE) (many9 hE)
end Go.Proofs.YtkffnfgdmcebdaaGreatDoor
