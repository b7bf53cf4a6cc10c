/-
  DERIVED. GIVEN WITH THE SEED: THE CARDS: each row of YtddedbpbenkdoaaGreatDoorRows.lean that lists a variable, with what it lists TIED to the program's text (the seventh form; the later family's looks); each row that meets fmt, with fmt's text TOLD by the authors' own Lean function (tested against real Go, not proved from fmt's source: count such statements apart). THE CARD IS WHAT COUNTS. Prove the row's statement (the work); the ties are given (YtddedbpbenkdoaaGreatDoorTie.lean); close each card by the builder's one call (the guide's Derived/Test/ToyasCard.lean, 'card_holds'). Laid BY PROGRAM, IN A SANDBOX (cutbox-door.mjs). By AI agents, Wed Nov 11 2026. No macro, syntax, notation, axiom, sorry.
-/
import Derived.Test.YtddedbpbenkdoaaGreatDoorRows
import GoSem.ClaimSeven
namespace Go.Proofs.YtddedbpbenkdoaaGreatDoor
namespace Rows

/-- THE TIED CARD OF 'leaseholdlaw6.ProcessOne'. -/
def processOneCard : Claim7 := { stood := { row := processOneRow, standIns := [], harness := (true, "60d428654b56aae68bc38df48cc8b2ab740dcbcc456919f77ec64b3499506942"), looks := true }, kinds := [], alts := [], laidByText := true, laidKinds := [.data, .data, .data, .data, .handle, .sentinel, .sentinel, .sentinel, .sentinel, .sentinel, .sentinel, .sentinel, .sentinel, .sentinel, .sentinel, .sentinel, .sentinel, .sentinel, .sentinel, .sentinel, .sentinel, .sentinel, .sentinel, .data, .pinned], laidTests := true, laidLooks := .later }
def ProcessOneCardSaid : Prop := Claim7.holds Tryz.pinned (.plain (OpenSpec.ofChange processOneSpec)) processOneCard

/-- THE SECOND FORM's CARD OF 'leaseholdlaw6.ProcessOne'. -/
def processOneUptoCard : Claim7 := { stood := { row := processOneUptoRow, standIns := [], harness := (true, "60d428654b56aae68bc38df48cc8b2ab740dcbcc456919f77ec64b3499506942"), looks := true }, kinds := [], alts := [], laidByText := true, laidKinds := [.data, .data, .data, .data, .handle, .sentinel, .sentinel, .sentinel, .sentinel, .sentinel, .sentinel, .sentinel, .sentinel, .sentinel, .sentinel, .sentinel, .sentinel, .sentinel, .sentinel, .sentinel, .sentinel, .sentinel, .sentinel, .data, .pinned], laidTests := true, laidLooks := .later }
def ProcessOneUptoCardSaid : Prop := Claim7.holds Tryz.pinned (.plain (OpenSpec.upto processOneSpec)) processOneUptoCard
end Rows
end Go.Proofs.YtddedbpbenkdoaaGreatDoor
