/-
  DERIVED. GIVEN WITH THE SEED: THE CARDS: each row of YtjababmmcejgdaaGreatDoorRows.lean that lists a variable, with what it lists TIED to the program's text (the seventh form; the later family's looks); each row that meets fmt, with fmt's text TOLD by the authors' own Lean function (tested against real Go, not proved from fmt's source: count such statements apart). THE CARD IS WHAT COUNTS. Prove the row's statement (the work); the ties are given (YtjababmmcejgdaaGreatDoorTie.lean); close each card by the builder's one call (the guide's Derived/Test/ToyasCard.lean, 'card_holds'). Laid BY PROGRAM, IN A SANDBOX (cutbox-door.mjs). By AI agents, Wed Nov 11 2026. No macro, syntax, notation, axiom, sorry.
-/
import Derived.Test.YtjababmmcejgdaaGreatDoorRows
import GoSem.ClaimSeven
namespace Go.Proofs.YtjababmmcejgdaaGreatDoor
namespace Rows

/-- THE TIED CARD OF 'leaseholdlaw6.ProcessOne'. -/
def processOneCard : Claim7 := { stood := { row := processOneRow, standIns := [], harness := (true, "3a4b67b1a109e303bbb0d6a82d2207c3278c2a5ab25448702bc9adc3fe01462d"), looks := true }, kinds := [], alts := [], laidByText := true, laidKinds := [.data, .data, .data, .data, .handle, .sentinel, .sentinel, .sentinel, .sentinel, .sentinel, .sentinel, .sentinel, .sentinel, .sentinel, .sentinel, .sentinel, .sentinel, .sentinel, .sentinel, .sentinel, .sentinel, .sentinel, .sentinel, .data, .pinned], laidTests := true, laidLooks := .later }
def ProcessOneCardSaid : Prop := Claim7.holds Tryz.pinned (.plain (OpenSpec.ofChange processOneSpec)) processOneCard

/-- THE TIED CARD OF 'leaseholdlaw6.ProcessBack'. -/
def processBackCard : Claim7 := { stood := { row := processBackRow, standIns := [], harness := (true, "3a4b67b1a109e303bbb0d6a82d2207c3278c2a5ab25448702bc9adc3fe01462d"), looks := true }, kinds := [], alts := [], laidByText := true, laidKinds := [.data, .data, .data, .data, .handle, .sentinel, .sentinel, .sentinel, .sentinel, .sentinel, .sentinel, .sentinel, .sentinel, .sentinel, .sentinel, .data, .pinned], laidTests := true, laidLooks := .later }
def ProcessBackCardSaid : Prop := Claim7.holds Tryz.pinned (.plain (OpenSpec.ofChange processBackSpec)) processBackCard

/-- THE TIED CARD OF 'leaseholdlaw6.ProcessBounds'. -/
def processBoundsCard : Claim7 := { stood := { row := processBoundsRow, standIns := [], harness := (true, "3a4b67b1a109e303bbb0d6a82d2207c3278c2a5ab25448702bc9adc3fe01462d"), looks := true }, kinds := [], alts := [], laidByText := true, laidKinds := [.data, .data, .data, .data, .handle, .sentinel, .sentinel, .sentinel, .sentinel, .sentinel, .sentinel, .sentinel, .sentinel, .sentinel, .sentinel, .sentinel, .sentinel, .sentinel, .sentinel, .sentinel, .sentinel, .sentinel, .sentinel, .data, .pinned], laidTests := true, laidLooks := .later }
def ProcessBoundsCardSaid : Prop := Claim7.holds Tryz.pinned (.plain (OpenSpec.ofChange processBoundsSpec)) processBoundsCard

/-- THE SECOND FORM's CARD OF 'leaseholdlaw6.ProcessOne'. -/
def processOneUptoCard : Claim7 := { stood := { row := processOneUptoRow, standIns := [], harness := (true, "3a4b67b1a109e303bbb0d6a82d2207c3278c2a5ab25448702bc9adc3fe01462d"), looks := true }, kinds := [], alts := [], laidByText := true, laidKinds := [.data, .data, .data, .data, .handle, .sentinel, .sentinel, .sentinel, .sentinel, .sentinel, .sentinel, .sentinel, .sentinel, .sentinel, .sentinel, .sentinel, .sentinel, .sentinel, .sentinel, .sentinel, .sentinel, .sentinel, .sentinel, .data, .pinned], laidTests := true, laidLooks := .later }
def ProcessOneUptoCardSaid : Prop := Claim7.holds Tryz.pinned (.plain (OpenSpec.upto processOneSpec)) processOneUptoCard

/-- THE SECOND FORM's CARD OF 'leaseholdlaw6.ProcessBack'. -/
def processBackUptoCard : Claim7 := { stood := { row := processBackUptoRow, standIns := [], harness := (true, "3a4b67b1a109e303bbb0d6a82d2207c3278c2a5ab25448702bc9adc3fe01462d"), looks := true }, kinds := [], alts := [], laidByText := true, laidKinds := [.data, .data, .data, .data, .handle, .sentinel, .sentinel, .sentinel, .sentinel, .sentinel, .sentinel, .sentinel, .sentinel, .sentinel, .sentinel, .data, .pinned], laidTests := true, laidLooks := .later }
def ProcessBackUptoCardSaid : Prop := Claim7.holds Tryz.pinned (.plain (OpenSpec.upto processBackSpec)) processBackUptoCard

/-- THE SECOND FORM's CARD OF 'leaseholdlaw6.ProcessBounds'. -/
def processBoundsUptoCard : Claim7 := { stood := { row := processBoundsUptoRow, standIns := [], harness := (true, "3a4b67b1a109e303bbb0d6a82d2207c3278c2a5ab25448702bc9adc3fe01462d"), looks := true }, kinds := [], alts := [], laidByText := true, laidKinds := [.data, .data, .data, .data, .handle, .sentinel, .sentinel, .sentinel, .sentinel, .sentinel, .sentinel, .sentinel, .sentinel, .sentinel, .sentinel, .sentinel, .sentinel, .sentinel, .sentinel, .sentinel, .sentinel, .sentinel, .sentinel, .data, .pinned], laidTests := true, laidLooks := .later }
def ProcessBoundsUptoCardSaid : Prop := Claim7.holds Tryz.pinned (.plain (OpenSpec.upto processBoundsSpec)) processBoundsUptoCard
end Rows
end Go.Proofs.YtjababmmcejgdaaGreatDoor
