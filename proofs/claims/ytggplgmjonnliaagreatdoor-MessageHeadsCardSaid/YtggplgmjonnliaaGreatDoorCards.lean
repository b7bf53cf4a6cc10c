/-
  DERIVED. GIVEN WITH THE SEED: THE CARDS: each row of YtggplgmjonnliaaGreatDoorRows.lean that lists a variable, with what it lists TIED to the program's text (the seventh form; the later family's looks); each row that meets fmt, with fmt's text TOLD by the authors' own Lean function (tested against real Go, not proved from fmt's source: count such statements apart). THE CARD IS WHAT COUNTS. Prove the row's statement (the work); the ties are given (YtggplgmjonnliaaGreatDoorTie.lean); close each card by the builder's one call (the guide's Derived/Test/ToyasCard.lean, 'card_holds'). Laid BY PROGRAM, IN A SANDBOX (cutbox-door.mjs). By AI agents, Wed Nov 11 2026. No macro, syntax, notation, axiom, sorry.
-/
import Derived.Test.YtggplgmjonnliaaGreatDoorRows
import GoSem.ClaimSeven
namespace Go.Proofs.YtggplgmjonnliaaGreatDoor
namespace Rows

/-- THE TIED CARD OF 'leaseholdlaw13.MessageHeads'. -/
def messageHeadsCard : Claim7 := { stood := { row := messageHeadsRow, standIns := [], harness := (true, "ccd29f04bf81f56f4b385f7a1ead18145e52ba07450f86f04bff3c233b89fac7"), looks := true }, kinds := [], alts := [], laidByText := true, laidKinds := [.data, .data, .data, .data, .handle, .sentinel, .sentinel, .sentinel, .sentinel, .sentinel, .sentinel, .sentinel, .sentinel, .sentinel, .sentinel, .sentinel, .sentinel, .sentinel, .sentinel, .sentinel, .sentinel, .sentinel, .sentinel, .data, .pinned], laidTests := true, laidLooks := .later }
def MessageHeadsCardSaid : Prop := Claim7.holds Tryz.pinned (.plain (OpenSpec.ofChange messageHeadsSpec)) messageHeadsCard

/-- THE TIED CARD OF 'leaseholdlaw13.MessageTopics'. -/
def messageTopicsCard : Claim7 := { stood := { row := messageTopicsRow, standIns := [], harness := (true, "ccd29f04bf81f56f4b385f7a1ead18145e52ba07450f86f04bff3c233b89fac7"), looks := true }, kinds := [], alts := [], laidByText := true, laidKinds := [.data, .data, .data, .data, .handle, .sentinel, .sentinel, .sentinel, .sentinel, .sentinel, .sentinel, .sentinel, .sentinel, .sentinel, .sentinel, .sentinel, .sentinel, .sentinel, .sentinel, .sentinel, .sentinel, .sentinel, .sentinel, .data, .pinned], laidTests := true, laidLooks := .later }
def MessageTopicsCardSaid : Prop := Claim7.holds Tryz.pinned (.plain (OpenSpec.ofChange messageTopicsSpec)) messageTopicsCard

/-- THE SECOND FORM's CARD OF 'leaseholdlaw13.MessageHeads'. -/
def messageHeadsUptoCard : Claim7 := { stood := { row := messageHeadsUptoRow, standIns := [], harness := (true, "ccd29f04bf81f56f4b385f7a1ead18145e52ba07450f86f04bff3c233b89fac7"), looks := true }, kinds := [], alts := [], laidByText := true, laidKinds := [.data, .data, .data, .data, .handle, .sentinel, .sentinel, .sentinel, .sentinel, .sentinel, .sentinel, .sentinel, .sentinel, .sentinel, .sentinel, .sentinel, .sentinel, .sentinel, .sentinel, .sentinel, .sentinel, .sentinel, .sentinel, .data, .pinned], laidTests := true, laidLooks := .later }
def MessageHeadsUptoCardSaid : Prop := Claim7.holds Tryz.pinned (.plain (OpenSpec.upto messageHeadsSpec)) messageHeadsUptoCard

/-- THE SECOND FORM's CARD OF 'leaseholdlaw13.MessageTopics'. -/
def messageTopicsUptoCard : Claim7 := { stood := { row := messageTopicsUptoRow, standIns := [], harness := (true, "ccd29f04bf81f56f4b385f7a1ead18145e52ba07450f86f04bff3c233b89fac7"), looks := true }, kinds := [], alts := [], laidByText := true, laidKinds := [.data, .data, .data, .data, .handle, .sentinel, .sentinel, .sentinel, .sentinel, .sentinel, .sentinel, .sentinel, .sentinel, .sentinel, .sentinel, .sentinel, .sentinel, .sentinel, .sentinel, .sentinel, .sentinel, .sentinel, .sentinel, .data, .pinned], laidTests := true, laidLooks := .later }
def MessageTopicsUptoCardSaid : Prop := Claim7.holds Tryz.pinned (.plain (OpenSpec.upto messageTopicsSpec)) messageTopicsUptoCard
end Rows
end Go.Proofs.YtggplgmjonnliaaGreatDoor
