/-
  DERIVED. GIVEN WITH THE SEED: THE CARDS: each row of YtkffnfgdmcebdaaGreatDoorRows.lean that lists a variable, with what it lists TIED to the program's text (the seventh form; the later family's looks); each row that meets fmt, with fmt's text TOLD by the authors' own Lean function (tested against real Go, not proved from fmt's source: count such statements apart). THE CARD IS WHAT COUNTS. Prove the row's statement (the work); the ties are given (YtkffnfgdmcebdaaGreatDoorTie.lean); close each card by the builder's one call (the guide's Derived/Test/ToyasCard.lean, 'card_holds'). Laid BY PROGRAM, IN A SANDBOX (cutbox-door.mjs). By AI agents, Wed Nov 11 2026. No macro, syntax, notation, axiom, sorry.
-/
import Derived.Test.YtkffnfgdmcebdaaGreatDoorRows
import GoSem.ClaimSeven
namespace Go.Proofs.YtkffnfgdmcebdaaGreatDoor
namespace Rows

/-- THE TIED CARD OF 'leaseholdlaw8.TokenRuns'. -/
def tokenRunsCard : Claim7 := { stood := { row := tokenRunsRow, standIns := [], harness := (true, "eba36e59789f326e3106e92dbe7c3f9b0143c35cebb359862c9be65c05929c9c"), looks := true }, kinds := [], alts := [], laidByText := true, laidKinds := [.data, .data, .data, .data, .sentinel, .sentinel, .sentinel, .sentinel, .sentinel, .sentinel, .sentinel, .sentinel, .sentinel, .sentinel, .sentinel, .sentinel, .sentinel, .sentinel, .sentinel, .sentinel, .sentinel, .sentinel, .data, .pinned], laidTests := true, laidLooks := .later }
def TokenRunsCardSaid : Prop := Claim7.holds Tryz.pinned (.plain (OpenSpec.ofChange tokenRunsSpec)) tokenRunsCard

/-- THE TIED CARD OF 'leaseholdlaw9.FlowPlays'. -/
def flowPlaysCard : Claim7 := { stood := { row := flowPlaysRow, standIns := [], harness := (true, "eba36e59789f326e3106e92dbe7c3f9b0143c35cebb359862c9be65c05929c9c"), looks := true }, kinds := [], alts := [], laidByText := true, laidKinds := [.data, .data, .data, .data, .sentinel, .sentinel, .sentinel, .sentinel, .sentinel, .sentinel, .sentinel, .sentinel, .sentinel, .sentinel, .sentinel, .data, .pinned], laidTests := true, laidLooks := .later }
def FlowPlaysCardSaid : Prop := Claim7.holds Tryz.pinned (.plain (OpenSpec.ofChange flowPlaysSpec)) flowPlaysCard

/-- THE TIED CARD OF 'leaseholdlaw9.FlowRests'. -/
def flowRestsCard : Claim7 := { stood := { row := flowRestsRow, standIns := [], harness := (true, "eba36e59789f326e3106e92dbe7c3f9b0143c35cebb359862c9be65c05929c9c"), looks := true }, kinds := [], alts := [], laidByText := true, laidKinds := [.data, .data, .data, .data, .sentinel, .sentinel, .sentinel, .sentinel, .sentinel, .sentinel, .sentinel, .sentinel, .sentinel, .sentinel, .sentinel, .data, .pinned], laidTests := true, laidLooks := .later }
def FlowRestsCardSaid : Prop := Claim7.holds Tryz.pinned (.plain (OpenSpec.ofChange flowRestsSpec)) flowRestsCard

/-- THE TIED CARD OF 'leaseholdlaw9.FlowStraight'. -/
def flowStraightCard : Claim7 := { stood := { row := flowStraightRow, standIns := [], harness := (true, "eba36e59789f326e3106e92dbe7c3f9b0143c35cebb359862c9be65c05929c9c"), looks := true }, kinds := [], alts := [], laidByText := true, laidKinds := [.data, .data, .data, .data, .sentinel, .sentinel, .sentinel, .sentinel, .sentinel, .sentinel, .sentinel, .sentinel, .sentinel, .sentinel, .sentinel, .data, .pinned], laidTests := true, laidLooks := .later }
def FlowStraightCardSaid : Prop := Claim7.holds Tryz.pinned (.plain (OpenSpec.ofChange flowStraightSpec)) flowStraightCard

/-- THE TIED CARD OF 'leaseholdlaw9.FlowLoops'. -/
def flowLoopsCard : Claim7 := { stood := { row := flowLoopsRow, standIns := [], harness := (true, "eba36e59789f326e3106e92dbe7c3f9b0143c35cebb359862c9be65c05929c9c"), looks := true }, kinds := [], alts := [], laidByText := true, laidKinds := [.data, .data, .data, .data, .sentinel, .sentinel, .sentinel, .sentinel, .sentinel, .sentinel, .sentinel, .sentinel, .sentinel, .sentinel, .sentinel, .data, .pinned], laidTests := true, laidLooks := .later }
def FlowLoopsCardSaid : Prop := Claim7.holds Tryz.pinned (.plain (OpenSpec.ofChange flowLoopsSpec)) flowLoopsCard

/-- THE TIED CARD OF 'leaseholdlaw9.FlowForks'. -/
def flowForksCard : Claim7 := { stood := { row := flowForksRow, standIns := [], harness := (true, "eba36e59789f326e3106e92dbe7c3f9b0143c35cebb359862c9be65c05929c9c"), looks := true }, kinds := [], alts := [], laidByText := true, laidKinds := [.data, .data, .data, .data, .sentinel, .sentinel, .sentinel, .sentinel, .sentinel, .sentinel, .sentinel, .sentinel, .sentinel, .sentinel, .sentinel, .data, .pinned], laidTests := true, laidLooks := .later }
def FlowForksCardSaid : Prop := Claim7.holds Tryz.pinned (.plain (OpenSpec.ofChange flowForksSpec)) flowForksCard

/-- THE SECOND FORM's CARD OF 'leaseholdlaw8.TokenRuns'. -/
def tokenRunsUptoCard : Claim7 := { stood := { row := tokenRunsUptoRow, standIns := [], harness := (true, "eba36e59789f326e3106e92dbe7c3f9b0143c35cebb359862c9be65c05929c9c"), looks := true }, kinds := [], alts := [], laidByText := true, laidKinds := [.data, .data, .data, .data, .sentinel, .sentinel, .sentinel, .sentinel, .sentinel, .sentinel, .sentinel, .sentinel, .sentinel, .sentinel, .sentinel, .sentinel, .sentinel, .sentinel, .sentinel, .sentinel, .sentinel, .sentinel, .data, .pinned], laidTests := true, laidLooks := .later }
def TokenRunsUptoCardSaid : Prop := Claim7.holds Tryz.pinned (.plain (OpenSpec.upto tokenRunsSpec)) tokenRunsUptoCard

/-- THE SECOND FORM's CARD OF 'leaseholdlaw9.FlowPlays'. -/
def flowPlaysUptoCard : Claim7 := { stood := { row := flowPlaysUptoRow, standIns := [], harness := (true, "eba36e59789f326e3106e92dbe7c3f9b0143c35cebb359862c9be65c05929c9c"), looks := true }, kinds := [], alts := [], laidByText := true, laidKinds := [.data, .data, .data, .data, .sentinel, .sentinel, .sentinel, .sentinel, .sentinel, .sentinel, .sentinel, .sentinel, .sentinel, .sentinel, .sentinel, .data, .pinned], laidTests := true, laidLooks := .later }
def FlowPlaysUptoCardSaid : Prop := Claim7.holds Tryz.pinned (.plain (OpenSpec.upto flowPlaysSpec)) flowPlaysUptoCard

/-- THE SECOND FORM's CARD OF 'leaseholdlaw9.FlowRests'. -/
def flowRestsUptoCard : Claim7 := { stood := { row := flowRestsUptoRow, standIns := [], harness := (true, "eba36e59789f326e3106e92dbe7c3f9b0143c35cebb359862c9be65c05929c9c"), looks := true }, kinds := [], alts := [], laidByText := true, laidKinds := [.data, .data, .data, .data, .sentinel, .sentinel, .sentinel, .sentinel, .sentinel, .sentinel, .sentinel, .sentinel, .sentinel, .sentinel, .sentinel, .data, .pinned], laidTests := true, laidLooks := .later }
def FlowRestsUptoCardSaid : Prop := Claim7.holds Tryz.pinned (.plain (OpenSpec.upto flowRestsSpec)) flowRestsUptoCard

/-- THE SECOND FORM's CARD OF 'leaseholdlaw9.FlowStraight'. -/
def flowStraightUptoCard : Claim7 := { stood := { row := flowStraightUptoRow, standIns := [], harness := (true, "eba36e59789f326e3106e92dbe7c3f9b0143c35cebb359862c9be65c05929c9c"), looks := true }, kinds := [], alts := [], laidByText := true, laidKinds := [.data, .data, .data, .data, .sentinel, .sentinel, .sentinel, .sentinel, .sentinel, .sentinel, .sentinel, .sentinel, .sentinel, .sentinel, .sentinel, .data, .pinned], laidTests := true, laidLooks := .later }
def FlowStraightUptoCardSaid : Prop := Claim7.holds Tryz.pinned (.plain (OpenSpec.upto flowStraightSpec)) flowStraightUptoCard

/-- THE SECOND FORM's CARD OF 'leaseholdlaw9.FlowLoops'. -/
def flowLoopsUptoCard : Claim7 := { stood := { row := flowLoopsUptoRow, standIns := [], harness := (true, "eba36e59789f326e3106e92dbe7c3f9b0143c35cebb359862c9be65c05929c9c"), looks := true }, kinds := [], alts := [], laidByText := true, laidKinds := [.data, .data, .data, .data, .sentinel, .sentinel, .sentinel, .sentinel, .sentinel, .sentinel, .sentinel, .sentinel, .sentinel, .sentinel, .sentinel, .data, .pinned], laidTests := true, laidLooks := .later }
def FlowLoopsUptoCardSaid : Prop := Claim7.holds Tryz.pinned (.plain (OpenSpec.upto flowLoopsSpec)) flowLoopsUptoCard

/-- THE SECOND FORM's CARD OF 'leaseholdlaw9.FlowForks'. -/
def flowForksUptoCard : Claim7 := { stood := { row := flowForksUptoRow, standIns := [], harness := (true, "eba36e59789f326e3106e92dbe7c3f9b0143c35cebb359862c9be65c05929c9c"), looks := true }, kinds := [], alts := [], laidByText := true, laidKinds := [.data, .data, .data, .data, .sentinel, .sentinel, .sentinel, .sentinel, .sentinel, .sentinel, .sentinel, .sentinel, .sentinel, .sentinel, .sentinel, .data, .pinned], laidTests := true, laidLooks := .later }
def FlowForksUptoCardSaid : Prop := Claim7.holds Tryz.pinned (.plain (OpenSpec.upto flowForksSpec)) flowForksUptoCard
end Rows
end Go.Proofs.YtkffnfgdmcebdaaGreatDoor
