/-
  DERIVED. GIVEN WITH THE SEED: THE CARDS: each row of YtlmlhjepolefaaaGreatDoorRows.lean that lists a variable, with what it lists TIED to the program's text (the seventh form; the later family's looks); each row that meets fmt, with fmt's text TOLD by the authors' own Lean function (tested against real Go, not proved from fmt's source: count such statements apart). THE CARD IS WHAT COUNTS. Prove the row's statement (the work); the ties are given (YtlmlhjepolefaaaGreatDoorTie.lean); close each card by the builder's one call (the guide's Derived/Test/ToyasCard.lean, 'card_holds'). Laid BY PROGRAM, IN A SANDBOX (cutbox-door.mjs). By AI agents, Wed Nov 11 2026. No macro, syntax, notation, axiom, sorry.
-/
import Derived.Test.YtlmlhjepolefaaaGreatDoorRows
import GoSem.ClaimSeven
namespace Go.Proofs.YtlmlhjepolefaaaGreatDoor
namespace Rows

/-- THE TIED CARD OF 'leaseholdlaw8.TokenJoins'. -/
def tokenJoinsCard : Claim7 := { stood := { row := tokenJoinsRow, standIns := [], harness := (true, "83ab8a81f634555cb176d37c61c58ac952462e0b649ddaee1f647d713004e7ed"), looks := true }, kinds := [], alts := [], laidByText := true, laidKinds := [.data, .data, .data, .data, .sentinel, .sentinel, .sentinel, .sentinel, .sentinel, .sentinel, .sentinel, .sentinel, .sentinel, .sentinel, .sentinel, .data, .pinned], laidTests := true, laidLooks := .later }
def TokenJoinsCardSaid : Prop := Claim7.holds Tryz.pinned (.plain (OpenSpec.ofChange tokenJoinsSpec)) tokenJoinsCard

/-- THE TIED CARD OF 'leaseholdlaw8.TokenChoices'. -/
def tokenChoicesCard : Claim7 := { stood := { row := tokenChoicesRow, standIns := [], harness := (true, "83ab8a81f634555cb176d37c61c58ac952462e0b649ddaee1f647d713004e7ed"), looks := true }, kinds := [], alts := [], laidByText := true, laidKinds := [.data, .data, .data, .data, .sentinel, .sentinel, .sentinel, .sentinel, .sentinel, .sentinel, .sentinel, .sentinel, .sentinel, .sentinel, .sentinel, .sentinel, .sentinel, .sentinel, .sentinel, .sentinel, .sentinel, .sentinel, .data, .pinned], laidTests := true, laidLooks := .later }
def TokenChoicesCardSaid : Prop := Claim7.holds Tryz.pinned (.plain (OpenSpec.ofChange tokenChoicesSpec)) tokenChoicesCard

/-- THE TIED CARD OF 'leaseholdlaw8.TokenWaits'. -/
def tokenWaitsCard : Claim7 := { stood := { row := tokenWaitsRow, standIns := [], harness := (true, "83ab8a81f634555cb176d37c61c58ac952462e0b649ddaee1f647d713004e7ed"), looks := true }, kinds := [], alts := [], laidByText := true, laidKinds := [.data, .data, .data, .data, .sentinel, .sentinel, .sentinel, .sentinel, .sentinel, .sentinel, .sentinel, .sentinel, .sentinel, .sentinel, .sentinel, .data, .pinned], laidTests := true, laidLooks := .later }
def TokenWaitsCardSaid : Prop := Claim7.holds Tryz.pinned (.plain (OpenSpec.ofChange tokenWaitsSpec)) tokenWaitsCard

/-- THE TIED CARD OF 'leaseholdlaw8.TokenMany'. -/
def tokenManyCard : Claim7 := { stood := { row := tokenManyRow, standIns := [], harness := (true, "83ab8a81f634555cb176d37c61c58ac952462e0b649ddaee1f647d713004e7ed"), looks := true }, kinds := [], alts := [], laidByText := true, laidKinds := [.data, .data, .data, .data, .sentinel, .sentinel, .sentinel, .sentinel, .sentinel, .sentinel, .sentinel, .sentinel, .sentinel, .sentinel, .sentinel, .data, .pinned], laidTests := true, laidLooks := .later }
def TokenManyCardSaid : Prop := Claim7.holds Tryz.pinned (.plain (OpenSpec.ofChange tokenManySpec)) tokenManyCard

/-- THE SECOND FORM's CARD OF 'leaseholdlaw8.TokenJoins'. -/
def tokenJoinsUptoCard : Claim7 := { stood := { row := tokenJoinsUptoRow, standIns := [], harness := (true, "83ab8a81f634555cb176d37c61c58ac952462e0b649ddaee1f647d713004e7ed"), looks := true }, kinds := [], alts := [], laidByText := true, laidKinds := [.data, .data, .data, .data, .sentinel, .sentinel, .sentinel, .sentinel, .sentinel, .sentinel, .sentinel, .sentinel, .sentinel, .sentinel, .sentinel, .data, .pinned], laidTests := true, laidLooks := .later }
def TokenJoinsUptoCardSaid : Prop := Claim7.holds Tryz.pinned (.plain (OpenSpec.upto tokenJoinsSpec)) tokenJoinsUptoCard

/-- THE SECOND FORM's CARD OF 'leaseholdlaw8.TokenChoices'. -/
def tokenChoicesUptoCard : Claim7 := { stood := { row := tokenChoicesUptoRow, standIns := [], harness := (true, "83ab8a81f634555cb176d37c61c58ac952462e0b649ddaee1f647d713004e7ed"), looks := true }, kinds := [], alts := [], laidByText := true, laidKinds := [.data, .data, .data, .data, .sentinel, .sentinel, .sentinel, .sentinel, .sentinel, .sentinel, .sentinel, .sentinel, .sentinel, .sentinel, .sentinel, .sentinel, .sentinel, .sentinel, .sentinel, .sentinel, .sentinel, .sentinel, .data, .pinned], laidTests := true, laidLooks := .later }
def TokenChoicesUptoCardSaid : Prop := Claim7.holds Tryz.pinned (.plain (OpenSpec.upto tokenChoicesSpec)) tokenChoicesUptoCard

/-- THE SECOND FORM's CARD OF 'leaseholdlaw8.TokenWaits'. -/
def tokenWaitsUptoCard : Claim7 := { stood := { row := tokenWaitsUptoRow, standIns := [], harness := (true, "83ab8a81f634555cb176d37c61c58ac952462e0b649ddaee1f647d713004e7ed"), looks := true }, kinds := [], alts := [], laidByText := true, laidKinds := [.data, .data, .data, .data, .sentinel, .sentinel, .sentinel, .sentinel, .sentinel, .sentinel, .sentinel, .sentinel, .sentinel, .sentinel, .sentinel, .data, .pinned], laidTests := true, laidLooks := .later }
def TokenWaitsUptoCardSaid : Prop := Claim7.holds Tryz.pinned (.plain (OpenSpec.upto tokenWaitsSpec)) tokenWaitsUptoCard

/-- THE SECOND FORM's CARD OF 'leaseholdlaw8.TokenMany'. -/
def tokenManyUptoCard : Claim7 := { stood := { row := tokenManyUptoRow, standIns := [], harness := (true, "83ab8a81f634555cb176d37c61c58ac952462e0b649ddaee1f647d713004e7ed"), looks := true }, kinds := [], alts := [], laidByText := true, laidKinds := [.data, .data, .data, .data, .sentinel, .sentinel, .sentinel, .sentinel, .sentinel, .sentinel, .sentinel, .sentinel, .sentinel, .sentinel, .sentinel, .data, .pinned], laidTests := true, laidLooks := .later }
def TokenManyUptoCardSaid : Prop := Claim7.holds Tryz.pinned (.plain (OpenSpec.upto tokenManySpec)) tokenManyUptoCard
end Rows
end Go.Proofs.YtlmlhjepolefaaaGreatDoor
