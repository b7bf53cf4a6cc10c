/-
  DERIVED. GIVEN WITH THE SEED: THE CARDS: each row of YthkgjdhbibialaaDoorRows.lean that lists a variable, with what it lists TIED to the program's text (the seventh form; the later family's looks); each row that meets fmt, with fmt's text TOLD by the authors' own Lean function (tested against real Go, not proved from fmt's source: count such statements apart). THE CARD IS WHAT COUNTS. Prove the row's statement (the work); the ties are given (YthkgjdhbibialaaDoorTie.lean); close each card by the builder's one call (the guide's Derived/Test/ToyasCard.lean, 'card_holds'). Laid BY PROGRAM, IN A SANDBOX (cutbox-door.mjs). By AI agents, Wed Nov 11 2026. No macro, syntax, notation, axiom, sorry.
-/
import Derived.Test.YthkgjdhbibialaaDoorRows
import GoSem.ClaimSeven
namespace Go.Proofs.YthkgjdhbibialaaDoor
namespace Rows

/-- THE TIED CARD OF 'leaseholdlaw4.VarsSay'. -/
def varsSayCard : Claim7 := { stood := { row := varsSayRow, standIns := [], harness := (true, "eea4a523bb421c9c7cd981ff0991edc7a95152d230b17d7b8d2fdf99b165dd05"), looks := true }, kinds := [], alts := [], laidByText := true, laidKinds := [.sentinel, .sentinel, .sentinel, .sentinel, .sentinel, .sentinel, .sentinel, .sentinel, .sentinel, .sentinel, .sentinel, .sentinel, .sentinel, .sentinel, .sentinel, .sentinel], laidTests := true, laidLooks := .later }
def VarsSayCardSaid : Prop := Claim7.holds Tryd.pinned (.plain (OpenSpec.ofChange varsSaySpec)) varsSayCard

/-- THE TIED CARD OF 'leaseholdlaw4.VarsSet'. -/
def varsSetCard : Claim7 := { stood := { row := varsSetRow, standIns := [], harness := (true, "eea4a523bb421c9c7cd981ff0991edc7a95152d230b17d7b8d2fdf99b165dd05"), looks := true }, kinds := [], alts := [], laidByText := true, laidKinds := [.sentinel, .sentinel, .sentinel, .sentinel, .sentinel], laidTests := true, laidLooks := .later }
def VarsSetCardSaid : Prop := Claim7.holds Tryd.pinned (.plain (OpenSpec.ofChange varsSetSpec)) varsSetCard

/-- THE TIED CARD OF 'leaseholdlaw4.VarsBack'. -/
def varsBackCard : Claim7 := { stood := { row := varsBackRow, standIns := [], harness := (true, "eea4a523bb421c9c7cd981ff0991edc7a95152d230b17d7b8d2fdf99b165dd05"), looks := true }, kinds := [], alts := [], laidByText := true, laidKinds := [.sentinel, .sentinel, .sentinel, .sentinel, .sentinel, .sentinel, .sentinel, .sentinel], laidTests := true, laidLooks := .later }
def VarsBackCardSaid : Prop := Claim7.holds Tryd.pinned (.plain (OpenSpec.ofChange varsBackSpec)) varsBackCard

/-- THE TIED CARD OF 'leaseholdlaw4.VarsNames'. -/
def varsNamesCard : Claim7 := { stood := { row := varsNamesRow, standIns := [], harness := (true, "eea4a523bb421c9c7cd981ff0991edc7a95152d230b17d7b8d2fdf99b165dd05"), looks := true }, kinds := [], alts := [], laidByText := true, laidKinds := [.sentinel, .sentinel, .sentinel, .sentinel, .sentinel], laidTests := true, laidLooks := .later }
def VarsNamesCardSaid : Prop := Claim7.holds Tryd.pinned (.plain (OpenSpec.ofChange varsNamesSpec)) varsNamesCard

/-- THE TIED CARD OF 'leaseholdlaw4.VarsOrder'. -/
def varsOrderCard : Claim7 := { stood := { row := varsOrderRow, standIns := [], harness := (true, "eea4a523bb421c9c7cd981ff0991edc7a95152d230b17d7b8d2fdf99b165dd05"), looks := true }, kinds := [], alts := [], laidByText := true, laidKinds := [.sentinel, .sentinel, .sentinel, .sentinel, .sentinel, .sentinel, .sentinel, .sentinel, .sentinel, .sentinel, .sentinel, .sentinel, .sentinel, .sentinel, .sentinel, .sentinel], laidTests := true, laidLooks := .later }
def VarsOrderCardSaid : Prop := Claim7.holds Tryd.pinned (.plain (OpenSpec.ofChange varsOrderSpec)) varsOrderCard

/-- THE SECOND FORM's CARD OF 'leaseholdlaw4.VarsSay'. -/
def varsSayUptoCard : Claim7 := { stood := { row := varsSayUptoRow, standIns := [], harness := (true, "eea4a523bb421c9c7cd981ff0991edc7a95152d230b17d7b8d2fdf99b165dd05"), looks := true }, kinds := [], alts := [], laidByText := true, laidKinds := [.sentinel, .sentinel, .sentinel, .sentinel, .sentinel, .sentinel, .sentinel, .sentinel, .sentinel, .sentinel, .sentinel, .sentinel, .sentinel, .sentinel, .sentinel, .sentinel], laidTests := true, laidLooks := .later }
def VarsSayUptoCardSaid : Prop := Claim7.holds Tryd.pinned (.plain (OpenSpec.upto varsSaySpec)) varsSayUptoCard

/-- THE SECOND FORM's CARD OF 'leaseholdlaw4.VarsSet'. -/
def varsSetUptoCard : Claim7 := { stood := { row := varsSetUptoRow, standIns := [], harness := (true, "eea4a523bb421c9c7cd981ff0991edc7a95152d230b17d7b8d2fdf99b165dd05"), looks := true }, kinds := [], alts := [], laidByText := true, laidKinds := [.sentinel, .sentinel, .sentinel, .sentinel, .sentinel], laidTests := true, laidLooks := .later }
def VarsSetUptoCardSaid : Prop := Claim7.holds Tryd.pinned (.plain (OpenSpec.upto varsSetSpec)) varsSetUptoCard

/-- THE SECOND FORM's CARD OF 'leaseholdlaw4.VarsBack'. -/
def varsBackUptoCard : Claim7 := { stood := { row := varsBackUptoRow, standIns := [], harness := (true, "eea4a523bb421c9c7cd981ff0991edc7a95152d230b17d7b8d2fdf99b165dd05"), looks := true }, kinds := [], alts := [], laidByText := true, laidKinds := [.sentinel, .sentinel, .sentinel, .sentinel, .sentinel, .sentinel, .sentinel, .sentinel], laidTests := true, laidLooks := .later }
def VarsBackUptoCardSaid : Prop := Claim7.holds Tryd.pinned (.plain (OpenSpec.upto varsBackSpec)) varsBackUptoCard

/-- THE SECOND FORM's CARD OF 'leaseholdlaw4.VarsNames'. -/
def varsNamesUptoCard : Claim7 := { stood := { row := varsNamesUptoRow, standIns := [], harness := (true, "eea4a523bb421c9c7cd981ff0991edc7a95152d230b17d7b8d2fdf99b165dd05"), looks := true }, kinds := [], alts := [], laidByText := true, laidKinds := [.sentinel, .sentinel, .sentinel, .sentinel, .sentinel], laidTests := true, laidLooks := .later }
def VarsNamesUptoCardSaid : Prop := Claim7.holds Tryd.pinned (.plain (OpenSpec.upto varsNamesSpec)) varsNamesUptoCard

/-- THE SECOND FORM's CARD OF 'leaseholdlaw4.VarsOrder'. -/
def varsOrderUptoCard : Claim7 := { stood := { row := varsOrderUptoRow, standIns := [], harness := (true, "eea4a523bb421c9c7cd981ff0991edc7a95152d230b17d7b8d2fdf99b165dd05"), looks := true }, kinds := [], alts := [], laidByText := true, laidKinds := [.sentinel, .sentinel, .sentinel, .sentinel, .sentinel, .sentinel, .sentinel, .sentinel, .sentinel, .sentinel, .sentinel, .sentinel, .sentinel, .sentinel, .sentinel, .sentinel], laidTests := true, laidLooks := .later }
def VarsOrderUptoCardSaid : Prop := Claim7.holds Tryd.pinned (.plain (OpenSpec.upto varsOrderSpec)) varsOrderUptoCard
end Rows
end Go.Proofs.YthkgjdhbibialaaDoor
