/-
  DERIVED. GIVEN WITH THE SEED: THE CARDS: each row of YtpjdbccndlbbhaaGreatDoorRows.lean that lists a variable, with what it lists TIED to the program's text (the seventh form; the later family's looks); each row that meets fmt, with fmt's text TOLD by the authors' own Lean function (tested against real Go, not proved from fmt's source: count such statements apart). THE CARD IS WHAT COUNTS. Prove the row's statement (the work); the ties are given (YtpjdbccndlbbhaaGreatDoorTie.lean); close each card by the builder's one call (the guide's Derived/Test/ToyasCard.lean, 'card_holds'). Laid BY PROGRAM, IN A SANDBOX (cutbox-door.mjs). By AI agents, Wed Nov 11 2026. No macro, syntax, notation, axiom, sorry.
-/
import Derived.Test.YtpjdbccndlbbhaaGreatDoorRows
import GoSem.ClaimSeven
namespace Go.Proofs.YtpjdbccndlbbhaaGreatDoor
namespace Rows

/-- THE TIED CARD OF 'leaseholdlaw5.CondBool'. -/
def condBoolCard : Claim7 := { stood := { row := condBoolRow, standIns := [], harness := (true, "8fe688eba9e2cec93c12a2f6a0cde1e1debd38eedd760180ad61671f2a0555b3"), looks := true }, kinds := [], alts := [], laidByText := true, laidKinds := [.data, .data, .data, .data, .sentinel, .sentinel, .sentinel, .sentinel, .sentinel, .sentinel, .sentinel, .sentinel, .data, .pinned], laidTests := true, laidLooks := .later }
def CondBoolCardSaid : Prop := Claim7.holds Tryz.pinned (.plain (OpenSpec.ofChange condBoolSpec)) condBoolCard

/-- THE TIED CARD OF 'leaseholdlaw5.CondNumbers'. -/
def condNumbersCard : Claim7 := { stood := { row := condNumbersRow, standIns := [], harness := (true, "8fe688eba9e2cec93c12a2f6a0cde1e1debd38eedd760180ad61671f2a0555b3"), looks := true }, kinds := [], alts := [], laidByText := true, laidKinds := [.data, .data, .data, .data, .sentinel, .sentinel, .sentinel, .sentinel, .sentinel, .sentinel, .sentinel, .sentinel, .sentinel, .sentinel, .sentinel, .sentinel, .sentinel, .sentinel, .sentinel, .sentinel, .sentinel, .sentinel, .data, .pinned], laidTests := true, laidLooks := .later }
def CondNumbersCardSaid : Prop := Claim7.holds Tryz.pinned (.plain (OpenSpec.ofChange condNumbersSpec)) condNumbersCard

/-- THE TIED CARD OF 'leaseholdlaw5.CondLazy'. -/
def condLazyCard : Claim7 := { stood := { row := condLazyRow, standIns := [], harness := (true, "8fe688eba9e2cec93c12a2f6a0cde1e1debd38eedd760180ad61671f2a0555b3"), looks := true }, kinds := [], alts := [], laidByText := true, laidKinds := [.data, .data, .data, .data, .sentinel, .sentinel, .sentinel, .sentinel, .sentinel, .sentinel, .sentinel, .sentinel, .sentinel, .sentinel, .sentinel, .sentinel, .sentinel, .sentinel, .sentinel, .sentinel, .sentinel, .sentinel, .data, .pinned], laidTests := true, laidLooks := .later }
def CondLazyCardSaid : Prop := Claim7.holds Tryz.pinned (.plain (OpenSpec.ofChange condLazySpec)) condLazyCard

/-- THE TIED CARD OF 'leaseholdlaw5.CondDeep'. -/
def condDeepCard : Claim7 := { stood := { row := condDeepRow, standIns := [], harness := (true, "8fe688eba9e2cec93c12a2f6a0cde1e1debd38eedd760180ad61671f2a0555b3"), looks := true }, kinds := [], alts := [], laidByText := true, laidKinds := [.data, .data, .data, .data, .sentinel, .sentinel, .sentinel, .sentinel, .sentinel, .sentinel, .sentinel, .sentinel, .sentinel, .sentinel, .sentinel, .sentinel, .sentinel, .sentinel, .sentinel, .sentinel, .sentinel, .sentinel, .data, .pinned], laidTests := true, laidLooks := .later }
def CondDeepCardSaid : Prop := Claim7.holds Tryz.pinned (.plain (OpenSpec.ofChange condDeepSpec)) condDeepCard

/-- THE TIED CARD OF 'leaseholdlaw5.CondTypes'. -/
def condTypesCard : Claim7 := { stood := { row := condTypesRow, standIns := [], harness := (true, "8fe688eba9e2cec93c12a2f6a0cde1e1debd38eedd760180ad61671f2a0555b3"), looks := true }, kinds := [], alts := [], laidByText := true, laidKinds := [.data, .data, .data, .data, .sentinel, .sentinel, .sentinel, .sentinel, .sentinel, .sentinel, .sentinel, .sentinel, .sentinel, .sentinel, .sentinel, .sentinel, .sentinel, .sentinel, .sentinel, .sentinel, .sentinel, .sentinel, .data, .pinned], laidTests := true, laidLooks := .later }
def CondTypesCardSaid : Prop := Claim7.holds Tryz.pinned (.plain (OpenSpec.ofChange condTypesSpec)) condTypesCard

/-- THE SECOND FORM's CARD OF 'leaseholdlaw5.CondBool'. -/
def condBoolUptoCard : Claim7 := { stood := { row := condBoolUptoRow, standIns := [], harness := (true, "8fe688eba9e2cec93c12a2f6a0cde1e1debd38eedd760180ad61671f2a0555b3"), looks := true }, kinds := [], alts := [], laidByText := true, laidKinds := [.data, .data, .data, .data, .sentinel, .sentinel, .sentinel, .sentinel, .sentinel, .sentinel, .sentinel, .sentinel, .data, .pinned], laidTests := true, laidLooks := .later }
def CondBoolUptoCardSaid : Prop := Claim7.holds Tryz.pinned (.plain (OpenSpec.upto condBoolSpec)) condBoolUptoCard

/-- THE SECOND FORM's CARD OF 'leaseholdlaw5.CondNumbers'. -/
def condNumbersUptoCard : Claim7 := { stood := { row := condNumbersUptoRow, standIns := [], harness := (true, "8fe688eba9e2cec93c12a2f6a0cde1e1debd38eedd760180ad61671f2a0555b3"), looks := true }, kinds := [], alts := [], laidByText := true, laidKinds := [.data, .data, .data, .data, .sentinel, .sentinel, .sentinel, .sentinel, .sentinel, .sentinel, .sentinel, .sentinel, .sentinel, .sentinel, .sentinel, .sentinel, .sentinel, .sentinel, .sentinel, .sentinel, .sentinel, .sentinel, .data, .pinned], laidTests := true, laidLooks := .later }
def CondNumbersUptoCardSaid : Prop := Claim7.holds Tryz.pinned (.plain (OpenSpec.upto condNumbersSpec)) condNumbersUptoCard

/-- THE SECOND FORM's CARD OF 'leaseholdlaw5.CondLazy'. -/
def condLazyUptoCard : Claim7 := { stood := { row := condLazyUptoRow, standIns := [], harness := (true, "8fe688eba9e2cec93c12a2f6a0cde1e1debd38eedd760180ad61671f2a0555b3"), looks := true }, kinds := [], alts := [], laidByText := true, laidKinds := [.data, .data, .data, .data, .sentinel, .sentinel, .sentinel, .sentinel, .sentinel, .sentinel, .sentinel, .sentinel, .sentinel, .sentinel, .sentinel, .sentinel, .sentinel, .sentinel, .sentinel, .sentinel, .sentinel, .sentinel, .data, .pinned], laidTests := true, laidLooks := .later }
def CondLazyUptoCardSaid : Prop := Claim7.holds Tryz.pinned (.plain (OpenSpec.upto condLazySpec)) condLazyUptoCard

/-- THE SECOND FORM's CARD OF 'leaseholdlaw5.CondDeep'. -/
def condDeepUptoCard : Claim7 := { stood := { row := condDeepUptoRow, standIns := [], harness := (true, "8fe688eba9e2cec93c12a2f6a0cde1e1debd38eedd760180ad61671f2a0555b3"), looks := true }, kinds := [], alts := [], laidByText := true, laidKinds := [.data, .data, .data, .data, .sentinel, .sentinel, .sentinel, .sentinel, .sentinel, .sentinel, .sentinel, .sentinel, .sentinel, .sentinel, .sentinel, .sentinel, .sentinel, .sentinel, .sentinel, .sentinel, .sentinel, .sentinel, .data, .pinned], laidTests := true, laidLooks := .later }
def CondDeepUptoCardSaid : Prop := Claim7.holds Tryz.pinned (.plain (OpenSpec.upto condDeepSpec)) condDeepUptoCard

/-- THE SECOND FORM's CARD OF 'leaseholdlaw5.CondTypes'. -/
def condTypesUptoCard : Claim7 := { stood := { row := condTypesUptoRow, standIns := [], harness := (true, "8fe688eba9e2cec93c12a2f6a0cde1e1debd38eedd760180ad61671f2a0555b3"), looks := true }, kinds := [], alts := [], laidByText := true, laidKinds := [.data, .data, .data, .data, .sentinel, .sentinel, .sentinel, .sentinel, .sentinel, .sentinel, .sentinel, .sentinel, .sentinel, .sentinel, .sentinel, .sentinel, .sentinel, .sentinel, .sentinel, .sentinel, .sentinel, .sentinel, .data, .pinned], laidTests := true, laidLooks := .later }
def CondTypesUptoCardSaid : Prop := Claim7.holds Tryz.pinned (.plain (OpenSpec.upto condTypesSpec)) condTypesUptoCard
end Rows
end Go.Proofs.YtpjdbccndlbbhaaGreatDoor
