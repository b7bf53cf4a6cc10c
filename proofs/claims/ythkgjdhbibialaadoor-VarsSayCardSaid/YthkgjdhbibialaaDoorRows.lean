/-
  NARROWER THAN 'FOR EVERY INPUT', by the rows' own cells (each row's printed sentence says how): VarsSay: laid · VarsSet: laid · VarsBack: laid · VarsNames: laid · VarsOrder: laid.
  DERIVED. THE GIVEN ROWS OF THIS SEAT. 5 by the template 'for every input the law returns true; each argument reads behind the call as it read before'; 0 by the template 'total and deterministic' (their statements: YthkgjdhbibialaaDoorTotals.lean).
  GIVEN WITH THE SEED: the statements are not yours to turn. If you find one false, say at which input.
  Laid BY PROGRAM, IN A SANDBOX (cutbox-rows.mjs): the forced cells as the released guide's own fill.sh prints them over the translation 5eb687f7c127bda1… (all of the seat's roots in one cut). By AI agents, Wed Nov 11 2026. No macro, syntax, notation, axiom, sorry.
-/
import Derived.Test.YthkgjdhbibialaaDoorChecked
import GoSem.Claim
import GoSem.ClaimJoined
import GoSem.ClaimMapViews
import Derived.JoinedTies
import Derived.KernelRfl
namespace Go.Proofs.YthkgjdhbibialaaDoor
/- THE CELL 'sum', in the pinned program and in every row, IS THE sha256 OF THE DUMP (.gsa) THAT YthkgjdhbibialaaDoorProg.lean LOADS. Nothing in Lean hashes anything: it is a label: what it is worth is what the hold of that sum in a sandbox is worth. -/
noncomputable def Tryd.pinned : Pinned := { name := "ythkgjdhbibialaadoor", sum := "5eb687f7c127bda1a57cfce570e9d34369a433f3d07831ce4567298a76421720", checked := Tryd.checked }
namespace Rows
def none {H : Type} : Left H := { results := [], args := [] }

/- WHAT THE LISTED PACKAGE-LEVEL VARIABLES READ AS WHEN THE CALL BEGINS. Each datum BY PROGRAM (the guide's laid-datum.mjs) off the statement by which the dump's own 'gosem.cut.vars' lays the variable. In a bare row this is a premise. The card (YthkgjdhbibialaaDoorCards.lean) ties it to the program's text. -/
def laid_leasehold_api_ErrEnd {H : Type} : DataW H := .iface "*errors.errorString" (.ptr (.agg [.lit (.string [105, 116, 32, 101, 110, 100, 115, 32, 116, 111, 111, 32, 101, 97, 114, 108, 121])]))
def laid_leasehold_api_ErrShape {H : Type} : DataW H := .iface "*errors.errorString" (.ptr (.agg [.lit (.string [110, 111, 116, 32, 97, 115, 32, 105, 116, 32, 104, 97, 115, 32, 116, 111, 32, 98, 101])]))
def laid_leasehold_api_ErrSum {H : Type} : DataW H := .iface "*errors.errorString" (.ptr (.agg [.lit (.string [97, 32, 115, 117, 109, 32, 116, 104, 97, 116, 32, 100, 111, 101, 115, 32, 110, 111, 116, 32, 102, 105, 116])]))
def laid_leasehold_api_ErrMany {H : Type} : DataW H := .iface "*errors.errorString" (.ptr (.agg [.lit (.string [116, 111, 111, 32, 109, 97, 110, 121, 44, 32, 111, 114, 32, 116, 111, 111, 32, 102, 101, 119])]))
def laid_leasehold_api_ErrLong {H : Type} : DataW H := .iface "*errors.errorString" (.ptr (.agg [.lit (.string [116, 111, 111, 32, 108, 111, 110, 103])]))
def laid_leasehold_api_ErrName {H : Type} : DataW H := .iface "*errors.errorString" (.ptr (.agg [.lit (.string [97, 32, 110, 97, 109, 101, 32, 116, 104, 97, 116, 32, 99, 97, 110, 39, 116, 32, 98, 101])]))
def laid_leasehold_api_ErrRange {H : Type} : DataW H := .iface "*errors.errorString" (.ptr (.agg [.lit (.string [97, 32, 110, 117, 109, 98, 101, 114, 32, 111, 117, 116, 32, 111, 102, 32, 105, 116, 115, 32, 114, 97, 110, 103, 101])]))
def laid_leasehold_api_ErrNone {H : Type} : DataW H := .iface "*errors.errorString" (.ptr (.agg [.lit (.string [116, 104, 101, 114, 101, 32, 105, 115, 32, 110, 111, 110, 101])]))
def laid_leasehold_api_ErrTwice {H : Type} : DataW H := .iface "*errors.errorString" (.ptr (.agg [.lit (.string [111, 110, 101, 32, 116, 104, 105, 110, 103, 32, 116, 119, 105, 99, 101])]))
def laid_leasehold_api_ErrType {H : Type} : DataW H := .iface "*errors.errorString" (.ptr (.agg [.lit (.string [111, 102, 32, 97, 110, 111, 116, 104, 101, 114, 32, 116, 121, 112, 101])]))
def laid_leasehold_api_ErrSyntax {H : Type} : DataW H := .iface "*errors.errorString" (.ptr (.agg [.lit (.string [110, 111, 116, 32, 97, 110, 32, 101, 120, 112, 114, 101, 115, 115, 105, 111, 110])]))
def laid_leasehold_api_ErrDeep {H : Type} : DataW H := .iface "*errors.errorString" (.ptr (.agg [.lit (.string [116, 111, 111, 32, 100, 101, 101, 112])]))
def laid_leasehold_api_ErrZero {H : Type} : DataW H := .iface "*errors.errorString" (.ptr (.agg [.lit (.string [97, 32, 100, 105, 118, 105, 115, 105, 111, 110, 32, 98, 121, 32, 110, 111, 116, 104, 105, 110, 103])]))
def laid_leasehold_api_ErrFull {H : Type} : DataW H := .iface "*errors.errorString" (.ptr (.agg [.lit (.string [116, 104, 101, 114, 101, 32, 105, 115, 32, 110, 111, 32, 114, 111, 111, 109])]))
def laid_leasehold_api_ErrDead {H : Type} : DataW H := .iface "*errors.errorString" (.ptr (.agg [.lit (.string [116, 104, 101, 32, 112, 111, 119, 101, 114, 32, 105, 115, 32, 103, 111, 110, 101])]))
def laid_leasehold_api_ErrStuck {H : Type} : DataW H := .iface "*errors.errorString" (.ptr (.agg [.lit (.string [110, 111, 32, 119, 97, 121, 32, 103, 111, 101, 115, 32, 111, 110])]))

/-- 'leaseholdlaw4.VarsSay': WHATEVER THE INPUT: true; the input reads as it did. -/
def varsSaySpec : ChangeSpec := { name := "varsSay", fn := fun _ => fun
  | [d1, d2, d3] => { results := [.lit (.bool true)], args := [d1, d2, d3] }
  | _ => none }
def varsSayRow : OpenClaim := { program := "ythkgjdhbibialaadoor", sum := "5eb687f7c127bda1a57cfce570e9d34369a433f3d07831ce4567298a76421720", func := "leasehold/leaseholdlaw4.VarsSay", spec := "varsSay", inPlace := ["slices.overlaps[leasehold/api.Var]"], unfollowed := true, recurses := true, named := ["leasehold/api.ErrMany", "leasehold/api.ErrTwice", "leasehold/api.ErrName", "leasehold/api.ErrType", "leasehold/api.ErrLong", "leasehold/api.ErrEnd", "leasehold/api.ErrShape", "leasehold/api.ErrSum", "leasehold/api.ErrRange", "leasehold/api.ErrNone", "leasehold/api.ErrSyntax", "leasehold/api.ErrDeep", "leasehold/api.ErrZero", "leasehold/api.ErrFull", "leasehold/api.ErrDead", "leasehold/api.ErrStuck"], apart := false, laid := [("leasehold/api.ErrEnd", laid_leasehold_api_ErrEnd), ("leasehold/api.ErrShape", laid_leasehold_api_ErrShape), ("leasehold/api.ErrSum", laid_leasehold_api_ErrSum), ("leasehold/api.ErrMany", laid_leasehold_api_ErrMany), ("leasehold/api.ErrLong", laid_leasehold_api_ErrLong), ("leasehold/api.ErrName", laid_leasehold_api_ErrName), ("leasehold/api.ErrRange", laid_leasehold_api_ErrRange), ("leasehold/api.ErrNone", laid_leasehold_api_ErrNone), ("leasehold/api.ErrTwice", laid_leasehold_api_ErrTwice), ("leasehold/api.ErrType", laid_leasehold_api_ErrType), ("leasehold/api.ErrSyntax", laid_leasehold_api_ErrSyntax), ("leasehold/api.ErrDeep", laid_leasehold_api_ErrDeep), ("leasehold/api.ErrZero", laid_leasehold_api_ErrZero), ("leasehold/api.ErrFull", laid_leasehold_api_ErrFull), ("leasehold/api.ErrDead", laid_leasehold_api_ErrDead), ("leasehold/api.ErrStuck", laid_leasehold_api_ErrStuck)] }
def VarsSaySaid : Prop := varsSayRow.holds Tryd.pinned (OpenSpec.ofChange varsSaySpec)

/-- ITS FALSE NEIGHBOUR: 'it returns false'. Refute it at one input. -/
def varsSayWrong : ChangeSpec := { name := "varsSay", fn := fun _ => fun
  | [d1, d2, d3] => { results := [.lit (.bool false)], args := [d1, d2, d3] }
  | _ => none }
def VarsSayWrongFalsely : Prop := varsSayRow.holds Tryd.pinned (OpenSpec.ofChange varsSayWrong)

/-- 'leaseholdlaw4.VarsSet': WHATEVER THE INPUT: true; the input reads as it did. -/
def varsSetSpec : ChangeSpec := { name := "varsSet", fn := fun _ => fun
  | [d1, d2, d3] => { results := [.lit (.bool true)], args := [d1, d2, d3] }
  | _ => none }
def varsSetRow : OpenClaim := { program := "ythkgjdhbibialaadoor", sum := "5eb687f7c127bda1a57cfce570e9d34369a433f3d07831ce4567298a76421720", func := "leasehold/leaseholdlaw4.VarsSet", spec := "varsSet", inPlace := ["slices.overlaps[leasehold/api.Var]"], unfollowed := true, recurses := true, named := ["leasehold/api.ErrMany", "leasehold/api.ErrTwice", "leasehold/api.ErrName", "leasehold/api.ErrType", "leasehold/api.ErrLong"], apart := false, laid := [("leasehold/api.ErrMany", laid_leasehold_api_ErrMany), ("leasehold/api.ErrLong", laid_leasehold_api_ErrLong), ("leasehold/api.ErrName", laid_leasehold_api_ErrName), ("leasehold/api.ErrTwice", laid_leasehold_api_ErrTwice), ("leasehold/api.ErrType", laid_leasehold_api_ErrType)] }
def VarsSetSaid : Prop := varsSetRow.holds Tryd.pinned (OpenSpec.ofChange varsSetSpec)

/-- ITS FALSE NEIGHBOUR: 'it returns false'. Refute it at one input. -/
def varsSetWrong : ChangeSpec := { name := "varsSet", fn := fun _ => fun
  | [d1, d2, d3] => { results := [.lit (.bool false)], args := [d1, d2, d3] }
  | _ => none }
def VarsSetWrongFalsely : Prop := varsSetRow.holds Tryd.pinned (OpenSpec.ofChange varsSetWrong)

/-- 'leaseholdlaw4.VarsBack': WHATEVER THE INPUT: true; the input reads as it did. -/
def varsBackSpec : ChangeSpec := { name := "varsBack", fn := fun _ => fun
  | [d1, d2, d3, d4, d5] => { results := [.lit (.bool true)], args := [d1, d2, d3, d4, d5] }
  | _ => none }
def varsBackRow : OpenClaim := { program := "ythkgjdhbibialaadoor", sum := "5eb687f7c127bda1a57cfce570e9d34369a433f3d07831ce4567298a76421720", func := "leasehold/leaseholdlaw4.VarsBack", spec := "varsBack", named := ["leasehold/api.ErrMany", "leasehold/api.ErrTwice", "leasehold/api.ErrName", "leasehold/api.ErrType", "leasehold/api.ErrLong", "leasehold/api.ErrRange", "leasehold/api.ErrShape", "leasehold/api.ErrEnd"], apart := false, laid := [("leasehold/api.ErrEnd", laid_leasehold_api_ErrEnd), ("leasehold/api.ErrShape", laid_leasehold_api_ErrShape), ("leasehold/api.ErrMany", laid_leasehold_api_ErrMany), ("leasehold/api.ErrLong", laid_leasehold_api_ErrLong), ("leasehold/api.ErrName", laid_leasehold_api_ErrName), ("leasehold/api.ErrRange", laid_leasehold_api_ErrRange), ("leasehold/api.ErrTwice", laid_leasehold_api_ErrTwice), ("leasehold/api.ErrType", laid_leasehold_api_ErrType)] }
def VarsBackSaid : Prop := varsBackRow.holds Tryd.pinned (OpenSpec.ofChange varsBackSpec)

/-- ITS FALSE NEIGHBOUR: 'it returns false'. Refute it at one input. -/
def varsBackWrong : ChangeSpec := { name := "varsBack", fn := fun _ => fun
  | [d1, d2, d3, d4, d5] => { results := [.lit (.bool false)], args := [d1, d2, d3, d4, d5] }
  | _ => none }
def VarsBackWrongFalsely : Prop := varsBackRow.holds Tryd.pinned (OpenSpec.ofChange varsBackWrong)

/-- 'leaseholdlaw4.VarsNames': WHATEVER THE INPUT: true; the input reads as it did. -/
def varsNamesSpec : ChangeSpec := { name := "varsNames", fn := fun _ => fun
  | [d1, d2, d3] => { results := [.lit (.bool true)], args := [d1, d2, d3] }
  | _ => none }
def varsNamesRow : OpenClaim := { program := "ythkgjdhbibialaadoor", sum := "5eb687f7c127bda1a57cfce570e9d34369a433f3d07831ce4567298a76421720", func := "leasehold/leaseholdlaw4.VarsNames", spec := "varsNames", named := ["leasehold/api.ErrMany", "leasehold/api.ErrTwice", "leasehold/api.ErrName", "leasehold/api.ErrType", "leasehold/api.ErrLong"], apart := false, laid := [("leasehold/api.ErrMany", laid_leasehold_api_ErrMany), ("leasehold/api.ErrLong", laid_leasehold_api_ErrLong), ("leasehold/api.ErrName", laid_leasehold_api_ErrName), ("leasehold/api.ErrTwice", laid_leasehold_api_ErrTwice), ("leasehold/api.ErrType", laid_leasehold_api_ErrType)] }
def VarsNamesSaid : Prop := varsNamesRow.holds Tryd.pinned (OpenSpec.ofChange varsNamesSpec)

/-- ITS FALSE NEIGHBOUR: 'it returns false'. Refute it at one input. -/
def varsNamesWrong : ChangeSpec := { name := "varsNames", fn := fun _ => fun
  | [d1, d2, d3] => { results := [.lit (.bool false)], args := [d1, d2, d3] }
  | _ => none }
def VarsNamesWrongFalsely : Prop := varsNamesRow.holds Tryd.pinned (OpenSpec.ofChange varsNamesWrong)

/-- 'leaseholdlaw4.VarsOrder': WHATEVER THE INPUT: true; the input reads as it did. -/
def varsOrderSpec : ChangeSpec := { name := "varsOrder", fn := fun _ => fun
  | [d1, d2] => { results := [.lit (.bool true)], args := [d1, d2] }
  | _ => none }
def varsOrderRow : OpenClaim := { program := "ythkgjdhbibialaadoor", sum := "5eb687f7c127bda1a57cfce570e9d34369a433f3d07831ce4567298a76421720", func := "leasehold/leaseholdlaw4.VarsOrder", spec := "varsOrder", inPlace := ["slices.overlaps[leasehold/api.Var]"], unfollowed := true, recurses := true, named := ["leasehold/api.ErrMany", "leasehold/api.ErrTwice", "leasehold/api.ErrName", "leasehold/api.ErrType", "leasehold/api.ErrLong", "leasehold/api.ErrEnd", "leasehold/api.ErrShape", "leasehold/api.ErrSum", "leasehold/api.ErrRange", "leasehold/api.ErrNone", "leasehold/api.ErrSyntax", "leasehold/api.ErrDeep", "leasehold/api.ErrZero", "leasehold/api.ErrFull", "leasehold/api.ErrDead", "leasehold/api.ErrStuck"], apart := false, laid := [("leasehold/api.ErrEnd", laid_leasehold_api_ErrEnd), ("leasehold/api.ErrShape", laid_leasehold_api_ErrShape), ("leasehold/api.ErrSum", laid_leasehold_api_ErrSum), ("leasehold/api.ErrMany", laid_leasehold_api_ErrMany), ("leasehold/api.ErrLong", laid_leasehold_api_ErrLong), ("leasehold/api.ErrName", laid_leasehold_api_ErrName), ("leasehold/api.ErrRange", laid_leasehold_api_ErrRange), ("leasehold/api.ErrNone", laid_leasehold_api_ErrNone), ("leasehold/api.ErrTwice", laid_leasehold_api_ErrTwice), ("leasehold/api.ErrType", laid_leasehold_api_ErrType), ("leasehold/api.ErrSyntax", laid_leasehold_api_ErrSyntax), ("leasehold/api.ErrDeep", laid_leasehold_api_ErrDeep), ("leasehold/api.ErrZero", laid_leasehold_api_ErrZero), ("leasehold/api.ErrFull", laid_leasehold_api_ErrFull), ("leasehold/api.ErrDead", laid_leasehold_api_ErrDead), ("leasehold/api.ErrStuck", laid_leasehold_api_ErrStuck)] }
def VarsOrderSaid : Prop := varsOrderRow.holds Tryd.pinned (OpenSpec.ofChange varsOrderSpec)

/-- ITS FALSE NEIGHBOUR: 'it returns false'. Refute it at one input. -/
def varsOrderWrong : ChangeSpec := { name := "varsOrder", fn := fun _ => fun
  | [d1, d2] => { results := [.lit (.bool false)], args := [d1, d2] }
  | _ => none }
def VarsOrderWrongFalsely : Prop := varsOrderRow.holds Tryd.pinned (OpenSpec.ofChange varsOrderWrong)

/- THE SECOND FORM. 'bulk': how many values and letters a reading holds, each counted each time it is reached (what is shared counts as often as it is met; a slice's spare places count too). A statement '..UptoSaid' is the law's where the arguments, and the package variables that the reading takes, are together of bulk at most 1048576: NARROWER than '..Said'. Prove '..Said' where nothing that the law and all that it calls make is longer than what came in: it says more and counts as full. Else prove '..UptoSaid'. A law counts once. -/
mutual
def uptoBulk {H : Type} : DataW H → Nat
  | .lit (.string bytes) => bytes.length + 1
  | .lit _ => 1
  | .nil => 1
  | .ptr d => uptoBulk d + 1
  | .slice elems spare => uptoBulkAll elems + uptoBulkAll spare + 1
  | .agg parts => uptoBulkAll parts + 1
  | .iface _ d => uptoBulk d + 1
  | .map entries => uptoBulkEntries entries + 1
  | .held _ => 1
def uptoBulkAll {H : Type} : List (DataW H) → Nat
  | [] => 0
  | d :: r => uptoBulk d + uptoBulkAll r
def uptoBulkEntries {H : Type} : List (Lit × DataW H) → Nat
  | [] => 0
  | x :: r => uptoBulkEntry x + uptoBulkEntries r
def uptoBulkEntry {H : Type} : Lit × DataW H → Nat
  | (.string bytes, d) => bytes.length + uptoBulk d + 1
  | (_, d) => uptoBulk d + 1
 end
def uptoSmall : (H : Type) → List (DataW H) → Bool := fun _ ds => decide (uptoBulkAll ds ≤ 1048576)
def OpenSpec.upto (s : _root_.Go.ChangeSpec) : _root_.Go.OpenSpec := { _root_.Go.OpenSpec.ofChange s with cond := some uptoSmall }

/-- 'leaseholdlaw4.VarsSay', WHERE WHAT IT READS IS OF BULK AT MOST 1048576: true; the input reads as it did. -/
def varsSayUptoRow : OpenClaim := { program := "ythkgjdhbibialaadoor", sum := "5eb687f7c127bda1a57cfce570e9d34369a433f3d07831ce4567298a76421720", func := "leasehold/leaseholdlaw4.VarsSay", spec := "varsSay", inPlace := ["slices.overlaps[leasehold/api.Var]"], unfollowed := true, recurses := true, named := ["leasehold/api.ErrMany", "leasehold/api.ErrTwice", "leasehold/api.ErrName", "leasehold/api.ErrType", "leasehold/api.ErrLong", "leasehold/api.ErrEnd", "leasehold/api.ErrShape", "leasehold/api.ErrSum", "leasehold/api.ErrRange", "leasehold/api.ErrNone", "leasehold/api.ErrSyntax", "leasehold/api.ErrDeep", "leasehold/api.ErrZero", "leasehold/api.ErrFull", "leasehold/api.ErrDead", "leasehold/api.ErrStuck"], apart := false, laid := [("leasehold/api.ErrEnd", laid_leasehold_api_ErrEnd), ("leasehold/api.ErrShape", laid_leasehold_api_ErrShape), ("leasehold/api.ErrSum", laid_leasehold_api_ErrSum), ("leasehold/api.ErrMany", laid_leasehold_api_ErrMany), ("leasehold/api.ErrLong", laid_leasehold_api_ErrLong), ("leasehold/api.ErrName", laid_leasehold_api_ErrName), ("leasehold/api.ErrRange", laid_leasehold_api_ErrRange), ("leasehold/api.ErrNone", laid_leasehold_api_ErrNone), ("leasehold/api.ErrTwice", laid_leasehold_api_ErrTwice), ("leasehold/api.ErrType", laid_leasehold_api_ErrType), ("leasehold/api.ErrSyntax", laid_leasehold_api_ErrSyntax), ("leasehold/api.ErrDeep", laid_leasehold_api_ErrDeep), ("leasehold/api.ErrZero", laid_leasehold_api_ErrZero), ("leasehold/api.ErrFull", laid_leasehold_api_ErrFull), ("leasehold/api.ErrDead", laid_leasehold_api_ErrDead), ("leasehold/api.ErrStuck", laid_leasehold_api_ErrStuck)], narrowed := true }
def VarsSayUptoSaid : Prop := varsSayUptoRow.holds Tryd.pinned (OpenSpec.upto varsSaySpec)

/-- 'leaseholdlaw4.VarsSet', WHERE WHAT IT READS IS OF BULK AT MOST 1048576: true; the input reads as it did. -/
def varsSetUptoRow : OpenClaim := { program := "ythkgjdhbibialaadoor", sum := "5eb687f7c127bda1a57cfce570e9d34369a433f3d07831ce4567298a76421720", func := "leasehold/leaseholdlaw4.VarsSet", spec := "varsSet", inPlace := ["slices.overlaps[leasehold/api.Var]"], unfollowed := true, recurses := true, named := ["leasehold/api.ErrMany", "leasehold/api.ErrTwice", "leasehold/api.ErrName", "leasehold/api.ErrType", "leasehold/api.ErrLong"], apart := false, laid := [("leasehold/api.ErrMany", laid_leasehold_api_ErrMany), ("leasehold/api.ErrLong", laid_leasehold_api_ErrLong), ("leasehold/api.ErrName", laid_leasehold_api_ErrName), ("leasehold/api.ErrTwice", laid_leasehold_api_ErrTwice), ("leasehold/api.ErrType", laid_leasehold_api_ErrType)], narrowed := true }
def VarsSetUptoSaid : Prop := varsSetUptoRow.holds Tryd.pinned (OpenSpec.upto varsSetSpec)

/-- 'leaseholdlaw4.VarsBack', WHERE WHAT IT READS IS OF BULK AT MOST 1048576: true; the input reads as it did. -/
def varsBackUptoRow : OpenClaim := { program := "ythkgjdhbibialaadoor", sum := "5eb687f7c127bda1a57cfce570e9d34369a433f3d07831ce4567298a76421720", func := "leasehold/leaseholdlaw4.VarsBack", spec := "varsBack", named := ["leasehold/api.ErrMany", "leasehold/api.ErrTwice", "leasehold/api.ErrName", "leasehold/api.ErrType", "leasehold/api.ErrLong", "leasehold/api.ErrRange", "leasehold/api.ErrShape", "leasehold/api.ErrEnd"], apart := false, laid := [("leasehold/api.ErrEnd", laid_leasehold_api_ErrEnd), ("leasehold/api.ErrShape", laid_leasehold_api_ErrShape), ("leasehold/api.ErrMany", laid_leasehold_api_ErrMany), ("leasehold/api.ErrLong", laid_leasehold_api_ErrLong), ("leasehold/api.ErrName", laid_leasehold_api_ErrName), ("leasehold/api.ErrRange", laid_leasehold_api_ErrRange), ("leasehold/api.ErrTwice", laid_leasehold_api_ErrTwice), ("leasehold/api.ErrType", laid_leasehold_api_ErrType)], narrowed := true }
def VarsBackUptoSaid : Prop := varsBackUptoRow.holds Tryd.pinned (OpenSpec.upto varsBackSpec)

/-- 'leaseholdlaw4.VarsNames', WHERE WHAT IT READS IS OF BULK AT MOST 1048576: true; the input reads as it did. -/
def varsNamesUptoRow : OpenClaim := { program := "ythkgjdhbibialaadoor", sum := "5eb687f7c127bda1a57cfce570e9d34369a433f3d07831ce4567298a76421720", func := "leasehold/leaseholdlaw4.VarsNames", spec := "varsNames", named := ["leasehold/api.ErrMany", "leasehold/api.ErrTwice", "leasehold/api.ErrName", "leasehold/api.ErrType", "leasehold/api.ErrLong"], apart := false, laid := [("leasehold/api.ErrMany", laid_leasehold_api_ErrMany), ("leasehold/api.ErrLong", laid_leasehold_api_ErrLong), ("leasehold/api.ErrName", laid_leasehold_api_ErrName), ("leasehold/api.ErrTwice", laid_leasehold_api_ErrTwice), ("leasehold/api.ErrType", laid_leasehold_api_ErrType)], narrowed := true }
def VarsNamesUptoSaid : Prop := varsNamesUptoRow.holds Tryd.pinned (OpenSpec.upto varsNamesSpec)

/-- 'leaseholdlaw4.VarsOrder', WHERE WHAT IT READS IS OF BULK AT MOST 1048576: true; the input reads as it did. -/
def varsOrderUptoRow : OpenClaim := { program := "ythkgjdhbibialaadoor", sum := "5eb687f7c127bda1a57cfce570e9d34369a433f3d07831ce4567298a76421720", func := "leasehold/leaseholdlaw4.VarsOrder", spec := "varsOrder", inPlace := ["slices.overlaps[leasehold/api.Var]"], unfollowed := true, recurses := true, named := ["leasehold/api.ErrMany", "leasehold/api.ErrTwice", "leasehold/api.ErrName", "leasehold/api.ErrType", "leasehold/api.ErrLong", "leasehold/api.ErrEnd", "leasehold/api.ErrShape", "leasehold/api.ErrSum", "leasehold/api.ErrRange", "leasehold/api.ErrNone", "leasehold/api.ErrSyntax", "leasehold/api.ErrDeep", "leasehold/api.ErrZero", "leasehold/api.ErrFull", "leasehold/api.ErrDead", "leasehold/api.ErrStuck"], apart := false, laid := [("leasehold/api.ErrEnd", laid_leasehold_api_ErrEnd), ("leasehold/api.ErrShape", laid_leasehold_api_ErrShape), ("leasehold/api.ErrSum", laid_leasehold_api_ErrSum), ("leasehold/api.ErrMany", laid_leasehold_api_ErrMany), ("leasehold/api.ErrLong", laid_leasehold_api_ErrLong), ("leasehold/api.ErrName", laid_leasehold_api_ErrName), ("leasehold/api.ErrRange", laid_leasehold_api_ErrRange), ("leasehold/api.ErrNone", laid_leasehold_api_ErrNone), ("leasehold/api.ErrTwice", laid_leasehold_api_ErrTwice), ("leasehold/api.ErrType", laid_leasehold_api_ErrType), ("leasehold/api.ErrSyntax", laid_leasehold_api_ErrSyntax), ("leasehold/api.ErrDeep", laid_leasehold_api_ErrDeep), ("leasehold/api.ErrZero", laid_leasehold_api_ErrZero), ("leasehold/api.ErrFull", laid_leasehold_api_ErrFull), ("leasehold/api.ErrDead", laid_leasehold_api_ErrDead), ("leasehold/api.ErrStuck", laid_leasehold_api_ErrStuck)], narrowed := true }
def VarsOrderUptoSaid : Prop := varsOrderUptoRow.holds Tryd.pinned (OpenSpec.upto varsOrderSpec)

end Rows
end Go.Proofs.YthkgjdhbibialaaDoor
