/-
  NARROWER THAN 'FOR EVERY INPUT', by the rows' own cells (each row's printed sentence says how): FrameStreams: laid · FrameBack: laid · FrameRows: laid · FrameSpoilt: laid.
  DERIVED. THE GIVEN ROWS OF THIS SEAT. 4 by the template 'for every input the law returns true; each argument reads behind the call as it read before'; 0 by the template 'total and deterministic' (their statements: YtcgcacnlafdggaaDoorTotals.lean).
  GIVEN WITH THE SEED: the statements are not yours to turn. If you find one false, say at which input.
  Laid BY PROGRAM, IN A SANDBOX (cutbox-rows.mjs): the forced cells as the released guide's own fill.sh prints them over the translation 4682b3a9cf949d15… (all of the seat's roots in one cut). By AI agents, Wed Nov 11 2026. No macro, syntax, notation, axiom, sorry.
-/
import Derived.Test.YtcgcacnlafdggaaDoorChecked
import GoSem.Claim
import GoSem.ClaimJoined
import GoSem.ClaimMapViews
import Derived.JoinedTies
import Derived.KernelRfl
namespace Go.Proofs.YtcgcacnlafdggaaDoor
/- THE CELL 'sum', in the pinned program and in every row, IS THE sha256 OF THE DUMP (.gsa) THAT YtcgcacnlafdggaaDoorProg.lean LOADS. Nothing in Lean hashes anything: it is a label: what it is worth is what the hold of that sum in a sandbox is worth. -/
noncomputable def Tryd.pinned : Pinned := { name := "ytcgcacnlafdggaadoor", sum := "4682b3a9cf949d152fb083ddc33e50e78e790ce91ff72859ebabd9c9d3d41755", checked := Tryd.checked }
namespace Rows
def none {H : Type} : Left H := { results := [], args := [] }

/- WHAT THE LISTED PACKAGE-LEVEL VARIABLES READ AS WHEN THE CALL BEGINS. Each datum BY PROGRAM (the guide's laid-datum.mjs) off the statement by which the dump's own 'gosem.cut.vars' lays the variable. In a bare row this is a premise. The card (YtcgcacnlafdggaaDoorCards.lean) ties it to the program's text. -/
def laid_leasehold_api_ErrEnd {H : Type} : DataW H := .iface "*errors.errorString" (.ptr (.agg [.lit (.string [105, 116, 32, 101, 110, 100, 115, 32, 116, 111, 111, 32, 101, 97, 114, 108, 121])]))
def laid_leasehold_api_ErrShape {H : Type} : DataW H := .iface "*errors.errorString" (.ptr (.agg [.lit (.string [110, 111, 116, 32, 97, 115, 32, 105, 116, 32, 104, 97, 115, 32, 116, 111, 32, 98, 101])]))
def laid_leasehold_api_ErrSum {H : Type} : DataW H := .iface "*errors.errorString" (.ptr (.agg [.lit (.string [97, 32, 115, 117, 109, 32, 116, 104, 97, 116, 32, 100, 111, 101, 115, 32, 110, 111, 116, 32, 102, 105, 116])]))
def laid_leasehold_api_ErrLong {H : Type} : DataW H := .iface "*errors.errorString" (.ptr (.agg [.lit (.string [116, 111, 111, 32, 108, 111, 110, 103])]))
def laid_leasehold_crc_steps {H : Type} : DataW H := .agg [.lit (.int .u32 0), .lit (.int .u32 498536548), .lit (.int .u32 997073096), .lit (.int .u32 651767980), .lit (.int .u32 1994146192), .lit (.int .u32 1802195444), .lit (.int .u32 1303535960), .lit (.int .u32 1342533948), .lit (.int .u32 3988292384), .lit (.int .u32 4027552580), .lit (.int .u32 3604390888), .lit (.int .u32 3412177804), .lit (.int .u32 2607071920), .lit (.int .u32 2262029012), .lit (.int .u32 2685067896), .lit (.int .u32 3183342108)]
def laid_leasehold_api_ErrMany {H : Type} : DataW H := .iface "*errors.errorString" (.ptr (.agg [.lit (.string [116, 111, 111, 32, 109, 97, 110, 121, 44, 32, 111, 114, 32, 116, 111, 111, 32, 102, 101, 119])]))
def laid_leasehold_api_ErrName {H : Type} : DataW H := .iface "*errors.errorString" (.ptr (.agg [.lit (.string [97, 32, 110, 97, 109, 101, 32, 116, 104, 97, 116, 32, 99, 97, 110, 39, 116, 32, 98, 101])]))
def laid_leasehold_api_ErrRange {H : Type} : DataW H := .iface "*errors.errorString" (.ptr (.agg [.lit (.string [97, 32, 110, 117, 109, 98, 101, 114, 32, 111, 117, 116, 32, 111, 102, 32, 105, 116, 115, 32, 114, 97, 110, 103, 101])]))
def laid_leasehold_api_ErrNone {H : Type} : DataW H := .iface "*errors.errorString" (.ptr (.agg [.lit (.string [116, 104, 101, 114, 101, 32, 105, 115, 32, 110, 111, 110, 101])]))
def laid_leasehold_api_ErrTwice {H : Type} : DataW H := .iface "*errors.errorString" (.ptr (.agg [.lit (.string [111, 110, 101, 32, 116, 104, 105, 110, 103, 32, 116, 119, 105, 99, 101])]))
def laid_leasehold_api_ErrType {H : Type} : DataW H := .iface "*errors.errorString" (.ptr (.agg [.lit (.string [111, 102, 32, 97, 110, 111, 116, 104, 101, 114, 32, 116, 121, 112, 101])]))
def laid_leasehold_api_ErrSyntax {H : Type} : DataW H := .iface "*errors.errorString" (.ptr (.agg [.lit (.string [110, 111, 116, 32, 97, 110, 32, 101, 120, 112, 114, 101, 115, 115, 105, 111, 110])]))
def laid_leasehold_api_ErrDeep {H : Type} : DataW H := .iface "*errors.errorString" (.ptr (.agg [.lit (.string [116, 111, 111, 32, 100, 101, 101, 112])]))
def laid_leasehold_api_ErrZero {H : Type} : DataW H := .iface "*errors.errorString" (.ptr (.agg [.lit (.string [97, 32, 100, 105, 118, 105, 115, 105, 111, 110, 32, 98, 121, 32, 110, 111, 116, 104, 105, 110, 103])]))
def laid_leasehold_api_ErrFull {H : Type} : DataW H := .iface "*errors.errorString" (.ptr (.agg [.lit (.string [116, 104, 101, 114, 101, 32, 105, 115, 32, 110, 111, 32, 114, 111, 111, 109])]))
def laid_leasehold_api_ErrDead {H : Type} : DataW H := .iface "*errors.errorString" (.ptr (.agg [.lit (.string [116, 104, 101, 32, 112, 111, 119, 101, 114, 32, 105, 115, 32, 103, 111, 110, 101])]))
def laid_leasehold_api_ErrStuck {H : Type} : DataW H := .iface "*errors.errorString" (.ptr (.agg [.lit (.string [110, 111, 32, 119, 97, 121, 32, 103, 111, 101, 115, 32, 111, 110])]))

/-- 'leaseholdlaw3.FrameStreams': WHATEVER THE INPUT: true; the input reads as it did. -/
def frameStreamsSpec : ChangeSpec := { name := "frameStreams", fn := fun _ => fun
  | [d1, d2] => { results := [.lit (.bool true)], args := [d1, d2] }
  | _ => none }
def frameStreamsRow : OpenClaim := { program := "ytcgcacnlafdggaadoor", sum := "4682b3a9cf949d152fb083ddc33e50e78e790ce91ff72859ebabd9c9d3d41755", func := "leasehold/leaseholdlaw3.FrameStreams", spec := "frameStreams", named := ["leasehold/api.ErrLong", "leasehold/crc.steps", "leasehold/api.ErrEnd", "leasehold/api.ErrSum", "leasehold/api.ErrShape"], apart := false, laid := [("leasehold/api.ErrEnd", laid_leasehold_api_ErrEnd), ("leasehold/api.ErrShape", laid_leasehold_api_ErrShape), ("leasehold/api.ErrSum", laid_leasehold_api_ErrSum), ("leasehold/api.ErrLong", laid_leasehold_api_ErrLong), ("leasehold/crc.steps", laid_leasehold_crc_steps)] }
def FrameStreamsSaid : Prop := frameStreamsRow.holds Tryd.pinned (OpenSpec.ofChange frameStreamsSpec)

/-- ITS FALSE NEIGHBOUR: 'it returns false'. Refute it at one input. -/
def frameStreamsWrong : ChangeSpec := { name := "frameStreams", fn := fun _ => fun
  | [d1, d2] => { results := [.lit (.bool false)], args := [d1, d2] }
  | _ => none }
def FrameStreamsWrongFalsely : Prop := frameStreamsRow.holds Tryd.pinned (OpenSpec.ofChange frameStreamsWrong)

/-- 'leaseholdlaw3.FrameBack': WHATEVER THE INPUT: true; the input reads as it did. -/
def frameBackSpec : ChangeSpec := { name := "frameBack", fn := fun _ => fun
  | [d1, d2, d3, d4, d5] => { results := [.lit (.bool true)], args := [d1, d2, d3, d4, d5] }
  | _ => none }
def frameBackRow : OpenClaim := { program := "ytcgcacnlafdggaadoor", sum := "4682b3a9cf949d152fb083ddc33e50e78e790ce91ff72859ebabd9c9d3d41755", func := "leasehold/leaseholdlaw3.FrameBack", spec := "frameBack", named := ["leasehold/api.ErrLong", "leasehold/crc.steps", "leasehold/api.ErrSum", "leasehold/api.ErrShape", "leasehold/api.ErrEnd", "leasehold/api.ErrMany", "leasehold/api.ErrName", "leasehold/api.ErrRange", "leasehold/api.ErrNone", "leasehold/api.ErrTwice", "leasehold/api.ErrType", "leasehold/api.ErrSyntax", "leasehold/api.ErrDeep", "leasehold/api.ErrZero", "leasehold/api.ErrFull", "leasehold/api.ErrDead", "leasehold/api.ErrStuck"], apart := false, laid := [("leasehold/api.ErrEnd", laid_leasehold_api_ErrEnd), ("leasehold/api.ErrShape", laid_leasehold_api_ErrShape), ("leasehold/api.ErrSum", laid_leasehold_api_ErrSum), ("leasehold/api.ErrMany", laid_leasehold_api_ErrMany), ("leasehold/api.ErrLong", laid_leasehold_api_ErrLong), ("leasehold/api.ErrName", laid_leasehold_api_ErrName), ("leasehold/api.ErrRange", laid_leasehold_api_ErrRange), ("leasehold/api.ErrNone", laid_leasehold_api_ErrNone), ("leasehold/api.ErrTwice", laid_leasehold_api_ErrTwice), ("leasehold/api.ErrType", laid_leasehold_api_ErrType), ("leasehold/api.ErrSyntax", laid_leasehold_api_ErrSyntax), ("leasehold/api.ErrDeep", laid_leasehold_api_ErrDeep), ("leasehold/api.ErrZero", laid_leasehold_api_ErrZero), ("leasehold/api.ErrFull", laid_leasehold_api_ErrFull), ("leasehold/api.ErrDead", laid_leasehold_api_ErrDead), ("leasehold/api.ErrStuck", laid_leasehold_api_ErrStuck), ("leasehold/crc.steps", laid_leasehold_crc_steps)] }
def FrameBackSaid : Prop := frameBackRow.holds Tryd.pinned (OpenSpec.ofChange frameBackSpec)

/-- ITS FALSE NEIGHBOUR: 'it returns false'. Refute it at one input. -/
def frameBackWrong : ChangeSpec := { name := "frameBack", fn := fun _ => fun
  | [d1, d2, d3, d4, d5] => { results := [.lit (.bool false)], args := [d1, d2, d3, d4, d5] }
  | _ => none }
def FrameBackWrongFalsely : Prop := frameBackRow.holds Tryd.pinned (OpenSpec.ofChange frameBackWrong)

/-- 'leaseholdlaw3.FrameRows': WHATEVER THE INPUT: true; the input reads as it did. -/
def frameRowsSpec : ChangeSpec := { name := "frameRows", fn := fun _ => fun
  | [d1, d2, d3] => { results := [.lit (.bool true)], args := [d1, d2, d3] }
  | _ => none }
def frameRowsRow : OpenClaim := { program := "ytcgcacnlafdggaadoor", sum := "4682b3a9cf949d152fb083ddc33e50e78e790ce91ff72859ebabd9c9d3d41755", func := "leasehold/leaseholdlaw3.FrameRows", spec := "frameRows", named := ["leasehold/api.ErrLong", "leasehold/crc.steps", "leasehold/api.ErrEnd", "leasehold/api.ErrSum", "leasehold/api.ErrShape"], apart := false, laid := [("leasehold/api.ErrEnd", laid_leasehold_api_ErrEnd), ("leasehold/api.ErrShape", laid_leasehold_api_ErrShape), ("leasehold/api.ErrSum", laid_leasehold_api_ErrSum), ("leasehold/api.ErrLong", laid_leasehold_api_ErrLong), ("leasehold/crc.steps", laid_leasehold_crc_steps)] }
def FrameRowsSaid : Prop := frameRowsRow.holds Tryd.pinned (OpenSpec.ofChange frameRowsSpec)

/-- ITS FALSE NEIGHBOUR: 'it returns false'. Refute it at one input. -/
def frameRowsWrong : ChangeSpec := { name := "frameRows", fn := fun _ => fun
  | [d1, d2, d3] => { results := [.lit (.bool false)], args := [d1, d2, d3] }
  | _ => none }
def FrameRowsWrongFalsely : Prop := frameRowsRow.holds Tryd.pinned (OpenSpec.ofChange frameRowsWrong)

/-- 'leaseholdlaw3.FrameSpoilt': WHATEVER THE INPUT: true; the input reads as it did. -/
def frameSpoiltSpec : ChangeSpec := { name := "frameSpoilt", fn := fun _ => fun
  | [d1, d2, d3] => { results := [.lit (.bool true)], args := [d1, d2, d3] }
  | _ => none }
def frameSpoiltRow : OpenClaim := { program := "ytcgcacnlafdggaadoor", sum := "4682b3a9cf949d152fb083ddc33e50e78e790ce91ff72859ebabd9c9d3d41755", func := "leasehold/leaseholdlaw3.FrameSpoilt", spec := "frameSpoilt", named := ["leasehold/api.ErrLong", "leasehold/crc.steps", "leasehold/api.ErrEnd", "leasehold/api.ErrSum", "leasehold/api.ErrShape"], apart := false, laid := [("leasehold/api.ErrEnd", laid_leasehold_api_ErrEnd), ("leasehold/api.ErrShape", laid_leasehold_api_ErrShape), ("leasehold/api.ErrSum", laid_leasehold_api_ErrSum), ("leasehold/api.ErrLong", laid_leasehold_api_ErrLong), ("leasehold/crc.steps", laid_leasehold_crc_steps)] }
def FrameSpoiltSaid : Prop := frameSpoiltRow.holds Tryd.pinned (OpenSpec.ofChange frameSpoiltSpec)

/-- ITS FALSE NEIGHBOUR: 'it returns false'. Refute it at one input. -/
def frameSpoiltWrong : ChangeSpec := { name := "frameSpoilt", fn := fun _ => fun
  | [d1, d2, d3] => { results := [.lit (.bool false)], args := [d1, d2, d3] }
  | _ => none }
def FrameSpoiltWrongFalsely : Prop := frameSpoiltRow.holds Tryd.pinned (OpenSpec.ofChange frameSpoiltWrong)

/- THE SECOND FORM. 'bulk': how many values and letters a reading holds, each counted each time it is reached (what is shared counts as often as it is met; a slice's spare places count too). A statement '..UptoSaid' is the law's where the arguments, and the package variables that the reading takes, are together of bulk at most 1048576: NARROWER than '..Said'. Prove '..Said' where nothing that the law and all that it calls make is longer than what came in: it says more and counts as full. Else prove '..UptoSaid'. A law counts once. -/
mutual
def uptoBulk {H : Type} : DataW H → Nat
  | .lit (.string bytes) => bytes.length + 1
  | .lit _ => 1
  | .nil => 1
  | .ptr d => uptoBulk d + 1
  | .slice elems spare => uptoBulkAll elems + uptoBulkAll spare + 1
  | .agg parts => uptoBulkAll parts + 1
  | .iface _ d => uptoBulk d + 1
  | .map entries => uptoBulkEntries entries + 1
  | .held _ => 1
def uptoBulkAll {H : Type} : List (DataW H) → Nat
  | [] => 0
  | d :: r => uptoBulk d + uptoBulkAll r
def uptoBulkEntries {H : Type} : List (Lit × DataW H) → Nat
  | [] => 0
  | x :: r => uptoBulkEntry x + uptoBulkEntries r
def uptoBulkEntry {H : Type} : Lit × DataW H → Nat
  | (.string bytes, d) => bytes.length + uptoBulk d + 1
  | (_, d) => uptoBulk d + 1
 end
def uptoSmall : (H : Type) → List (DataW H) → Bool := fun _ ds => decide (uptoBulkAll ds ≤ 1048576)
def OpenSpec.upto (s : _root_.Go.ChangeSpec) : _root_.Go.OpenSpec := { _root_.Go.OpenSpec.ofChange s with cond := some uptoSmall }

/-- 'leaseholdlaw3.FrameStreams', WHERE WHAT IT READS IS OF BULK AT MOST 1048576: true; the input reads as it did. -/
def frameStreamsUptoRow : OpenClaim := { program := "ytcgcacnlafdggaadoor", sum := "4682b3a9cf949d152fb083ddc33e50e78e790ce91ff72859ebabd9c9d3d41755", func := "leasehold/leaseholdlaw3.FrameStreams", spec := "frameStreams", named := ["leasehold/api.ErrLong", "leasehold/crc.steps", "leasehold/api.ErrEnd", "leasehold/api.ErrSum", "leasehold/api.ErrShape"], apart := false, laid := [("leasehold/api.ErrEnd", laid_leasehold_api_ErrEnd), ("leasehold/api.ErrShape", laid_leasehold_api_ErrShape), ("leasehold/api.ErrSum", laid_leasehold_api_ErrSum), ("leasehold/api.ErrLong", laid_leasehold_api_ErrLong), ("leasehold/crc.steps", laid_leasehold_crc_steps)], narrowed := true }
def FrameStreamsUptoSaid : Prop := frameStreamsUptoRow.holds Tryd.pinned (OpenSpec.upto frameStreamsSpec)

/-- 'leaseholdlaw3.FrameBack', WHERE WHAT IT READS IS OF BULK AT MOST 1048576: true; the input reads as it did. -/
def frameBackUptoRow : OpenClaim := { program := "ytcgcacnlafdggaadoor", sum := "4682b3a9cf949d152fb083ddc33e50e78e790ce91ff72859ebabd9c9d3d41755", func := "leasehold/leaseholdlaw3.FrameBack", spec := "frameBack", named := ["leasehold/api.ErrLong", "leasehold/crc.steps", "leasehold/api.ErrSum", "leasehold/api.ErrShape", "leasehold/api.ErrEnd", "leasehold/api.ErrMany", "leasehold/api.ErrName", "leasehold/api.ErrRange", "leasehold/api.ErrNone", "leasehold/api.ErrTwice", "leasehold/api.ErrType", "leasehold/api.ErrSyntax", "leasehold/api.ErrDeep", "leasehold/api.ErrZero", "leasehold/api.ErrFull", "leasehold/api.ErrDead", "leasehold/api.ErrStuck"], apart := false, laid := [("leasehold/api.ErrEnd", laid_leasehold_api_ErrEnd), ("leasehold/api.ErrShape", laid_leasehold_api_ErrShape), ("leasehold/api.ErrSum", laid_leasehold_api_ErrSum), ("leasehold/api.ErrMany", laid_leasehold_api_ErrMany), ("leasehold/api.ErrLong", laid_leasehold_api_ErrLong), ("leasehold/api.ErrName", laid_leasehold_api_ErrName), ("leasehold/api.ErrRange", laid_leasehold_api_ErrRange), ("leasehold/api.ErrNone", laid_leasehold_api_ErrNone), ("leasehold/api.ErrTwice", laid_leasehold_api_ErrTwice), ("leasehold/api.ErrType", laid_leasehold_api_ErrType), ("leasehold/api.ErrSyntax", laid_leasehold_api_ErrSyntax), ("leasehold/api.ErrDeep", laid_leasehold_api_ErrDeep), ("leasehold/api.ErrZero", laid_leasehold_api_ErrZero), ("leasehold/api.ErrFull", laid_leasehold_api_ErrFull), ("leasehold/api.ErrDead", laid_leasehold_api_ErrDead), ("leasehold/api.ErrStuck", laid_leasehold_api_ErrStuck), ("leasehold/crc.steps", laid_leasehold_crc_steps)], narrowed := true }
def FrameBackUptoSaid : Prop := frameBackUptoRow.holds Tryd.pinned (OpenSpec.upto frameBackSpec)

/-- 'leaseholdlaw3.FrameRows', WHERE WHAT IT READS IS OF BULK AT MOST 1048576: true; the input reads as it did. -/
def frameRowsUptoRow : OpenClaim := { program := "ytcgcacnlafdggaadoor", sum := "4682b3a9cf949d152fb083ddc33e50e78e790ce91ff72859ebabd9c9d3d41755", func := "leasehold/leaseholdlaw3.FrameRows", spec := "frameRows", named := ["leasehold/api.ErrLong", "leasehold/crc.steps", "leasehold/api.ErrEnd", "leasehold/api.ErrSum", "leasehold/api.ErrShape"], apart := false, laid := [("leasehold/api.ErrEnd", laid_leasehold_api_ErrEnd), ("leasehold/api.ErrShape", laid_leasehold_api_ErrShape), ("leasehold/api.ErrSum", laid_leasehold_api_ErrSum), ("leasehold/api.ErrLong", laid_leasehold_api_ErrLong), ("leasehold/crc.steps", laid_leasehold_crc_steps)], narrowed := true }
def FrameRowsUptoSaid : Prop := frameRowsUptoRow.holds Tryd.pinned (OpenSpec.upto frameRowsSpec)

/-- 'leaseholdlaw3.FrameSpoilt', WHERE WHAT IT READS IS OF BULK AT MOST 1048576: true; the input reads as it did. -/
def frameSpoiltUptoRow : OpenClaim := { program := "ytcgcacnlafdggaadoor", sum := "4682b3a9cf949d152fb083ddc33e50e78e790ce91ff72859ebabd9c9d3d41755", func := "leasehold/leaseholdlaw3.FrameSpoilt", spec := "frameSpoilt", named := ["leasehold/api.ErrLong", "leasehold/crc.steps", "leasehold/api.ErrEnd", "leasehold/api.ErrSum", "leasehold/api.ErrShape"], apart := false, laid := [("leasehold/api.ErrEnd", laid_leasehold_api_ErrEnd), ("leasehold/api.ErrShape", laid_leasehold_api_ErrShape), ("leasehold/api.ErrSum", laid_leasehold_api_ErrSum), ("leasehold/api.ErrLong", laid_leasehold_api_ErrLong), ("leasehold/crc.steps", laid_leasehold_crc_steps)], narrowed := true }
def FrameSpoiltUptoSaid : Prop := frameSpoiltUptoRow.holds Tryd.pinned (OpenSpec.upto frameSpoiltSpec)

end Rows
end Go.Proofs.YtcgcacnlafdggaaDoor
