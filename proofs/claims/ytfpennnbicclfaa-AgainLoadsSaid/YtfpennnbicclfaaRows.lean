/-
  No cell of these rows narrows 'for every input' (looked for: loops, veiled, ifaces, maps, wideKeys, modest, calm, conditions, laid).
  DERIVED. THE GIVEN ROWS OF THIS SEAT. 5 by the template 'for every input the law returns true; each argument reads behind the call as it read before'; 0 by the template 'total and deterministic' (their statements: YtfpennnbicclfaaTotals.lean).
  GIVEN WITH THE SEED: the statements are not yours to turn. If you find one false, say at which input.
  Laid BY PROGRAM, IN A SANDBOX (cutbox-rows.mjs): the forced cells as the released guide's own fill.sh prints them over the translation e68693b7603f7650… (all of the seat's roots in one cut). By AI agents, Wed Nov 11 2026. No macro, syntax, notation, axiom, sorry.
-/
import Derived.Test.YtfpennnbicclfaaChecked
import GoSem.Claim
import GoSem.ClaimJoined
import GoSem.ClaimMapViews
import Derived.JoinedTies
import Derived.KernelRfl
namespace Go.Proofs.Ytfpennnbicclfaa
/- THE CELL 'sum', in the pinned program and in every row, IS THE sha256 OF THE DUMP (.gsa) THAT YtfpennnbicclfaaProg.lean LOADS. Nothing in Lean hashes anything: it is a label: what it is worth is what the hold of that sum in a sandbox is worth. -/
noncomputable def Try.pinned : Pinned := { name := "ytfpennnbicclfaa", sum := "e68693b7603f76507fd346f9d90de0b7c27daac92502d34b02d2a368d7cae4bb", checked := Try.checked }
namespace Rows
def none {H : Type} : Left H := { results := [], args := [] }

/-- 'leaseholdlaw12.AgainPlays': WHATEVER THE INPUT: true; the input reads as it did. -/
def againPlaysSpec : ChangeSpec := { name := "againPlays", fn := fun _ => fun
  | [d] => { results := [.lit (.bool true)], args := [d] }
  | _ => none }
def againPlaysRow : OpenClaim := { program := "ytfpennnbicclfaa", sum := "e68693b7603f76507fd346f9d90de0b7c27daac92502d34b02d2a368d7cae4bb", func := "leasehold/leaseholdlaw12.AgainPlays", spec := "againPlays", unfollowed := true, recurses := true, apart := false }
def AgainPlaysSaid : Prop := againPlaysRow.holds Try.pinned (OpenSpec.ofChange againPlaysSpec)

/-- ITS FALSE NEIGHBOUR: 'it returns false'. Refute it at one input. -/
def againPlaysWrong : ChangeSpec := { name := "againPlays", fn := fun _ => fun
  | [d] => { results := [.lit (.bool false)], args := [d] }
  | _ => none }
def AgainPlaysWrongFalsely : Prop := againPlaysRow.holds Try.pinned (OpenSpec.ofChange againPlaysWrong)

/-- 'leaseholdlaw12.AgainLoads': WHATEVER THE INPUT: true; the input reads as it did. -/
def againLoadsSpec : ChangeSpec := { name := "againLoads", fn := fun _ => fun
  | [d] => { results := [.lit (.bool true)], args := [d] }
  | _ => none }
def againLoadsRow : OpenClaim := { program := "ytfpennnbicclfaa", sum := "e68693b7603f76507fd346f9d90de0b7c27daac92502d34b02d2a368d7cae4bb", func := "leasehold/leaseholdlaw12.AgainLoads", spec := "againLoads", unfollowed := true, recurses := true, apart := false }
def AgainLoadsSaid : Prop := againLoadsRow.holds Try.pinned (OpenSpec.ofChange againLoadsSpec)

/-- ITS FALSE NEIGHBOUR: 'it returns false'. Refute it at one input. -/
def againLoadsWrong : ChangeSpec := { name := "againLoads", fn := fun _ => fun
  | [d] => { results := [.lit (.bool false)], args := [d] }
  | _ => none }
def AgainLoadsWrongFalsely : Prop := againLoadsRow.holds Try.pinned (OpenSpec.ofChange againLoadsWrong)

/-- 'leaseholdlaw12.AgainLast': WHATEVER THE INPUT: true; the input reads as it did. -/
def againLastSpec : ChangeSpec := { name := "againLast", fn := fun _ => fun
  | [d1, d2, d3] => { results := [.lit (.bool true)], args := [d1, d2, d3] }
  | _ => none }
def againLastRow : OpenClaim := { program := "ytfpennnbicclfaa", sum := "e68693b7603f76507fd346f9d90de0b7c27daac92502d34b02d2a368d7cae4bb", func := "leasehold/leaseholdlaw12.AgainLast", spec := "againLast", unfollowed := true, recurses := true, apart := false }
def AgainLastSaid : Prop := againLastRow.holds Try.pinned (OpenSpec.ofChange againLastSpec)

/-- ITS FALSE NEIGHBOUR: 'it returns false'. Refute it at one input. -/
def againLastWrong : ChangeSpec := { name := "againLast", fn := fun _ => fun
  | [d1, d2, d3] => { results := [.lit (.bool false)], args := [d1, d2, d3] }
  | _ => none }
def AgainLastWrongFalsely : Prop := againLastRow.holds Try.pinned (OpenSpec.ofChange againLastWrong)

/-- 'leaseholdlaw12.AgainMany': WHATEVER THE INPUT: true; the input reads as it did. -/
def againManySpec : ChangeSpec := { name := "againMany", fn := fun _ => fun
  | [d1, d2] => { results := [.lit (.bool true)], args := [d1, d2] }
  | _ => none }
def againManyRow : OpenClaim := { program := "ytfpennnbicclfaa", sum := "e68693b7603f76507fd346f9d90de0b7c27daac92502d34b02d2a368d7cae4bb", func := "leasehold/leaseholdlaw12.AgainMany", spec := "againMany", unfollowed := true, recurses := true, apart := false }
def AgainManySaid : Prop := againManyRow.holds Try.pinned (OpenSpec.ofChange againManySpec)

/-- ITS FALSE NEIGHBOUR: 'it returns false'. Refute it at one input. -/
def againManyWrong : ChangeSpec := { name := "againMany", fn := fun _ => fun
  | [d1, d2] => { results := [.lit (.bool false)], args := [d1, d2] }
  | _ => none }
def AgainManyWrongFalsely : Prop := againManyRow.holds Try.pinned (OpenSpec.ofChange againManyWrong)

/-- 'leaseholdlaw12.AgainOwn': WHATEVER THE INPUT: true; the input reads as it did. -/
def againOwnSpec : ChangeSpec := { name := "againOwn", fn := fun _ => fun
  | [d1, d2] => { results := [.lit (.bool true)], args := [d1, d2] }
  | _ => none }
def againOwnRow : OpenClaim := { program := "ytfpennnbicclfaa", sum := "e68693b7603f76507fd346f9d90de0b7c27daac92502d34b02d2a368d7cae4bb", func := "leasehold/leaseholdlaw12.AgainOwn", spec := "againOwn", unfollowed := true, recurses := true, apart := false }
def AgainOwnSaid : Prop := againOwnRow.holds Try.pinned (OpenSpec.ofChange againOwnSpec)

/-- ITS FALSE NEIGHBOUR: 'it returns false'. Refute it at one input. -/
def againOwnWrong : ChangeSpec := { name := "againOwn", fn := fun _ => fun
  | [d1, d2] => { results := [.lit (.bool false)], args := [d1, d2] }
  | _ => none }
def AgainOwnWrongFalsely : Prop := againOwnRow.holds Try.pinned (OpenSpec.ofChange againOwnWrong)

/- THE SECOND FORM. 'bulk': how many values and letters a reading holds, each counted each time it is reached (what is shared counts as often as it is met; a slice's spare places count too). A statement '..UptoSaid' is the law's where the arguments, and the package variables that the reading takes, are together of bulk at most 1048576: NARROWER than '..Said'. Prove '..Said' where nothing that the law and all that it calls make is longer than what came in: it says more and counts as full. Else prove '..UptoSaid'. A law counts once. -/
mutual
def uptoBulk {H : Type} : DataW H → Nat
  | .lit (.string bytes) => bytes.length + 1
  | .lit _ => 1
  | .nil => 1
  | .ptr d => uptoBulk d + 1
  | .slice elems spare => uptoBulkAll elems + uptoBulkAll spare + 1
  | .agg parts => uptoBulkAll parts + 1
  | .iface _ d => uptoBulk d + 1
  | .map entries => uptoBulkEntries entries + 1
  | .held _ => 1
def uptoBulkAll {H : Type} : List (DataW H) → Nat
  | [] => 0
  | d :: r => uptoBulk d + uptoBulkAll r
def uptoBulkEntries {H : Type} : List (Lit × DataW H) → Nat
  | [] => 0
  | x :: r => uptoBulkEntry x + uptoBulkEntries r
def uptoBulkEntry {H : Type} : Lit × DataW H → Nat
  | (.string bytes, d) => bytes.length + uptoBulk d + 1
  | (_, d) => uptoBulk d + 1
 end
def uptoSmall : (H : Type) → List (DataW H) → Bool := fun _ ds => decide (uptoBulkAll ds ≤ 1048576)
def OpenSpec.upto (s : _root_.Go.ChangeSpec) : _root_.Go.OpenSpec := { _root_.Go.OpenSpec.ofChange s with cond := some uptoSmall }

/-- 'leaseholdlaw12.AgainPlays', WHERE WHAT IT READS IS OF BULK AT MOST 1048576: true; the input reads as it did. -/
def againPlaysUptoRow : OpenClaim := { program := "ytfpennnbicclfaa", sum := "e68693b7603f76507fd346f9d90de0b7c27daac92502d34b02d2a368d7cae4bb", func := "leasehold/leaseholdlaw12.AgainPlays", spec := "againPlays", unfollowed := true, recurses := true, apart := false, narrowed := true }
def AgainPlaysUptoSaid : Prop := againPlaysUptoRow.holds Try.pinned (OpenSpec.upto againPlaysSpec)

/-- 'leaseholdlaw12.AgainLoads', WHERE WHAT IT READS IS OF BULK AT MOST 1048576: true; the input reads as it did. -/
def againLoadsUptoRow : OpenClaim := { program := "ytfpennnbicclfaa", sum := "e68693b7603f76507fd346f9d90de0b7c27daac92502d34b02d2a368d7cae4bb", func := "leasehold/leaseholdlaw12.AgainLoads", spec := "againLoads", unfollowed := true, recurses := true, apart := false, narrowed := true }
def AgainLoadsUptoSaid : Prop := againLoadsUptoRow.holds Try.pinned (OpenSpec.upto againLoadsSpec)

/-- 'leaseholdlaw12.AgainLast', WHERE WHAT IT READS IS OF BULK AT MOST 1048576: true; the input reads as it did. -/
def againLastUptoRow : OpenClaim := { program := "ytfpennnbicclfaa", sum := "e68693b7603f76507fd346f9d90de0b7c27daac92502d34b02d2a368d7cae4bb", func := "leasehold/leaseholdlaw12.AgainLast", spec := "againLast", unfollowed := true, recurses := true, apart := false, narrowed := true }
def AgainLastUptoSaid : Prop := againLastUptoRow.holds Try.pinned (OpenSpec.upto againLastSpec)

/-- 'leaseholdlaw12.AgainMany', WHERE WHAT IT READS IS OF BULK AT MOST 1048576: true; the input reads as it did. -/
def againManyUptoRow : OpenClaim := { program := "ytfpennnbicclfaa", sum := "e68693b7603f76507fd346f9d90de0b7c27daac92502d34b02d2a368d7cae4bb", func := "leasehold/leaseholdlaw12.AgainMany", spec := "againMany", unfollowed := true, recurses := true, apart := false, narrowed := true }
def AgainManyUptoSaid : Prop := againManyUptoRow.holds Try.pinned (OpenSpec.upto againManySpec)

/-- 'leaseholdlaw12.AgainOwn', WHERE WHAT IT READS IS OF BULK AT MOST 1048576: true; the input reads as it did. -/
def againOwnUptoRow : OpenClaim := { program := "ytfpennnbicclfaa", sum := "e68693b7603f76507fd346f9d90de0b7c27daac92502d34b02d2a368d7cae4bb", func := "leasehold/leaseholdlaw12.AgainOwn", spec := "againOwn", unfollowed := true, recurses := true, apart := false, narrowed := true }
def AgainOwnUptoSaid : Prop := againOwnUptoRow.holds Try.pinned (OpenSpec.upto againOwnSpec)

end Rows
end Go.Proofs.Ytfpennnbicclfaa
