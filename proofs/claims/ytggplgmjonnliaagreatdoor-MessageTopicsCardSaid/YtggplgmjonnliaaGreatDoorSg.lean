/- Contracts of the library's shelf at this program (generic functions): which function is which, compared by the kernel. -/
import Derived.Shelf.SlGeneric
import Derived.Shelf.SlicesE.Index
import Derived.Ground.SlgnProg
import Derived.Test.YtggplgmjonnliaaGreatDoorProg
namespace Go.Proofs.YtggplgmjonnliaaGreatDoor
open Go.Shelf
def sgCt_ren : Go.Shelf.Ren := ⟨fun | 31 => 79 | 29 => 96 | n => n, fun | 22 => 31 | 23 => 9 | 4 => 4 | 3 => 3 | 0 => 0 | n => n, fun | n => n⟩
theorem sgCt : Go.Proofs.SlLaysE.n31 Tryz.prog sgCt_ren := {
  mixed := by kernel_rfl
  f29 := ⟨Tryz.f96.name, by decide, Tryz.func96.trans (congrArg some (by kernel_rfl))⟩
  f31 := ⟨Tryz.f79.name, by decide, Tryz.func79.trans (congrArg some (by kernel_rfl))⟩
  t0 := Tryz.underlying0
  a0 := Tryz.isAgg0
  z0 := Tryz.sizeOf0
  v0 := Tryz.zeroValue0
  t3 := Tryz.underlying3
  a3 := Tryz.isAgg3
  z3 := Tryz.sizeOf3
  v3 := Tryz.zeroValue3
  t4 := Tryz.underlying4
  a4 := Tryz.isAgg4
  z4 := Tryz.sizeOf4
  v4 := Tryz.zeroValue4
  t22 := Tryz.underlying31
  a22 := Tryz.isAgg31
  z22 := Tryz.sizeOf31
  v22 := Tryz.zeroValue31
  a23 := Tryz.isAgg9
  z23 := Tryz.sizeOf9 }
end Go.Proofs.YtggplgmjonnliaaGreatDoor
