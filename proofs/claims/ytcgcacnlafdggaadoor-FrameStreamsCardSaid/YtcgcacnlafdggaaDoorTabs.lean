/- The tables that the rows list, as the walks want them. -/
import Derived.Test.YtcgcacnlafdggaaDoorFrame
import Derived.Test.YtcgcacnlafdggaaDoorWa
namespace Go.Proofs.YtcgcacnlafdggaaDoor
open Go.RowKit

theorem wf_u32 {z : Int} (h : (Lit.int .u32 z).wf = true) : ∃ s : BitVec 32, z = u s := by
  have hb := bounds_u32 h
  refine ⟨BitVec.ofNat 32 z.toNat, ?_⟩
  unfold u
  rw [BitVec.toNat_ofNat, Nat.mod_eq_of_lt (by omega)]
  omega

theorem tab_crc_steps {W : World} {rest : List (String × DataW Unit)} (h : laidMet Tryd.prog (("leasehold/crc.steps", Rows.laid_leasehold_crc_steps) :: rest) W) : Steps W := by
  have hT := Lib.tabIs_of_head (zs := [0, 498536548, 997073096, 651767980, 1994146192, 1802195444, 1303535960, 1342533948, 3988292384, 4027552580, 3604390888, 3412177804, 2607071920, 2262029012, 2685067896, 3183342108]) (k := .u32)
    (show Tryd.prog.globalNamed "leasehold/crc.steps" = some 4 by kernel_rfl) (show (Tryd.prog.globals[4]?).map (·.type) = some 73 by kernel_rfl)
    Tryd.underlying73 Tryd.underlying59 (by kernel_rfl) (by kernel_rfl) h
  have key : ∀ i : Fin 16, ([0, 498536548, 997073096, 651767980, 1994146192, 1802195444, 1303535960, 1342533948, 3988292384, 4027552580, 3604390888, 3412177804, 2607071920, 2262029012, 2685067896, 3183342108] : List Int).getD i.val 0 = u (Crc.tab i.val) := by decide
  intro s
  have hlo : lo s < 16 := by unfold lo; omega
  have := hT.cell (show Tryd.prog.globalNamed "leasehold/crc.steps" = some 4 by kernel_rfl) (lo s) hlo
  rw [key ⟨lo s, hlo⟩] at this
  exact this
end Go.Proofs.YtcgcacnlafdggaaDoor
