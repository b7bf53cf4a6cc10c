/- A walk of the library's Equal of bytes. -/
import Derived.Test.YtcgcacnlafdggaaDoorProg
import Derived.Test.YtcgcacnlafdggaaDoorBase
namespace Go.Proofs.YtcgcacnlafdggaaDoor
open Go.RowKit

set_option maxHeartbeats 400000 in
theorem equal_any (A A' : Option Addr) (n n' c c' : Nat) (l l' : List UInt8) (w : World) (B B' : Nat) (hr : Bytes w B A n l) (hA : A = none → n = 0) (hr' : Bytes w B' A' n' l') (hA' : A' = none → n' = 0) :
    Calls Tryd.prog 21 #[.slice A n c, .slice A' n' c'] w fun e w' => e = .returned (.bool (l == l')) ∧ w = w' := by
  have k1 := hr.string (P := Tryd.prog) hA c 25 9 5 Tryd.underlying25 Tryd.underlying5 Tryd.underlying9
  have k2 := hr'.string (P := Tryd.prog) hA' c' 25 9 5 Tryd.underlying25 Tryd.underlying5 Tryd.underlying9
  go_enter Tryd.func21, Tryd.ntmps21
  go_wp2
  go_ret
  exact ⟨rfl, rfl⟩
end Go.Proofs.YtcgcacnlafdggaaDoor
