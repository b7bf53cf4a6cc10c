/-
  DERIVED. GIVEN WITH THE SEED: THE PROGRAM's TIES (one call each: nine closed facts by the kernel) AND EACH ROW's TIE, after the 31st guide's Derived/Test/Toyas{Tie, Card}.lean. No idea stands in it: it is a product of the set-up. Laid BY PROGRAM, IN A SANDBOX (cutbox-door.mjs). By AI agents, Wed Nov 11 2026. No macro, syntax, notation, axiom, sorry.
-/
import Derived.Test.YthkgjdhbibialaaDoorRows
import Derived.LaidByTextLater
import Derived.SevenTiedAt
import Derived.LaidSub
import Derived.LaidOnce
namespace Go.Proofs.YthkgjdhbibialaaDoor
open Go
set_option maxRecDepth 100000
theorem seatTie1 : Tryd.prog.laidByTextLater [("leasehold/api.ErrEnd", Rows.laid_leasehold_api_ErrEnd), ("leasehold/api.ErrShape", Rows.laid_leasehold_api_ErrShape), ("leasehold/api.ErrSum", Rows.laid_leasehold_api_ErrSum), ("leasehold/api.ErrMany", Rows.laid_leasehold_api_ErrMany), ("leasehold/api.ErrLong", Rows.laid_leasehold_api_ErrLong), ("leasehold/api.ErrName", Rows.laid_leasehold_api_ErrName), ("leasehold/api.ErrRange", Rows.laid_leasehold_api_ErrRange), ("leasehold/api.ErrNone", Rows.laid_leasehold_api_ErrNone), ("leasehold/api.ErrTwice", Rows.laid_leasehold_api_ErrTwice), ("leasehold/api.ErrType", Rows.laid_leasehold_api_ErrType), ("leasehold/api.ErrSyntax", Rows.laid_leasehold_api_ErrSyntax), ("leasehold/api.ErrDeep", Rows.laid_leasehold_api_ErrDeep), ("leasehold/api.ErrZero", Rows.laid_leasehold_api_ErrZero), ("leasehold/api.ErrFull", Rows.laid_leasehold_api_ErrFull), ("leasehold/api.ErrDead", Rows.laid_leasehold_api_ErrDead), ("leasehold/api.ErrStuck", Rows.laid_leasehold_api_ErrStuck)] [.sentinel, .sentinel, .sentinel, .sentinel, .sentinel, .sentinel, .sentinel, .sentinel, .sentinel, .sentinel, .sentinel, .sentinel, .sentinel, .sentinel, .sentinel, .sentinel] true :=
  Program.laidByTextLater_by_one 313 8 2 (by kernel_rfl) (by kernel_rfl) (by kernel_rfl) (by kernel_rfl) (by kernel_rfl) (by kernel_rfl) (fun _ _ => by kernel_rfl)
theorem noOwnUnsafe : Tryd.pinned.checked.prog.headLifts.contains "ownunsafe" = false := by kernel_rfl
theorem tie : Tryd.prog.laidByTextLater [("leasehold/api.ErrEnd", Rows.laid_leasehold_api_ErrEnd), ("leasehold/api.ErrShape", Rows.laid_leasehold_api_ErrShape), ("leasehold/api.ErrSum", Rows.laid_leasehold_api_ErrSum), ("leasehold/api.ErrMany", Rows.laid_leasehold_api_ErrMany), ("leasehold/api.ErrLong", Rows.laid_leasehold_api_ErrLong), ("leasehold/api.ErrName", Rows.laid_leasehold_api_ErrName), ("leasehold/api.ErrRange", Rows.laid_leasehold_api_ErrRange), ("leasehold/api.ErrNone", Rows.laid_leasehold_api_ErrNone), ("leasehold/api.ErrTwice", Rows.laid_leasehold_api_ErrTwice), ("leasehold/api.ErrType", Rows.laid_leasehold_api_ErrType), ("leasehold/api.ErrSyntax", Rows.laid_leasehold_api_ErrSyntax), ("leasehold/api.ErrDeep", Rows.laid_leasehold_api_ErrDeep), ("leasehold/api.ErrZero", Rows.laid_leasehold_api_ErrZero), ("leasehold/api.ErrFull", Rows.laid_leasehold_api_ErrFull), ("leasehold/api.ErrDead", Rows.laid_leasehold_api_ErrDead), ("leasehold/api.ErrStuck", Rows.laid_leasehold_api_ErrStuck)] [.sentinel, .sentinel, .sentinel, .sentinel, .sentinel, .sentinel, .sentinel, .sentinel, .sentinel, .sentinel, .sentinel, .sentinel, .sentinel, .sentinel, .sentinel, .sentinel] true :=
  Program.laidByTextLater.sub seatTie1 ["leasehold/api.ErrEnd", "leasehold/api.ErrShape", "leasehold/api.ErrSum", "leasehold/api.ErrMany", "leasehold/api.ErrLong", "leasehold/api.ErrName", "leasehold/api.ErrRange", "leasehold/api.ErrNone", "leasehold/api.ErrTwice", "leasehold/api.ErrType", "leasehold/api.ErrSyntax", "leasehold/api.ErrDeep", "leasehold/api.ErrZero", "leasehold/api.ErrFull", "leasehold/api.ErrDead", "leasehold/api.ErrStuck"] (by kernel_rfl) (by kernel_rfl)
theorem varsSay_row_tie : Rows.varsSayRow.laidByTextAt .later Tryd.pinned [.sentinel, .sentinel, .sentinel, .sentinel, .sentinel, .sentinel, .sentinel, .sentinel, .sentinel, .sentinel, .sentinel, .sentinel, .sentinel, .sentinel, .sentinel, .sentinel] true :=
  OpenClaim.laidByTextAt_later rfl rfl tie noOwnUnsafe
theorem varsOrder_row_tie : Rows.varsOrderRow.laidByTextAt .later Tryd.pinned [.sentinel, .sentinel, .sentinel, .sentinel, .sentinel, .sentinel, .sentinel, .sentinel, .sentinel, .sentinel, .sentinel, .sentinel, .sentinel, .sentinel, .sentinel, .sentinel] true :=
  OpenClaim.laidByTextAt_later rfl rfl tie noOwnUnsafe
theorem tie2 : Tryd.prog.laidByTextLater [("leasehold/api.ErrMany", Rows.laid_leasehold_api_ErrMany), ("leasehold/api.ErrLong", Rows.laid_leasehold_api_ErrLong), ("leasehold/api.ErrName", Rows.laid_leasehold_api_ErrName), ("leasehold/api.ErrTwice", Rows.laid_leasehold_api_ErrTwice), ("leasehold/api.ErrType", Rows.laid_leasehold_api_ErrType)] [.sentinel, .sentinel, .sentinel, .sentinel, .sentinel] true :=
  Program.laidByTextLater.sub seatTie1 ["leasehold/api.ErrMany", "leasehold/api.ErrLong", "leasehold/api.ErrName", "leasehold/api.ErrTwice", "leasehold/api.ErrType"] (by kernel_rfl) (by kernel_rfl)
theorem varsSet_row_tie : Rows.varsSetRow.laidByTextAt .later Tryd.pinned [.sentinel, .sentinel, .sentinel, .sentinel, .sentinel] true :=
  OpenClaim.laidByTextAt_later rfl rfl tie2 noOwnUnsafe
theorem varsNames_row_tie : Rows.varsNamesRow.laidByTextAt .later Tryd.pinned [.sentinel, .sentinel, .sentinel, .sentinel, .sentinel] true :=
  OpenClaim.laidByTextAt_later rfl rfl tie2 noOwnUnsafe
theorem tie3 : Tryd.prog.laidByTextLater [("leasehold/api.ErrEnd", Rows.laid_leasehold_api_ErrEnd), ("leasehold/api.ErrShape", Rows.laid_leasehold_api_ErrShape), ("leasehold/api.ErrMany", Rows.laid_leasehold_api_ErrMany), ("leasehold/api.ErrLong", Rows.laid_leasehold_api_ErrLong), ("leasehold/api.ErrName", Rows.laid_leasehold_api_ErrName), ("leasehold/api.ErrRange", Rows.laid_leasehold_api_ErrRange), ("leasehold/api.ErrTwice", Rows.laid_leasehold_api_ErrTwice), ("leasehold/api.ErrType", Rows.laid_leasehold_api_ErrType)] [.sentinel, .sentinel, .sentinel, .sentinel, .sentinel, .sentinel, .sentinel, .sentinel] true :=
  Program.laidByTextLater.sub seatTie1 ["leasehold/api.ErrEnd", "leasehold/api.ErrShape", "leasehold/api.ErrMany", "leasehold/api.ErrLong", "leasehold/api.ErrName", "leasehold/api.ErrRange", "leasehold/api.ErrTwice", "leasehold/api.ErrType"] (by kernel_rfl) (by kernel_rfl)
theorem varsBack_row_tie : Rows.varsBackRow.laidByTextAt .later Tryd.pinned [.sentinel, .sentinel, .sentinel, .sentinel, .sentinel, .sentinel, .sentinel, .sentinel] true :=
  OpenClaim.laidByTextAt_later rfl rfl tie3 noOwnUnsafe
theorem varsSayUpto_row_tie : Rows.varsSayUptoRow.laidByTextAt .later Tryd.pinned [.sentinel, .sentinel, .sentinel, .sentinel, .sentinel, .sentinel, .sentinel, .sentinel, .sentinel, .sentinel, .sentinel, .sentinel, .sentinel, .sentinel, .sentinel, .sentinel] true :=
  OpenClaim.laidByTextAt_later rfl rfl tie noOwnUnsafe
theorem varsSetUpto_row_tie : Rows.varsSetUptoRow.laidByTextAt .later Tryd.pinned [.sentinel, .sentinel, .sentinel, .sentinel, .sentinel] true :=
  OpenClaim.laidByTextAt_later rfl rfl tie2 noOwnUnsafe
theorem varsBackUpto_row_tie : Rows.varsBackUptoRow.laidByTextAt .later Tryd.pinned [.sentinel, .sentinel, .sentinel, .sentinel, .sentinel, .sentinel, .sentinel, .sentinel] true :=
  OpenClaim.laidByTextAt_later rfl rfl tie3 noOwnUnsafe
theorem varsNamesUpto_row_tie : Rows.varsNamesUptoRow.laidByTextAt .later Tryd.pinned [.sentinel, .sentinel, .sentinel, .sentinel, .sentinel] true :=
  OpenClaim.laidByTextAt_later rfl rfl tie2 noOwnUnsafe
theorem varsOrderUpto_row_tie : Rows.varsOrderUptoRow.laidByTextAt .later Tryd.pinned [.sentinel, .sentinel, .sentinel, .sentinel, .sentinel, .sentinel, .sentinel, .sentinel, .sentinel, .sentinel, .sentinel, .sentinel, .sentinel, .sentinel, .sentinel, .sentinel] true :=
  OpenClaim.laidByTextAt_later rfl rfl tie noOwnUnsafe
end Go.Proofs.YthkgjdhbibialaaDoor
