/-
  DERIVED. GIVEN WITH THE SEED: THE PROGRAM's TIES (one call each: nine closed facts by the kernel) AND EACH ROW's TIE, after the 31st guide's Derived/Test/Toyas{Tie, Card}.lean. No idea stands in it: it is a product of the set-up. Laid BY PROGRAM, IN A SANDBOX (cutbox-door.mjs). By AI agents, Wed Nov 11 2026. No macro, syntax, notation, axiom, sorry.
-/
import Derived.Test.YtcgcacnlafdggaaDoorRows
import Derived.LaidByTextLater
import Derived.SevenTiedAt
import Derived.LaidSub
import Derived.LaidOnce
namespace Go.Proofs.YtcgcacnlafdggaaDoor
open Go
set_option maxRecDepth 100000
theorem seatTie1 : Tryd.prog.laidByTextLater [("leasehold/api.ErrEnd", Rows.laid_leasehold_api_ErrEnd), ("leasehold/api.ErrShape", Rows.laid_leasehold_api_ErrShape), ("leasehold/api.ErrSum", Rows.laid_leasehold_api_ErrSum), ("leasehold/api.ErrMany", Rows.laid_leasehold_api_ErrMany), ("leasehold/api.ErrLong", Rows.laid_leasehold_api_ErrLong), ("leasehold/api.ErrName", Rows.laid_leasehold_api_ErrName), ("leasehold/api.ErrRange", Rows.laid_leasehold_api_ErrRange), ("leasehold/api.ErrNone", Rows.laid_leasehold_api_ErrNone), ("leasehold/api.ErrTwice", Rows.laid_leasehold_api_ErrTwice), ("leasehold/api.ErrType", Rows.laid_leasehold_api_ErrType), ("leasehold/api.ErrSyntax", Rows.laid_leasehold_api_ErrSyntax), ("leasehold/api.ErrDeep", Rows.laid_leasehold_api_ErrDeep), ("leasehold/api.ErrZero", Rows.laid_leasehold_api_ErrZero), ("leasehold/api.ErrFull", Rows.laid_leasehold_api_ErrFull), ("leasehold/api.ErrDead", Rows.laid_leasehold_api_ErrDead), ("leasehold/api.ErrStuck", Rows.laid_leasehold_api_ErrStuck), ("leasehold/crc.steps", Rows.laid_leasehold_crc_steps)] [.sentinel, .sentinel, .sentinel, .sentinel, .sentinel, .sentinel, .sentinel, .sentinel, .sentinel, .sentinel, .sentinel, .sentinel, .sentinel, .sentinel, .sentinel, .sentinel, .data] true :=
  Program.laidByTextLater_by_one 318 8 17 (by kernel_rfl) (by kernel_rfl) (by kernel_rfl) (by kernel_rfl) (by kernel_rfl) (by kernel_rfl) (fun _ _ => by kernel_rfl)
theorem noOwnUnsafe : Tryd.pinned.checked.prog.headLifts.contains "ownunsafe" = false := by kernel_rfl
theorem tie : Tryd.prog.laidByTextLater [("leasehold/api.ErrEnd", Rows.laid_leasehold_api_ErrEnd), ("leasehold/api.ErrShape", Rows.laid_leasehold_api_ErrShape), ("leasehold/api.ErrSum", Rows.laid_leasehold_api_ErrSum), ("leasehold/api.ErrLong", Rows.laid_leasehold_api_ErrLong), ("leasehold/crc.steps", Rows.laid_leasehold_crc_steps)] [.sentinel, .sentinel, .sentinel, .sentinel, .data] true :=
  Program.laidByTextLater.sub seatTie1 ["leasehold/api.ErrEnd", "leasehold/api.ErrShape", "leasehold/api.ErrSum", "leasehold/api.ErrLong", "leasehold/crc.steps"] (by kernel_rfl) (by kernel_rfl)
theorem frameStreams_row_tie : Rows.frameStreamsRow.laidByTextAt .later Tryd.pinned [.sentinel, .sentinel, .sentinel, .sentinel, .data] true :=
  OpenClaim.laidByTextAt_later rfl rfl tie noOwnUnsafe
theorem frameRows_row_tie : Rows.frameRowsRow.laidByTextAt .later Tryd.pinned [.sentinel, .sentinel, .sentinel, .sentinel, .data] true :=
  OpenClaim.laidByTextAt_later rfl rfl tie noOwnUnsafe
theorem frameSpoilt_row_tie : Rows.frameSpoiltRow.laidByTextAt .later Tryd.pinned [.sentinel, .sentinel, .sentinel, .sentinel, .data] true :=
  OpenClaim.laidByTextAt_later rfl rfl tie noOwnUnsafe
theorem tie2 : Tryd.prog.laidByTextLater [("leasehold/api.ErrEnd", Rows.laid_leasehold_api_ErrEnd), ("leasehold/api.ErrShape", Rows.laid_leasehold_api_ErrShape), ("leasehold/api.ErrSum", Rows.laid_leasehold_api_ErrSum), ("leasehold/api.ErrMany", Rows.laid_leasehold_api_ErrMany), ("leasehold/api.ErrLong", Rows.laid_leasehold_api_ErrLong), ("leasehold/api.ErrName", Rows.laid_leasehold_api_ErrName), ("leasehold/api.ErrRange", Rows.laid_leasehold_api_ErrRange), ("leasehold/api.ErrNone", Rows.laid_leasehold_api_ErrNone), ("leasehold/api.ErrTwice", Rows.laid_leasehold_api_ErrTwice), ("leasehold/api.ErrType", Rows.laid_leasehold_api_ErrType), ("leasehold/api.ErrSyntax", Rows.laid_leasehold_api_ErrSyntax), ("leasehold/api.ErrDeep", Rows.laid_leasehold_api_ErrDeep), ("leasehold/api.ErrZero", Rows.laid_leasehold_api_ErrZero), ("leasehold/api.ErrFull", Rows.laid_leasehold_api_ErrFull), ("leasehold/api.ErrDead", Rows.laid_leasehold_api_ErrDead), ("leasehold/api.ErrStuck", Rows.laid_leasehold_api_ErrStuck), ("leasehold/crc.steps", Rows.laid_leasehold_crc_steps)] [.sentinel, .sentinel, .sentinel, .sentinel, .sentinel, .sentinel, .sentinel, .sentinel, .sentinel, .sentinel, .sentinel, .sentinel, .sentinel, .sentinel, .sentinel, .sentinel, .data] true :=
  Program.laidByTextLater.sub seatTie1 ["leasehold/api.ErrEnd", "leasehold/api.ErrShape", "leasehold/api.ErrSum", "leasehold/api.ErrMany", "leasehold/api.ErrLong", "leasehold/api.ErrName", "leasehold/api.ErrRange", "leasehold/api.ErrNone", "leasehold/api.ErrTwice", "leasehold/api.ErrType", "leasehold/api.ErrSyntax", "leasehold/api.ErrDeep", "leasehold/api.ErrZero", "leasehold/api.ErrFull", "leasehold/api.ErrDead", "leasehold/api.ErrStuck", "leasehold/crc.steps"] (by kernel_rfl) (by kernel_rfl)
theorem frameBack_row_tie : Rows.frameBackRow.laidByTextAt .later Tryd.pinned [.sentinel, .sentinel, .sentinel, .sentinel, .sentinel, .sentinel, .sentinel, .sentinel, .sentinel, .sentinel, .sentinel, .sentinel, .sentinel, .sentinel, .sentinel, .sentinel, .data] true :=
  OpenClaim.laidByTextAt_later rfl rfl tie2 noOwnUnsafe
theorem frameStreamsUpto_row_tie : Rows.frameStreamsUptoRow.laidByTextAt .later Tryd.pinned [.sentinel, .sentinel, .sentinel, .sentinel, .data] true :=
  OpenClaim.laidByTextAt_later rfl rfl tie noOwnUnsafe
theorem frameBackUpto_row_tie : Rows.frameBackUptoRow.laidByTextAt .later Tryd.pinned [.sentinel, .sentinel, .sentinel, .sentinel, .sentinel, .sentinel, .sentinel, .sentinel, .sentinel, .sentinel, .sentinel, .sentinel, .sentinel, .sentinel, .sentinel, .sentinel, .data] true :=
  OpenClaim.laidByTextAt_later rfl rfl tie2 noOwnUnsafe
theorem frameRowsUpto_row_tie : Rows.frameRowsUptoRow.laidByTextAt .later Tryd.pinned [.sentinel, .sentinel, .sentinel, .sentinel, .data] true :=
  OpenClaim.laidByTextAt_later rfl rfl tie noOwnUnsafe
theorem frameSpoiltUpto_row_tie : Rows.frameSpoiltUptoRow.laidByTextAt .later Tryd.pinned [.sentinel, .sentinel, .sentinel, .sentinel, .data] true :=
  OpenClaim.laidByTextAt_later rfl rfl tie noOwnUnsafe
end Go.Proofs.YtcgcacnlafdggaaDoor
