/-
  DERIVED. GIVEN WITH THE SEED: THE PROGRAM's TIES (one call each: nine closed facts by the kernel) AND EACH ROW's TIE, after the 31st guide's Derived/Test/Toyas{Tie, Card}.lean. No idea stands in it: it is a product of the set-up. Laid BY PROGRAM, IN A SANDBOX (cutbox-door.mjs). By AI agents, Wed Nov 11 2026. No macro, syntax, notation, axiom, sorry.
-/
import Derived.Test.YtggplgmjonnliaaGreatDoorRows
import Derived.LaidByTextLater
import Derived.SevenTiedAt
import Derived.LaidSub
import Derived.LaidOnce
namespace Go.Proofs.YtggplgmjonnliaaGreatDoor
open Go
set_option maxRecDepth 100000
theorem seatTie1 : Tryz.prog.laidByTextLater [("math/bits.deBruijn32tab", Rows.laid_math_bits_deBruijn32tab), ("math/bits.deBruijn64tab", Rows.laid_math_bits_deBruijn64tab), ("internal/strconv.uint64pow10", Rows.laid_internal_strconv_uint64pow10), ("unicode/utf8.acceptRanges", Rows.laid_unicode_utf8_acceptRanges), ("errors.errorType", Rows.laid_errors_errorType), ("strconv.ErrRange", Rows.laid_strconv_ErrRange), ("strconv.ErrSyntax", Rows.laid_strconv_ErrSyntax), ("leasehold/api.ErrEnd", Rows.laid_leasehold_api_ErrEnd), ("leasehold/api.ErrShape", Rows.laid_leasehold_api_ErrShape), ("leasehold/api.ErrSum", Rows.laid_leasehold_api_ErrSum), ("leasehold/api.ErrMany", Rows.laid_leasehold_api_ErrMany), ("leasehold/api.ErrLong", Rows.laid_leasehold_api_ErrLong), ("leasehold/api.ErrName", Rows.laid_leasehold_api_ErrName), ("leasehold/api.ErrRange", Rows.laid_leasehold_api_ErrRange), ("leasehold/api.ErrNone", Rows.laid_leasehold_api_ErrNone), ("leasehold/api.ErrTwice", Rows.laid_leasehold_api_ErrTwice), ("leasehold/api.ErrType", Rows.laid_leasehold_api_ErrType), ("leasehold/api.ErrSyntax", Rows.laid_leasehold_api_ErrSyntax), ("leasehold/api.ErrDeep", Rows.laid_leasehold_api_ErrDeep), ("leasehold/api.ErrZero", Rows.laid_leasehold_api_ErrZero), ("leasehold/api.ErrFull", Rows.laid_leasehold_api_ErrFull), ("leasehold/api.ErrDead", Rows.laid_leasehold_api_ErrDead), ("leasehold/api.ErrStuck", Rows.laid_leasehold_api_ErrStuck), ("leasehold/cond.words", Rows.laid_leasehold_cond_words)] [.data, .data, .data, .data, .handle, .sentinel, .sentinel, .sentinel, .sentinel, .sentinel, .sentinel, .sentinel, .sentinel, .sentinel, .sentinel, .sentinel, .sentinel, .sentinel, .sentinel, .sentinel, .sentinel, .sentinel, .sentinel, .data] true :=
  Program.laidByTextLater_by_one 388 8 65 (by kernel_rfl) (by kernel_rfl) (by kernel_rfl) (by kernel_rfl) (by kernel_rfl) (by kernel_rfl) (fun _ _ => by kernel_rfl)
theorem pin_laid_unicode_utf8_first : Tryz.pinned.checked.prog.pinnedFits "unicode/utf8.first" = true := by kernel_rfl
theorem noOwnUnsafe : Tryz.pinned.checked.prog.headLifts.contains "ownunsafe" = false := by kernel_rfl
theorem fits1 : Tryz.pinned.checked.prog.listedFits [("math/bits.deBruijn32tab", Rows.laid_math_bits_deBruijn32tab), ("math/bits.deBruijn64tab", Rows.laid_math_bits_deBruijn64tab), ("internal/strconv.uint64pow10", Rows.laid_internal_strconv_uint64pow10), ("unicode/utf8.acceptRanges", Rows.laid_unicode_utf8_acceptRanges), ("errors.errorType", Rows.laid_errors_errorType), ("strconv.ErrRange", Rows.laid_strconv_ErrRange), ("strconv.ErrSyntax", Rows.laid_strconv_ErrSyntax), ("leasehold/api.ErrEnd", Rows.laid_leasehold_api_ErrEnd), ("leasehold/api.ErrShape", Rows.laid_leasehold_api_ErrShape), ("leasehold/api.ErrSum", Rows.laid_leasehold_api_ErrSum), ("leasehold/api.ErrMany", Rows.laid_leasehold_api_ErrMany), ("leasehold/api.ErrLong", Rows.laid_leasehold_api_ErrLong), ("leasehold/api.ErrName", Rows.laid_leasehold_api_ErrName), ("leasehold/api.ErrRange", Rows.laid_leasehold_api_ErrRange), ("leasehold/api.ErrNone", Rows.laid_leasehold_api_ErrNone), ("leasehold/api.ErrTwice", Rows.laid_leasehold_api_ErrTwice), ("leasehold/api.ErrType", Rows.laid_leasehold_api_ErrType), ("leasehold/api.ErrSyntax", Rows.laid_leasehold_api_ErrSyntax), ("leasehold/api.ErrDeep", Rows.laid_leasehold_api_ErrDeep), ("leasehold/api.ErrZero", Rows.laid_leasehold_api_ErrZero), ("leasehold/api.ErrFull", Rows.laid_leasehold_api_ErrFull), ("leasehold/api.ErrDead", Rows.laid_leasehold_api_ErrDead), ("leasehold/api.ErrStuck", Rows.laid_leasehold_api_ErrStuck), ("leasehold/cond.words", Rows.laid_leasehold_cond_words), ("unicode/utf8.first", Rows.laid_unicode_utf8_first)] = true := by
  unfold Program.listedFits
  rw [noOwnUnsafe]
  kernel_rfl
theorem tie : Tryz.prog.laidByTextLater [("math/bits.deBruijn32tab", Rows.laid_math_bits_deBruijn32tab), ("math/bits.deBruijn64tab", Rows.laid_math_bits_deBruijn64tab), ("internal/strconv.uint64pow10", Rows.laid_internal_strconv_uint64pow10), ("unicode/utf8.acceptRanges", Rows.laid_unicode_utf8_acceptRanges), ("errors.errorType", Rows.laid_errors_errorType), ("strconv.ErrRange", Rows.laid_strconv_ErrRange), ("strconv.ErrSyntax", Rows.laid_strconv_ErrSyntax), ("leasehold/api.ErrEnd", Rows.laid_leasehold_api_ErrEnd), ("leasehold/api.ErrShape", Rows.laid_leasehold_api_ErrShape), ("leasehold/api.ErrSum", Rows.laid_leasehold_api_ErrSum), ("leasehold/api.ErrMany", Rows.laid_leasehold_api_ErrMany), ("leasehold/api.ErrLong", Rows.laid_leasehold_api_ErrLong), ("leasehold/api.ErrName", Rows.laid_leasehold_api_ErrName), ("leasehold/api.ErrRange", Rows.laid_leasehold_api_ErrRange), ("leasehold/api.ErrNone", Rows.laid_leasehold_api_ErrNone), ("leasehold/api.ErrTwice", Rows.laid_leasehold_api_ErrTwice), ("leasehold/api.ErrType", Rows.laid_leasehold_api_ErrType), ("leasehold/api.ErrSyntax", Rows.laid_leasehold_api_ErrSyntax), ("leasehold/api.ErrDeep", Rows.laid_leasehold_api_ErrDeep), ("leasehold/api.ErrZero", Rows.laid_leasehold_api_ErrZero), ("leasehold/api.ErrFull", Rows.laid_leasehold_api_ErrFull), ("leasehold/api.ErrDead", Rows.laid_leasehold_api_ErrDead), ("leasehold/api.ErrStuck", Rows.laid_leasehold_api_ErrStuck), ("leasehold/cond.words", Rows.laid_leasehold_cond_words)] [.data, .data, .data, .data, .handle, .sentinel, .sentinel, .sentinel, .sentinel, .sentinel, .sentinel, .sentinel, .sentinel, .sentinel, .sentinel, .sentinel, .sentinel, .sentinel, .sentinel, .sentinel, .sentinel, .sentinel, .sentinel, .data] true :=
  Program.laidByTextLater.sub seatTie1 ["math/bits.deBruijn32tab", "math/bits.deBruijn64tab", "internal/strconv.uint64pow10", "unicode/utf8.acceptRanges", "errors.errorType", "strconv.ErrRange", "strconv.ErrSyntax", "leasehold/api.ErrEnd", "leasehold/api.ErrShape", "leasehold/api.ErrSum", "leasehold/api.ErrMany", "leasehold/api.ErrLong", "leasehold/api.ErrName", "leasehold/api.ErrRange", "leasehold/api.ErrNone", "leasehold/api.ErrTwice", "leasehold/api.ErrType", "leasehold/api.ErrSyntax", "leasehold/api.ErrDeep", "leasehold/api.ErrZero", "leasehold/api.ErrFull", "leasehold/api.ErrDead", "leasehold/api.ErrStuck", "leasehold/cond.words"] (by kernel_rfl) (by kernel_rfl)
theorem messageHeads_row_tie : Rows.messageHeadsRow.laidByTextAt .later Tryz.pinned [.data, .data, .data, .data, .handle, .sentinel, .sentinel, .sentinel, .sentinel, .sentinel, .sentinel, .sentinel, .sentinel, .sentinel, .sentinel, .sentinel, .sentinel, .sentinel, .sentinel, .sentinel, .sentinel, .sentinel, .sentinel, .data, .pinned] true :=
  OpenClaim.laidByTextAt_pinned rfl rfl tie rfl rfl rfl rfl (fun y hy _e => by
    simp only [Rows.messageHeadsRow, List.zip_cons_cons, List.zip_nil_right, List.mem_cons, List.mem_nil_iff, or_false] at hy
    rcases hy with rfl | rfl | rfl | rfl | rfl | rfl | rfl | rfl | rfl | rfl | rfl | rfl | rfl | rfl | rfl | rfl | rfl | rfl | rfl | rfl | rfl | rfl | rfl | rfl | rfl
    · cases _e
    · cases _e
    · cases _e
    · cases _e
    · cases _e
    · cases _e
    · cases _e
    · cases _e
    · cases _e
    · cases _e
    · cases _e
    · cases _e
    · cases _e
    · cases _e
    · cases _e
    · cases _e
    · cases _e
    · cases _e
    · cases _e
    · cases _e
    · cases _e
    · cases _e
    · cases _e
    · cases _e
    · exact ⟨pin_laid_unicode_utf8_first, by kernel_rfl⟩) fits1
theorem messageTopics_row_tie : Rows.messageTopicsRow.laidByTextAt .later Tryz.pinned [.data, .data, .data, .data, .handle, .sentinel, .sentinel, .sentinel, .sentinel, .sentinel, .sentinel, .sentinel, .sentinel, .sentinel, .sentinel, .sentinel, .sentinel, .sentinel, .sentinel, .sentinel, .sentinel, .sentinel, .sentinel, .data, .pinned] true :=
  OpenClaim.laidByTextAt_pinned rfl rfl tie rfl rfl rfl rfl (fun y hy _e => by
    simp only [Rows.messageTopicsRow, List.zip_cons_cons, List.zip_nil_right, List.mem_cons, List.mem_nil_iff, or_false] at hy
    rcases hy with rfl | rfl | rfl | rfl | rfl | rfl | rfl | rfl | rfl | rfl | rfl | rfl | rfl | rfl | rfl | rfl | rfl | rfl | rfl | rfl | rfl | rfl | rfl | rfl | rfl
    · cases _e
    · cases _e
    · cases _e
    · cases _e
    · cases _e
    · cases _e
    · cases _e
    · cases _e
    · cases _e
    · cases _e
    · cases _e
    · cases _e
    · cases _e
    · cases _e
    · cases _e
    · cases _e
    · cases _e
    · cases _e
    · cases _e
    · cases _e
    · cases _e
    · cases _e
    · cases _e
    · cases _e
    · exact ⟨pin_laid_unicode_utf8_first, by kernel_rfl⟩) fits1
theorem messageHeadsUpto_row_tie : Rows.messageHeadsUptoRow.laidByTextAt .later Tryz.pinned [.data, .data, .data, .data, .handle, .sentinel, .sentinel, .sentinel, .sentinel, .sentinel, .sentinel, .sentinel, .sentinel, .sentinel, .sentinel, .sentinel, .sentinel, .sentinel, .sentinel, .sentinel, .sentinel, .sentinel, .sentinel, .data, .pinned] true :=
  OpenClaim.laidByTextAt_pinned rfl rfl tie rfl rfl rfl rfl (fun y hy _e => by
    simp only [Rows.messageHeadsUptoRow, List.zip_cons_cons, List.zip_nil_right, List.mem_cons, List.mem_nil_iff, or_false] at hy
    rcases hy with rfl | rfl | rfl | rfl | rfl | rfl | rfl | rfl | rfl | rfl | rfl | rfl | rfl | rfl | rfl | rfl | rfl | rfl | rfl | rfl | rfl | rfl | rfl | rfl | rfl
    · cases _e
    · cases _e
    · cases _e
    · cases _e
    · cases _e
    · cases _e
    · cases _e
    · cases _e
    · cases _e
    · cases _e
    · cases _e
    · cases _e
    · cases _e
    · cases _e
    · cases _e
    · cases _e
    · cases _e
    · cases _e
    · cases _e
    · cases _e
    · cases _e
    · cases _e
    · cases _e
    · cases _e
    · exact ⟨pin_laid_unicode_utf8_first, by kernel_rfl⟩) fits1
theorem messageTopicsUpto_row_tie : Rows.messageTopicsUptoRow.laidByTextAt .later Tryz.pinned [.data, .data, .data, .data, .handle, .sentinel, .sentinel, .sentinel, .sentinel, .sentinel, .sentinel, .sentinel, .sentinel, .sentinel, .sentinel, .sentinel, .sentinel, .sentinel, .sentinel, .sentinel, .sentinel, .sentinel, .sentinel, .data, .pinned] true :=
  OpenClaim.laidByTextAt_pinned rfl rfl tie rfl rfl rfl rfl (fun y hy _e => by
    simp only [Rows.messageTopicsUptoRow, List.zip_cons_cons, List.zip_nil_right, List.mem_cons, List.mem_nil_iff, or_false] at hy
    rcases hy with rfl | rfl | rfl | rfl | rfl | rfl | rfl | rfl | rfl | rfl | rfl | rfl | rfl | rfl | rfl | rfl | rfl | rfl | rfl | rfl | rfl | rfl | rfl | rfl | rfl
    · cases _e
    · cases _e
    · cases _e
    · cases _e
    · cases _e
    · cases _e
    · cases _e
    · cases _e
    · cases _e
    · cases _e
    · cases _e
    · cases _e
    · cases _e
    · cases _e
    · cases _e
    · cases _e
    · cases _e
    · cases _e
    · cases _e
    · cases _e
    · cases _e
    · cases _e
    · cases _e
    · cases _e
    · exact ⟨pin_laid_unicode_utf8_first, by kernel_rfl⟩) fits1
end Go.Proofs.YtggplgmjonnliaaGreatDoor
