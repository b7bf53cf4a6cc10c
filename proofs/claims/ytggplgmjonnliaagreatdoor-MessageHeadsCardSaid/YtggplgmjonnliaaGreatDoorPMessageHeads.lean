/- The statement 'MessageHeads' proved: for every input the Go text returns true and leaves its arguments as they were; the package-level variables that it reads hold what the program's text lays. The frame is written by our own tool round the walk 'messageHeads_walk'. -/
import Derived.Test.YtggplgmjonnliaaGreatDoorMwh
import Derived.Test.YtggplgmjonnliaaGreatDoorFrame
import Derived.Test.YtggplgmjonnliaaGreatDoorOpen
import Derived.LaidHandle
import Derived.LaidLaws
import Derived.Test.YtggplgmjonnliaaGreatDoorTie
import Derived.Test.YtggplgmjonnliaaGreatDoorCards
import Derived.SevenTiedAt
import Derived.LaidOnce
import Derived.LaidByTextLater
namespace Go.Proofs.YtggplgmjonnliaaGreatDoor.pMessageHeads
open Go.ChangeShapes Go.WideShapes Go.ChangeAt Go.RowKit
open Go.ChangeMaps (open_string shut_string)
set_option linter.unusedVariables false

noncomputable def laidWorld (os : Os) : World :=
  let w0 := World.holding Tryz.prog os ⟨#[.cells #[.string ⟨#[118, 97, 108, 117, 101, 32, 111, 117, 116, 32, 111, 102, 32, 114, 97, 110, 103, 101]⟩] 226, .cells #[.string ⟨#[105, 110, 118, 97, 108, 105, 100, 32, 115, 121, 110, 116, 97, 120]⟩] 226, .cells #[.string ⟨#[105, 116, 32, 101, 110, 100, 115, 32, 116, 111, 111, 32, 101, 97, 114, 108, 121]⟩] 226, .cells #[.string ⟨#[110, 111, 116, 32, 97, 115, 32, 105, 116, 32, 104, 97, 115, 32, 116, 111, 32, 98, 101]⟩] 226, .cells #[.string ⟨#[97, 32, 115, 117, 109, 32, 116, 104, 97, 116, 32, 100, 111, 101, 115, 32, 110, 111, 116, 32, 102, 105, 116]⟩] 226, .cells #[.string ⟨#[116, 111, 111, 32, 109, 97, 110, 121, 44, 32, 111, 114, 32, 116, 111, 111, 32, 102, 101, 119]⟩] 226, .cells #[.string ⟨#[116, 111, 111, 32, 108, 111, 110, 103]⟩] 226, .cells #[.string ⟨#[97, 32, 110, 97, 109, 101, 32, 116, 104, 97, 116, 32, 99, 97, 110, 39, 116, 32, 98, 101]⟩] 226, .cells #[.string ⟨#[97, 32, 110, 117, 109, 98, 101, 114, 32, 111, 117, 116, 32, 111, 102, 32, 105, 116, 115, 32, 114, 97, 110, 103, 101]⟩] 226, .cells #[.string ⟨#[116, 104, 101, 114, 101, 32, 105, 115, 32, 110, 111, 110, 101]⟩] 226, .cells #[.string ⟨#[111, 110, 101, 32, 116, 104, 105, 110, 103, 32, 116, 119, 105, 99, 101]⟩] 226, .cells #[.string ⟨#[111, 102, 32, 97, 110, 111, 116, 104, 101, 114, 32, 116, 121, 112, 101]⟩] 226, .cells #[.string ⟨#[110, 111, 116, 32, 97, 110, 32, 101, 120, 112, 114, 101, 115, 115, 105, 111, 110]⟩] 226, .cells #[.string ⟨#[116, 111, 111, 32, 100, 101, 101, 112]⟩] 226, .cells #[.string ⟨#[97, 32, 100, 105, 118, 105, 115, 105, 111, 110, 32, 98, 121, 32, 110, 111, 116, 104, 105, 110, 103]⟩] 226, .cells #[.string ⟨#[116, 104, 101, 114, 101, 32, 105, 115, 32, 110, 111, 32, 114, 111, 111, 109]⟩] 226, .cells #[.string ⟨#[116, 104, 101, 32, 112, 111, 119, 101, 114, 32, 105, 115, 32, 103, 111, 110, 101]⟩] 226, .cells #[.string ⟨#[110, 111, 32, 119, 97, 121, 32, 103, 111, 101, 115, 32, 111, 110]⟩] 226], #[], []⟩
  { w0 with heap := (((((((((((((((((((((((((w0.heap.modify 24 (fun | .cells _ t fr => .cells #[.int .u8 0, .int .u8 1, .int .u8 28, .int .u8 2, .int .u8 29, .int .u8 14, .int .u8 24, .int .u8 3, .int .u8 30, .int .u8 22, .int .u8 20, .int .u8 15, .int .u8 25, .int .u8 17, .int .u8 4, .int .u8 8, .int .u8 31, .int .u8 27, .int .u8 13, .int .u8 23, .int .u8 21, .int .u8 19, .int .u8 16, .int .u8 7, .int .u8 26, .int .u8 12, .int .u8 18, .int .u8 6, .int .u8 11, .int .u8 5, .int .u8 10, .int .u8 9] t fr | o => o)).modify 25 (fun | .cells _ t fr => .cells #[.int .u8 0, .int .u8 1, .int .u8 56, .int .u8 2, .int .u8 57, .int .u8 49, .int .u8 28, .int .u8 3, .int .u8 61, .int .u8 58, .int .u8 42, .int .u8 50, .int .u8 38, .int .u8 29, .int .u8 17, .int .u8 4, .int .u8 62, .int .u8 47, .int .u8 59, .int .u8 36, .int .u8 45, .int .u8 43, .int .u8 51, .int .u8 22, .int .u8 53, .int .u8 39, .int .u8 33, .int .u8 30, .int .u8 24, .int .u8 18, .int .u8 12, .int .u8 5, .int .u8 63, .int .u8 55, .int .u8 48, .int .u8 27, .int .u8 60, .int .u8 41, .int .u8 37, .int .u8 16, .int .u8 46, .int .u8 35, .int .u8 44, .int .u8 21, .int .u8 52, .int .u8 32, .int .u8 23, .int .u8 11, .int .u8 54, .int .u8 26, .int .u8 40, .int .u8 15, .int .u8 34, .int .u8 20, .int .u8 31, .int .u8 10, .int .u8 25, .int .u8 14, .int .u8 19, .int .u8 9, .int .u8 13, .int .u8 8, .int .u8 7, .int .u8 6] t fr | o => o)).modify 23 (fun | .cells _ t fr => .cells #[.int .u64 1, .int .u64 10, .int .u64 100, .int .u64 1000, .int .u64 10000, .int .u64 100000, .int .u64 1000000, .int .u64 10000000, .int .u64 100000000, .int .u64 1000000000, .int .u64 10000000000, .int .u64 100000000000, .int .u64 1000000000000, .int .u64 10000000000000, .int .u64 100000000000000, .int .u64 1000000000000000, .int .u64 10000000000000000, .int .u64 100000000000000000, .int .u64 1000000000000000000, .int .u64 10000000000000000000] t fr | o => o)).modify 20 (fun | .cells _ t fr => .cells #[.int .u8 128, .int .u8 191, .int .u8 160, .int .u8 191, .int .u8 128, .int .u8 159, .int .u8 144, .int .u8 191, .int .u8 128, .int .u8 143, .int .u8 0, .int .u8 0, .int .u8 0, .int .u8 0, .int .u8 0, .int .u8 0, .int .u8 0, .int .u8 0, .int .u8 0, .int .u8 0, .int .u8 0, .int .u8 0, .int .u8 0, .int .u8 0, .int .u8 0, .int .u8 0, .int .u8 0, .int .u8 0, .int .u8 0, .int .u8 0, .int .u8 0, .int .u8 0] t fr | o => o)).modify 16 (fun | .cells _ t fr => .cells #[.iface 173 (.agg #[.pointer (some ⟨26, 36, none⟩)])] t fr | o => o)).modify 22 (fun | .cells _ t fr => .cells #[.iface 224 (.pointer (some ⟨low + 0, 0, none⟩))] t fr | o => o)).modify 21 (fun | .cells _ t fr => .cells #[.iface 224 (.pointer (some ⟨low + 1, 0, none⟩))] t fr | o => o)).modify 4 (fun | .cells _ t fr => .cells #[.iface 224 (.pointer (some ⟨low + 2, 0, none⟩))] t fr | o => o)).modify 1 (fun | .cells _ t fr => .cells #[.iface 224 (.pointer (some ⟨low + 3, 0, none⟩))] t fr | o => o)).modify 9 (fun | .cells _ t fr => .cells #[.iface 224 (.pointer (some ⟨low + 4, 0, none⟩))] t fr | o => o)).modify 5 (fun | .cells _ t fr => .cells #[.iface 224 (.pointer (some ⟨low + 5, 0, none⟩))] t fr | o => o)).modify 0 (fun | .cells _ t fr => .cells #[.iface 224 (.pointer (some ⟨low + 6, 0, none⟩))] t fr | o => o)).modify 2 (fun | .cells _ t fr => .cells #[.iface 224 (.pointer (some ⟨low + 7, 0, none⟩))] t fr | o => o)).modify 3 (fun | .cells _ t fr => .cells #[.iface 224 (.pointer (some ⟨low + 8, 0, none⟩))] t fr | o => o)).modify 10 (fun | .cells _ t fr => .cells #[.iface 224 (.pointer (some ⟨low + 9, 0, none⟩))] t fr | o => o)).modify 6 (fun | .cells _ t fr => .cells #[.iface 224 (.pointer (some ⟨low + 10, 0, none⟩))] t fr | o => o)).modify 8 (fun | .cells _ t fr => .cells #[.iface 224 (.pointer (some ⟨low + 11, 0, none⟩))] t fr | o => o)).modify 7 (fun | .cells _ t fr => .cells #[.iface 224 (.pointer (some ⟨low + 12, 0, none⟩))] t fr | o => o)).modify 11 (fun | .cells _ t fr => .cells #[.iface 224 (.pointer (some ⟨low + 13, 0, none⟩))] t fr | o => o)).modify 12 (fun | .cells _ t fr => .cells #[.iface 224 (.pointer (some ⟨low + 14, 0, none⟩))] t fr | o => o)).modify 13 (fun | .cells _ t fr => .cells #[.iface 224 (.pointer (some ⟨low + 15, 0, none⟩))] t fr | o => o)).modify 14 (fun | .cells _ t fr => .cells #[.iface 224 (.pointer (some ⟨low + 16, 0, none⟩))] t fr | o => o)).modify 15 (fun | .cells _ t fr => .cells #[.iface 224 (.pointer (some ⟨low + 17, 0, none⟩))] t fr | o => o)).modify 17 (fun | .cells _ t fr => .cells #[.string ⟨#[]⟩, .string ⟨#[]⟩, .string ⟨#[]⟩, .string ⟨#[111, 114]⟩, .string ⟨#[97, 110, 100]⟩, .string ⟨#[110, 111, 116]⟩, .string ⟨#[61, 61]⟩, .string ⟨#[33, 61]⟩, .string ⟨#[60]⟩, .string ⟨#[60, 61]⟩, .string ⟨#[62]⟩, .string ⟨#[62, 61]⟩, .string ⟨#[43]⟩, .string ⟨#[45]⟩, .string ⟨#[42]⟩, .string ⟨#[47]⟩, .string ⟨#[37]⟩, .string ⟨#[45]⟩] t fr | o => o)).modify 19 (fun | .cells _ t fr => .cells (Go.Pinned.utf8FirstZ.map fun (z : Nat) => Value.int .u8 (z : Int)).toArray t fr | o => o)) }
theorem laid_met (os : Os) (args : Array Value) : laidMetH Tryz.prog Rows.messageHeadsRow.laid ((laidWorld os).forCall (fun _ _ => 0) ⟨#[], args, []⟩).memory :=
  laidMetH_of_parts (laidMet_of_run' 8 (by kernel_rfl) (by kernel_rfl)) (by kernel_rfl)

theorem split {W : World} (h : laidMetH Tryz.prog Rows.messageHeadsRow.laid W) : laidMet Tryz.prog [("math/bits.deBruijn32tab", Rows.laid_math_bits_deBruijn32tab), ("math/bits.deBruijn64tab", Rows.laid_math_bits_deBruijn64tab), ("internal/strconv.uint64pow10", Rows.laid_internal_strconv_uint64pow10), ("unicode/utf8.acceptRanges", Rows.laid_unicode_utf8_acceptRanges), ("strconv.ErrRange", Rows.laid_strconv_ErrRange), ("strconv.ErrSyntax", Rows.laid_strconv_ErrSyntax), ("leasehold/api.ErrEnd", Rows.laid_leasehold_api_ErrEnd), ("leasehold/api.ErrShape", Rows.laid_leasehold_api_ErrShape), ("leasehold/api.ErrSum", Rows.laid_leasehold_api_ErrSum), ("leasehold/api.ErrMany", Rows.laid_leasehold_api_ErrMany), ("leasehold/api.ErrLong", Rows.laid_leasehold_api_ErrLong), ("leasehold/api.ErrName", Rows.laid_leasehold_api_ErrName), ("leasehold/api.ErrRange", Rows.laid_leasehold_api_ErrRange), ("leasehold/api.ErrNone", Rows.laid_leasehold_api_ErrNone), ("leasehold/api.ErrTwice", Rows.laid_leasehold_api_ErrTwice), ("leasehold/api.ErrType", Rows.laid_leasehold_api_ErrType), ("leasehold/api.ErrSyntax", Rows.laid_leasehold_api_ErrSyntax), ("leasehold/api.ErrDeep", Rows.laid_leasehold_api_ErrDeep), ("leasehold/api.ErrZero", Rows.laid_leasehold_api_ErrZero), ("leasehold/api.ErrFull", Rows.laid_leasehold_api_ErrFull), ("leasehold/api.ErrDead", Rows.laid_leasehold_api_ErrDead), ("leasehold/api.ErrStuck", Rows.laid_leasehold_api_ErrStuck), ("leasehold/cond.words", Rows.laid_leasehold_cond_words), ("unicode/utf8.first", Rows.laid_unicode_utf8_first)] W ∧ handlesMet Tryz.prog [("errors.errorType", Rows.laid_errors_errorType)] W := by
  have h1 : (Rows.messageHeadsRow.laid.filter fun x => x.2.handleName?.isSome) = [("errors.errorType", Rows.laid_errors_errorType)] := by kernel_rfl
  have h2 : (Rows.messageHeadsRow.laid.filter fun x => x.2.handleName?.isNone) = [("math/bits.deBruijn32tab", Rows.laid_math_bits_deBruijn32tab), ("math/bits.deBruijn64tab", Rows.laid_math_bits_deBruijn64tab), ("internal/strconv.uint64pow10", Rows.laid_internal_strconv_uint64pow10), ("unicode/utf8.acceptRanges", Rows.laid_unicode_utf8_acceptRanges), ("strconv.ErrRange", Rows.laid_strconv_ErrRange), ("strconv.ErrSyntax", Rows.laid_strconv_ErrSyntax), ("leasehold/api.ErrEnd", Rows.laid_leasehold_api_ErrEnd), ("leasehold/api.ErrShape", Rows.laid_leasehold_api_ErrShape), ("leasehold/api.ErrSum", Rows.laid_leasehold_api_ErrSum), ("leasehold/api.ErrMany", Rows.laid_leasehold_api_ErrMany), ("leasehold/api.ErrLong", Rows.laid_leasehold_api_ErrLong), ("leasehold/api.ErrName", Rows.laid_leasehold_api_ErrName), ("leasehold/api.ErrRange", Rows.laid_leasehold_api_ErrRange), ("leasehold/api.ErrNone", Rows.laid_leasehold_api_ErrNone), ("leasehold/api.ErrTwice", Rows.laid_leasehold_api_ErrTwice), ("leasehold/api.ErrType", Rows.laid_leasehold_api_ErrType), ("leasehold/api.ErrSyntax", Rows.laid_leasehold_api_ErrSyntax), ("leasehold/api.ErrDeep", Rows.laid_leasehold_api_ErrDeep), ("leasehold/api.ErrZero", Rows.laid_leasehold_api_ErrZero), ("leasehold/api.ErrFull", Rows.laid_leasehold_api_ErrFull), ("leasehold/api.ErrDead", Rows.laid_leasehold_api_ErrDead), ("leasehold/api.ErrStuck", Rows.laid_leasehold_api_ErrStuck), ("leasehold/cond.words", Rows.laid_leasehold_cond_words), ("unicode/utf8.first", Rows.laid_unicode_utf8_first)] := by kernel_rfl
  unfold laidMetH at h
  rw [h1, h2] at h
  exact h
theorem oneRow : ((List.range 267).filter fun t => Tryz.prog.rowNamed t [101, 114, 114, 111, 114]) = [36] := by kernel_rfl
theorem sizeT : Tryz.prog.types.size = 267 := by kernel_rfl
theorem handle {W : World} (h : handlesMet Tryz.prog [("errors.errorType", Rows.laid_errors_errorType)] W) : ErrTy W := by
  obtain ⟨name, u, ty, e1, e2, e3, e4, e5⟩ := h _ (List.mem_singleton.2 rfl)
  have en : name = [101, 114, 114, 111, 114] := (Option.some.inj e1).symm
  subst en
  have rt : (Tryz.prog.cutTypes.find? (·.1 == "internal/reflectlite.rtype")).map (·.2) = some 173 := by kernel_rfl
  have et : Tryz.prog.globalNamed "errors.errorType" = some 16 := by kernel_rfl
  obtain rfl := Option.some.inj (rt.symm.trans e2)
  have hm : ty ∈ (List.range 267).filter fun t => Tryz.prog.rowNamed t [101, 114, 114, 111, 114] := List.mem_filter.2 ⟨List.mem_range.2 (by rw [← sizeT]; exact e3), e4⟩
  rw [oneRow] at hm
  obtain rfl := List.mem_singleton.1 hm
  have hh : typeHandle Tryz.prog 36 = .pointer (some ⟨26, 36, none⟩) := by kernel_rfl
  rw [hh] at e5
  simpa [ErrTy] using World.var?_cell et e5 0

set_option maxRecDepth 100000 in
theorem lifted (os : Os) (started : os.Started) (H : Type) (enc : TypeId × Value → H) :
    ReturnsInHanded {} Tryz.checked os 3 .any (fun w args => (Rows.messageHeadsSpec.pre enc Tryz.prog Tryz.f3 [] false w args ∧ laidMetH Tryz.prog Rows.messageHeadsRow.laid w) ∧ sizedMet enc Tryz.prog Tryz.f3 (OpenSpec.ofChange Rows.messageHeadsSpec) false w args)
      (Rows.messageHeadsSpec.post enc Tryz.prog Tryz.f3 false true false false) := by
  refine returnsInHanded_of_change_and (C := Tryz.checked) (X := fun w _ => laidMetH Tryz.prog Rows.messageHeadsRow.laid w) (fun _ _ _ hh h => h.of_heap hh) own started (by kernel_rfl) Tryz.func3
    (ChangeSpec.witness_at (enc := enc) (C := Tryz.checked) (os := os) (X := fun w _ => laidMetH Tryz.prog Rows.messageHeadsRow.laid w) false (laidWorld os) #[.int .i64 0, .int .i64 0, .int .i64 0, .int .i64 0] 8 rfl (by kernel_rfl) (by kernel_rfl) (by kernel_rfl) (by kernel_rfl) (by kernel_rfl) (laid_met os _)) ?_
  intro W base args ds gs before hval0 hW hcnd hreach hL _
  have hval : ∀ (j : Nat) t v, Tryz.f3.params[j]? = some t → args[j]? = some v → Value.okWide Tryz.prog W .any base t v := hval0
  have hW' := hW
  obtain ⟨p, q, hA0, hV, rfl, hfz, hnd⟩ := hW
  have hA : DataW.TrodAll enc Tryz.prog W 0 (fun _ => true) true Tryz.f3.params.toList args.toList ds p := hA0
  rw [Tryz.params3] at hA hval
  obtain ⟨v0, vs0, d0, ds0, p0, q0, hargs, rfl, rfl, h0, r0⟩ := trodAll_cons hA
  obtain ⟨v1, vs1, d1, ds1, p1, q1, rfl, rfl, rfl, h1, r1⟩ := trodAll_cons r0
  obtain ⟨v2, vs2, d2, ds2, p2, q2, rfl, rfl, rfl, h2, r2⟩ := trodAll_cons r1
  obtain ⟨v3, vs3, d3, ds3, p3, q3, rfl, rfl, rfl, h3, r3⟩ := trodAll_cons r2
  obtain ⟨rfl, rfl, rfl⟩ := trodAll_nil r3
  obtain rfl : args = #[v0, v1, v2, v3] := by cases args; simp_all
  obtain ⟨rfl, rfl⟩ := trodVars_none hV
  obtain ⟨a0, rfl, rfl, rfl, w0⟩ := open_int Tryz.underlying3 (hval 0 3 v0 rfl rfl) h0
  have b0 := wf_i64 w0
  obtain ⟨a1, rfl, rfl, rfl, w1⟩ := open_int Tryz.underlying3 (hval 1 3 v1 rfl rfl) h1
  have b1 := wf_i64 w1
  obtain ⟨a2, rfl, rfl, rfl, w2⟩ := open_int Tryz.underlying3 (hval 2 3 v2 rfl rfl) h2
  have b2 := wf_i64 w2
  obtain ⟨a3, rfl, rfl, rfl, w3⟩ := open_int Tryz.underlying3 (hval 3 3 v3 rfl rfl) h3
  have b3 := wf_i64 w3
  have hH := handle (split hL).2
  have hL := (split hL).1
  have hL := hL.tail.tail.tail.tail.tail.tail
  obtain ⟨ads, hE⟩ := errs_of_laid errTypes (rest := [("leasehold/cond.words", Rows.laid_leasehold_cond_words), ("unicode/utf8.first", Rows.laid_unicode_utf8_first)]) [("leasehold/api.ErrEnd", [105, 116, 32, 101, 110, 100, 115, 32, 116, 111, 111, 32, 101, 97, 114, 108, 121]), ("leasehold/api.ErrShape", [110, 111, 116, 32, 97, 115, 32, 105, 116, 32, 104, 97, 115, 32, 116, 111, 32, 98, 101]), ("leasehold/api.ErrSum", [97, 32, 115, 117, 109, 32, 116, 104, 97, 116, 32, 100, 111, 101, 115, 32, 110, 111, 116, 32, 102, 105, 116]), ("leasehold/api.ErrMany", [116, 111, 111, 32, 109, 97, 110, 121, 44, 32, 111, 114, 32, 116, 111, 111, 32, 102, 101, 119]), ("leasehold/api.ErrLong", [116, 111, 111, 32, 108, 111, 110, 103]), ("leasehold/api.ErrName", [97, 32, 110, 97, 109, 101, 32, 116, 104, 97, 116, 32, 99, 97, 110, 39, 116, 32, 98, 101]), ("leasehold/api.ErrRange", [97, 32, 110, 117, 109, 98, 101, 114, 32, 111, 117, 116, 32, 111, 102, 32, 105, 116, 115, 32, 114, 97, 110, 103, 101]), ("leasehold/api.ErrNone", [116, 104, 101, 114, 101, 32, 105, 115, 32, 110, 111, 110, 101]), ("leasehold/api.ErrTwice", [111, 110, 101, 32, 116, 104, 105, 110, 103, 32, 116, 119, 105, 99, 101]), ("leasehold/api.ErrType", [111, 102, 32, 97, 110, 111, 116, 104, 101, 114, 32, 116, 121, 112, 101]), ("leasehold/api.ErrSyntax", [110, 111, 116, 32, 97, 110, 32, 101, 120, 112, 114, 101, 115, 115, 105, 111, 110]), ("leasehold/api.ErrDeep", [116, 111, 111, 32, 100, 101, 101, 112]), ("leasehold/api.ErrZero", [97, 32, 100, 105, 118, 105, 115, 105, 111, 110, 32, 98, 121, 32, 110, 111, 116, 104, 105, 110, 103]), ("leasehold/api.ErrFull", [116, 104, 101, 114, 101, 32, 105, 115, 32, 110, 111, 32, 114, 111, 111, 109]), ("leasehold/api.ErrDead", [116, 104, 101, 32, 112, 111, 119, 101, 114, 32, 105, 115, 32, 103, 111, 110, 101]), ("leasehold/api.ErrStuck", [110, 111, 32, 119, 97, 121, 32, 103, 111, 101, 115, 32, 111, 110])] [4, 1, 9, 5, 0, 2, 3, 10, 6, 8, 7, 11, 12, 13, 14, 15] rfl (by kernel_rfl) hL
  clear hA0 hval0
  refine (messageHeads_walk a0 a1 a2 a3 ads W b0.1 b0.2 b1.1 b1.2 b2.1 b2.2 b3.1 b3.2 hE hH).mono fun e W' ⟨he, bel⟩ => ?_
  subst he
  exact ⟨_, rfl, _, _, _, [], _, [], hW', trodAll_mk1 (shut_bool Tryz.underlying4 _), (trodAll_cons_mk (shut_int Tryz.underlying3 w0) (trodAll_cons_mk (shut_int Tryz.underlying3 w1) (trodAll_cons_mk (shut_int Tryz.underlying3 w2) (trodAll_cons_mk (shut_int Tryz.underlying3 w3) trodAll_mk0)))), rfl, bel.frame _, fun h => by cases h⟩

theorem over : Rows.messageHeadsRow.holds Tryz.pinned (OpenSpec.ofChange Rows.messageHeadsSpec) :=
  OpenClaim.holds_of_wide 3 Tryz.f3 rfl rfl rfl rfl rfl rfl rfl ⟨rfl, rfl, rfl, rfl, rfl⟩ rfl rfl rfl rfl rfl (by kernel_rfl) Tryz.func3 (by kernel_rfl)
    (of_decide_eq_true (by kernel_rfl)) (by unfold Func.isWrapper; first | (rw [if_pos (by decide +kernel)]; kernel_rfl) | (rw [if_neg (by decide +kernel)]; exact ⟨rfl, rfl⟩))
    (fun os started H enc _ => lifted os started H enc)

theorem params_look : ∀ (j : Nat) t, Tryz.f3.params[j]? = some t → Tryz.prog.wantsStandIn t = false := by
  intro j t ht
  rw [Tryz.params3] at ht
  have hm : t ∈ [3, 3, 3, 3] := by
    have := List.mem_of_getElem? (show [3, 3, 3, 3][j]? = some t by simpa using ht)
    exact this
  have hall : ([3, 3, 3, 3].all fun t => !Tryz.prog.wantsStandIn t) = true := by kernel_rfl
  have := List.all_eq_true.1 hall t hm
  simpa using this

/-- THE STATEMENT. -/
theorem proved : Rows.MessageHeadsCardSaid :=
  Claim7.holds_tied_plain_at .later [] [.data, .data, .data, .data, .handle, .sentinel, .sentinel, .sentinel, .sentinel, .sentinel, .sentinel, .sentinel, .sentinel, .sentinel, .sentinel, .sentinel, .sentinel, .sentinel, .sentinel, .sentinel, .sentinel, .sentinel, .sentinel, .data, .pinned] true (true, "ccd29f04bf81f56f4b385f7a1ead18145e52ba07450f86f04bff3c233b89fac7") true
    over (fun _ h => by cases h) (by kernel_rfl) (fun _ h => by cases h) messageHeads_row_tie rfl ⟨rfl, rfl⟩ (by kernel_rfl) rfl
    (fun f fn hf hfn => by
      obtain rfl : f = 3 := Option.some.inj ((show Tryz.prog.funcNamed "leasehold/leaseholdlaw13.MessageHeads" = some 3 by kernel_rfl).symm.trans hf) |>.symm
      obtain rfl : fn = Tryz.f3 := (Option.some.inj (Tryz.func3.symm.trans hfn)).symm
      exact ⟨by kernel_rfl, params_look⟩)
    (by kernel_rfl)
#print axioms proved
end Go.Proofs.YtggplgmjonnliaaGreatDoor.pMessageHeads
