/- The statement 'FrameBack' proved: for every input the Go text returns true and leaves its arguments as they were; the package-level variables that it reads hold what the program's text lays. The frame is written by our own tool round the walk 'frameBack_walk'. -/
import Derived.Test.YtcgcacnlafdggaaDoorFx
import Derived.Test.YtcgcacnlafdggaaDoorFrame
import Derived.Test.YtcgcacnlafdggaaDoorOpen
import Derived.Test.YtcgcacnlafdggaaDoorTie
import Derived.Test.YtcgcacnlafdggaaDoorCards
import Derived.SevenTiedAt
import Derived.LaidOnce
import Derived.LaidByTextLater
namespace Go.Proofs.YtcgcacnlafdggaaDoor.pFrameBack
open Go.ChangeShapes Go.WideShapes Go.ChangeAt Go.RowKit
open Go.ChangeMaps (open_string shut_string)
set_option linter.unusedVariables false

noncomputable def laidWorld (os : Os) : World :=
  let w0 := World.holding Tryd.prog os ⟨#[.cells #[.string ⟨#[105, 116, 32, 101, 110, 100, 115, 32, 116, 111, 111, 32, 101, 97, 114, 108, 121]⟩] 93, .cells #[.string ⟨#[110, 111, 116, 32, 97, 115, 32, 105, 116, 32, 104, 97, 115, 32, 116, 111, 32, 98, 101]⟩] 93, .cells #[.string ⟨#[97, 32, 115, 117, 109, 32, 116, 104, 97, 116, 32, 100, 111, 101, 115, 32, 110, 111, 116, 32, 102, 105, 116]⟩] 93, .cells #[.string ⟨#[116, 111, 111, 32, 109, 97, 110, 121, 44, 32, 111, 114, 32, 116, 111, 111, 32, 102, 101, 119]⟩] 93, .cells #[.string ⟨#[116, 111, 111, 32, 108, 111, 110, 103]⟩] 93, .cells #[.string ⟨#[97, 32, 110, 97, 109, 101, 32, 116, 104, 97, 116, 32, 99, 97, 110, 39, 116, 32, 98, 101]⟩] 93, .cells #[.string ⟨#[97, 32, 110, 117, 109, 98, 101, 114, 32, 111, 117, 116, 32, 111, 102, 32, 105, 116, 115, 32, 114, 97, 110, 103, 101]⟩] 93, .cells #[.string ⟨#[116, 104, 101, 114, 101, 32, 105, 115, 32, 110, 111, 110, 101]⟩] 93, .cells #[.string ⟨#[111, 110, 101, 32, 116, 104, 105, 110, 103, 32, 116, 119, 105, 99, 101]⟩] 93, .cells #[.string ⟨#[111, 102, 32, 97, 110, 111, 116, 104, 101, 114, 32, 116, 121, 112, 101]⟩] 93, .cells #[.string ⟨#[110, 111, 116, 32, 97, 110, 32, 101, 120, 112, 114, 101, 115, 115, 105, 111, 110]⟩] 93, .cells #[.string ⟨#[116, 111, 111, 32, 100, 101, 101, 112]⟩] 93, .cells #[.string ⟨#[97, 32, 100, 105, 118, 105, 115, 105, 111, 110, 32, 98, 121, 32, 110, 111, 116, 104, 105, 110, 103]⟩] 93, .cells #[.string ⟨#[116, 104, 101, 114, 101, 32, 105, 115, 32, 110, 111, 32, 114, 111, 111, 109]⟩] 93, .cells #[.string ⟨#[116, 104, 101, 32, 112, 111, 119, 101, 114, 32, 105, 115, 32, 103, 111, 110, 101]⟩] 93, .cells #[.string ⟨#[110, 111, 32, 119, 97, 121, 32, 103, 111, 101, 115, 32, 111, 110]⟩] 93], #[], []⟩
  { w0 with heap := (((((((((((((((((w0.heap.modify 0 (fun | .cells _ t fr => .cells #[.iface 77 (.pointer (some ⟨low + 0, 0, none⟩))] t fr | o => o)).modify 3 (fun | .cells _ t fr => .cells #[.iface 77 (.pointer (some ⟨low + 1, 0, none⟩))] t fr | o => o)).modify 2 (fun | .cells _ t fr => .cells #[.iface 77 (.pointer (some ⟨low + 2, 0, none⟩))] t fr | o => o)).modify 5 (fun | .cells _ t fr => .cells #[.iface 77 (.pointer (some ⟨low + 3, 0, none⟩))] t fr | o => o)).modify 1 (fun | .cells _ t fr => .cells #[.iface 77 (.pointer (some ⟨low + 4, 0, none⟩))] t fr | o => o)).modify 6 (fun | .cells _ t fr => .cells #[.iface 77 (.pointer (some ⟨low + 5, 0, none⟩))] t fr | o => o)).modify 7 (fun | .cells _ t fr => .cells #[.iface 77 (.pointer (some ⟨low + 6, 0, none⟩))] t fr | o => o)).modify 8 (fun | .cells _ t fr => .cells #[.iface 77 (.pointer (some ⟨low + 7, 0, none⟩))] t fr | o => o)).modify 9 (fun | .cells _ t fr => .cells #[.iface 77 (.pointer (some ⟨low + 8, 0, none⟩))] t fr | o => o)).modify 10 (fun | .cells _ t fr => .cells #[.iface 77 (.pointer (some ⟨low + 9, 0, none⟩))] t fr | o => o)).modify 11 (fun | .cells _ t fr => .cells #[.iface 77 (.pointer (some ⟨low + 10, 0, none⟩))] t fr | o => o)).modify 12 (fun | .cells _ t fr => .cells #[.iface 77 (.pointer (some ⟨low + 11, 0, none⟩))] t fr | o => o)).modify 13 (fun | .cells _ t fr => .cells #[.iface 77 (.pointer (some ⟨low + 12, 0, none⟩))] t fr | o => o)).modify 14 (fun | .cells _ t fr => .cells #[.iface 77 (.pointer (some ⟨low + 13, 0, none⟩))] t fr | o => o)).modify 15 (fun | .cells _ t fr => .cells #[.iface 77 (.pointer (some ⟨low + 14, 0, none⟩))] t fr | o => o)).modify 16 (fun | .cells _ t fr => .cells #[.iface 77 (.pointer (some ⟨low + 15, 0, none⟩))] t fr | o => o)).modify 4 (fun | .cells _ t fr => .cells #[.int .u32 0, .int .u32 498536548, .int .u32 997073096, .int .u32 651767980, .int .u32 1994146192, .int .u32 1802195444, .int .u32 1303535960, .int .u32 1342533948, .int .u32 3988292384, .int .u32 4027552580, .int .u32 3604390888, .int .u32 3412177804, .int .u32 2607071920, .int .u32 2262029012, .int .u32 2685067896, .int .u32 3183342108] t fr | o => o)) }
theorem laid_met (os : Os) (args : Array Value) : laidMet Tryd.prog Rows.frameBackRow.laid ((laidWorld os).forCall (fun _ _ => 0) ⟨#[], args, []⟩).memory :=
  laidMet_of_run' 8 (by kernel_rfl) (by kernel_rfl)

set_option maxRecDepth 100000 in
theorem lifted (os : Os) (started : os.Started) (H : Type) (enc : TypeId × Value → H) :
    ReturnsInHanded {} Tryd.checked os 4 .any (fun w args => (Rows.frameBackSpec.pre enc Tryd.prog Tryd.f4 [] false w args ∧ laidMet Tryd.prog Rows.frameBackRow.laid w) ∧ sizedMet enc Tryd.prog Tryd.f4 (OpenSpec.ofChange Rows.frameBackSpec) false w args)
      (Rows.frameBackSpec.post enc Tryd.prog Tryd.f4 false true false false) := by
  refine returnsInHanded_of_change_and (C := Tryd.checked) (X := fun w _ => laidMet Tryd.prog Rows.frameBackRow.laid w) (fun _ _ _ hh h => h.of_heap hh) own started (by kernel_rfl) Tryd.func4
    (ChangeSpec.witness_at (enc := enc) (C := Tryd.checked) (os := os) (X := fun w _ => laidMet Tryd.prog Rows.frameBackRow.laid w) false (laidWorld os) #[.int .u8 0, .slice none 0 0, .slice none 0 0, .int .i64 0, .int .i64 0] 8 rfl (by kernel_rfl) (by kernel_rfl) (by kernel_rfl) (by kernel_rfl) (by kernel_rfl) (laid_met os _)) ?_
  intro W base args ds gs before hval0 hW hcnd hreach hL _
  have hval : ∀ (j : Nat) t v, Tryd.f4.params[j]? = some t → args[j]? = some v → Value.okWide Tryd.prog W .any base t v := hval0
  have hW' := hW
  obtain ⟨p, q, hA0, hV, rfl, hfz, hnd⟩ := hW
  have hA : DataW.TrodAll enc Tryd.prog W 0 (fun _ => true) true Tryd.f4.params.toList args.toList ds p := hA0
  rw [Tryd.params4] at hA hval
  obtain ⟨v0, vs0, d0, ds0, p0, q0, hargs, rfl, rfl, h0, r0⟩ := trodAll_cons hA
  obtain ⟨v1, vs1, d1, ds1, p1, q1, rfl, rfl, rfl, h1, r1⟩ := trodAll_cons r0
  obtain ⟨v2, vs2, d2, ds2, p2, q2, rfl, rfl, rfl, h2, r2⟩ := trodAll_cons r1
  obtain ⟨v3, vs3, d3, ds3, p3, q3, rfl, rfl, rfl, h3, r3⟩ := trodAll_cons r2
  obtain ⟨v4, vs4, d4, ds4, p4, q4, rfl, rfl, rfl, h4, r4⟩ := trodAll_cons r3
  obtain ⟨rfl, rfl, rfl⟩ := trodAll_nil r4
  obtain rfl : args = #[v0, v1, v2, v3, v4] := by cases args; simp_all
  obtain ⟨rfl, rfl⟩ := trodVars_none hV
  obtain ⟨a0, rfl, rfl, rfl, w0⟩ := open_int Tryd.underlying5 (hval 0 5 v0 rfl rfl) h0
  obtain ⟨s0, rfl⟩ := wf_byte w0
  obtain ⟨a1, len1, cap1, rfl⟩ := okWide_slice Tryd.underlying25 (hval 1 25 v1 rfl rfl)
  have k1 := h1
  have lt1 : ∀ x ∈ p1, x.block < W.heap.size := by obtain ⟨m, hm⟩ := k1; exact DataW.trod_lt m _ _ _ hm
  obtain ⟨l1, w1⟩ := open_bytes Tryd.underlying25 Tryd.underlying5 (by kernel_rfl) h1
  obtain ⟨a2, len2, cap2, rfl⟩ := okWide_slice Tryd.underlying25 (hval 2 25 v2 rfl rfl)
  have k2 := h2
  have lt2 : ∀ x ∈ p2, x.block < W.heap.size := by obtain ⟨m, hm⟩ := k2; exact DataW.trod_lt m _ _ _ hm
  obtain ⟨l2, w2⟩ := open_bytes Tryd.underlying25 Tryd.underlying5 (by kernel_rfl) h2
  obtain ⟨a3, rfl, rfl, rfl, w3⟩ := open_int Tryd.underlying3 (hval 3 3 v3 rfl rfl) h3
  have b3 := wf_i64 w3
  obtain ⟨a4, rfl, rfl, rfl, w4⟩ := open_int Tryd.underlying3 (hval 4 3 v4 rfl rfl) h4
  have b4 := wf_i64 w4
  obtain ⟨ads, hE⟩ := errs_of_laid errTypes (rest := [("leasehold/crc.steps", Rows.laid_leasehold_crc_steps)]) [("leasehold/api.ErrEnd", [105, 116, 32, 101, 110, 100, 115, 32, 116, 111, 111, 32, 101, 97, 114, 108, 121]), ("leasehold/api.ErrShape", [110, 111, 116, 32, 97, 115, 32, 105, 116, 32, 104, 97, 115, 32, 116, 111, 32, 98, 101]), ("leasehold/api.ErrSum", [97, 32, 115, 117, 109, 32, 116, 104, 97, 116, 32, 100, 111, 101, 115, 32, 110, 111, 116, 32, 102, 105, 116]), ("leasehold/api.ErrMany", [116, 111, 111, 32, 109, 97, 110, 121, 44, 32, 111, 114, 32, 116, 111, 111, 32, 102, 101, 119]), ("leasehold/api.ErrLong", [116, 111, 111, 32, 108, 111, 110, 103]), ("leasehold/api.ErrName", [97, 32, 110, 97, 109, 101, 32, 116, 104, 97, 116, 32, 99, 97, 110, 39, 116, 32, 98, 101]), ("leasehold/api.ErrRange", [97, 32, 110, 117, 109, 98, 101, 114, 32, 111, 117, 116, 32, 111, 102, 32, 105, 116, 115, 32, 114, 97, 110, 103, 101]), ("leasehold/api.ErrNone", [116, 104, 101, 114, 101, 32, 105, 115, 32, 110, 111, 110, 101]), ("leasehold/api.ErrTwice", [111, 110, 101, 32, 116, 104, 105, 110, 103, 32, 116, 119, 105, 99, 101]), ("leasehold/api.ErrType", [111, 102, 32, 97, 110, 111, 116, 104, 101, 114, 32, 116, 121, 112, 101]), ("leasehold/api.ErrSyntax", [110, 111, 116, 32, 97, 110, 32, 101, 120, 112, 114, 101, 115, 115, 105, 111, 110]), ("leasehold/api.ErrDeep", [116, 111, 111, 32, 100, 101, 101, 112]), ("leasehold/api.ErrZero", [97, 32, 100, 105, 118, 105, 115, 105, 111, 110, 32, 98, 121, 32, 110, 111, 116, 104, 105, 110, 103]), ("leasehold/api.ErrFull", [116, 104, 101, 114, 101, 32, 105, 115, 32, 110, 111, 32, 114, 111, 111, 109]), ("leasehold/api.ErrDead", [116, 104, 101, 32, 112, 111, 119, 101, 114, 32, 105, 115, 32, 103, 111, 110, 101]), ("leasehold/api.ErrStuck", [110, 111, 32, 119, 97, 121, 32, 103, 111, 101, 115, 32, 111, 110])] [0, 3, 2, 5, 1, 6, 7, 8, 9, 10, 11, 12, 13, 14, 15, 16] rfl (by kernel_rfl) hL
  have hR0 := rest_of_laid ([("leasehold/api.ErrEnd", [105, 116, 32, 101, 110, 100, 115, 32, 116, 111, 111, 32, 101, 97, 114, 108, 121]), ("leasehold/api.ErrShape", [110, 111, 116, 32, 97, 115, 32, 105, 116, 32, 104, 97, 115, 32, 116, 111, 32, 98, 101]), ("leasehold/api.ErrSum", [97, 32, 115, 117, 109, 32, 116, 104, 97, 116, 32, 100, 111, 101, 115, 32, 110, 111, 116, 32, 102, 105, 116]), ("leasehold/api.ErrMany", [116, 111, 111, 32, 109, 97, 110, 121, 44, 32, 111, 114, 32, 116, 111, 111, 32, 102, 101, 119]), ("leasehold/api.ErrLong", [116, 111, 111, 32, 108, 111, 110, 103]), ("leasehold/api.ErrName", [97, 32, 110, 97, 109, 101, 32, 116, 104, 97, 116, 32, 99, 97, 110, 39, 116, 32, 98, 101]), ("leasehold/api.ErrRange", [97, 32, 110, 117, 109, 98, 101, 114, 32, 111, 117, 116, 32, 111, 102, 32, 105, 116, 115, 32, 114, 97, 110, 103, 101]), ("leasehold/api.ErrNone", [116, 104, 101, 114, 101, 32, 105, 115, 32, 110, 111, 110, 101]), ("leasehold/api.ErrTwice", [111, 110, 101, 32, 116, 104, 105, 110, 103, 32, 116, 119, 105, 99, 101]), ("leasehold/api.ErrType", [111, 102, 32, 97, 110, 111, 116, 104, 101, 114, 32, 116, 121, 112, 101]), ("leasehold/api.ErrSyntax", [110, 111, 116, 32, 97, 110, 32, 101, 120, 112, 114, 101, 115, 115, 105, 111, 110]), ("leasehold/api.ErrDeep", [116, 111, 111, 32, 100, 101, 101, 112]), ("leasehold/api.ErrZero", [97, 32, 100, 105, 118, 105, 115, 105, 111, 110, 32, 98, 121, 32, 110, 111, 116, 104, 105, 110, 103]), ("leasehold/api.ErrFull", [116, 104, 101, 114, 101, 32, 105, 115, 32, 110, 111, 32, 114, 111, 111, 109]), ("leasehold/api.ErrDead", [116, 104, 101, 32, 112, 111, 119, 101, 114, 32, 105, 115, 32, 103, 111, 110, 101]), ("leasehold/api.ErrStuck", [110, 111, 32, 119, 97, 121, 32, 103, 111, 101, 115, 32, 111, 110])].map fun x => (x.1, errD x.2)) (rest := [("leasehold/crc.steps", Rows.laid_leasehold_crc_steps)]) hL
  have t0 := tab_crc_steps hR0
  clear hA0 hval0
  refine (frameBack_walk s0 a1 len1 cap1 l1 a2 len2 cap2 l2 a3 a4 ads W w1 w2 b3.1 b3.2 b4.1 b4.2 hE t0).mono fun e W' ⟨he, bel⟩ => ?_
  subst he
  exact ⟨_, rfl, _, _, _, [], _, [], hW', trodAll_mk1 (shut_bool Tryd.underlying4 _), (trodAll_cons_mk (shut_int Tryd.underlying5 w0) (trodAll_cons_mk (Below.trod laidOut (by kernel_rfl) (of_decide_eq_true (by kernel_rfl)) k1 bel lt1) (trodAll_cons_mk (Below.trod laidOut (by kernel_rfl) (of_decide_eq_true (by kernel_rfl)) k2 bel lt2) (trodAll_cons_mk (shut_int Tryd.underlying3 w3) (trodAll_cons_mk (shut_int Tryd.underlying3 w4) trodAll_mk0))))), rfl, bel.frame _, fun h => by cases h⟩

theorem over : Rows.frameBackRow.holds Tryd.pinned (OpenSpec.ofChange Rows.frameBackSpec) :=
  OpenClaim.holds_of_wide 4 Tryd.f4 rfl rfl rfl rfl rfl rfl rfl ⟨rfl, rfl, rfl, rfl, rfl⟩ rfl rfl rfl rfl rfl (by kernel_rfl) Tryd.func4 (by kernel_rfl)
    (of_decide_eq_true (by kernel_rfl)) (by unfold Func.isWrapper; first | (rw [if_pos (by decide +kernel)]; kernel_rfl) | (rw [if_neg (by decide +kernel)]; exact ⟨rfl, rfl⟩))
    (fun os started H enc _ => lifted os started H enc)

theorem params_look : ∀ (j : Nat) t, Tryd.f4.params[j]? = some t → Tryd.prog.wantsStandIn t = false := by
  intro j t ht
  rw [Tryd.params4] at ht
  have hm : t ∈ [5, 25, 25, 3, 3] := by
    have := List.mem_of_getElem? (show [5, 25, 25, 3, 3][j]? = some t by simpa using ht)
    exact this
  have hall : ([5, 25, 25, 3, 3].all fun t => !Tryd.prog.wantsStandIn t) = true := by kernel_rfl
  have := List.all_eq_true.1 hall t hm
  simpa using this

/-- THE STATEMENT. -/
theorem proved : Rows.FrameBackCardSaid :=
  Claim7.holds_tied_plain_at .later [] [.sentinel, .sentinel, .sentinel, .sentinel, .sentinel, .sentinel, .sentinel, .sentinel, .sentinel, .sentinel, .sentinel, .sentinel, .sentinel, .sentinel, .sentinel, .sentinel, .data] true (true, "6c9786392d546a19f8a45ebb777b2ab6b6a48c9bd017d804006bbc9b50228756") true
    over (fun _ h => by cases h) (by kernel_rfl) (fun _ h => by cases h) frameBack_row_tie rfl ⟨rfl, rfl⟩ (by kernel_rfl) rfl
    (fun f fn hf hfn => by
      obtain rfl : f = 4 := Option.some.inj ((show Tryd.prog.funcNamed "leasehold/leaseholdlaw3.FrameBack" = some 4 by kernel_rfl).symm.trans hf) |>.symm
      obtain rfl : fn = Tryd.f4 := (Option.some.inj (Tryd.func4.symm.trans hfn)).symm
      exact ⟨by kernel_rfl, params_look⟩)
    (by kernel_rfl)
#print axioms proved
end Go.Proofs.YtcgcacnlafdggaaDoor.pFrameBack
