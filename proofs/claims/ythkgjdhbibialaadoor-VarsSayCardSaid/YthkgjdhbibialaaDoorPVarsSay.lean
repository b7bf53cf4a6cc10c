/- The statement 'VarsSay' proved: for every input the Go text returns true and leaves its arguments as they were; the package-level variables that it reads hold what the program's text lays. The frame is written by our own tool round the walk 'varsSay_walk'. -/
import Derived.Test.YthkgjdhbibialaaDoorSy
import Derived.Test.YthkgjdhbibialaaDoorFrame
import Derived.Test.YthkgjdhbibialaaDoorOpen
import Derived.Test.YthkgjdhbibialaaDoorOv
import Derived.Test.YthkgjdhbibialaaDoorTie
import Derived.Test.YthkgjdhbibialaaDoorCards
import Derived.SevenTiedAt
import Derived.LaidOnce
import Derived.LaidByTextLater
namespace Go.Proofs.YthkgjdhbibialaaDoor.pVarsSay
open Go.ChangeShapes Go.WideShapes Go.ChangeAt Go.RowKit
open Go.ChangeMaps (open_string shut_string)
set_option linter.unusedVariables false

noncomputable def laidWorld (os : Os) : World :=
  let w0 := World.holding Tryd.prog os ⟨#[.cells #[.string ⟨#[105, 116, 32, 101, 110, 100, 115, 32, 116, 111, 111, 32, 101, 97, 114, 108, 121]⟩] 121, .cells #[.string ⟨#[110, 111, 116, 32, 97, 115, 32, 105, 116, 32, 104, 97, 115, 32, 116, 111, 32, 98, 101]⟩] 121, .cells #[.string ⟨#[97, 32, 115, 117, 109, 32, 116, 104, 97, 116, 32, 100, 111, 101, 115, 32, 110, 111, 116, 32, 102, 105, 116]⟩] 121, .cells #[.string ⟨#[116, 111, 111, 32, 109, 97, 110, 121, 44, 32, 111, 114, 32, 116, 111, 111, 32, 102, 101, 119]⟩] 121, .cells #[.string ⟨#[116, 111, 111, 32, 108, 111, 110, 103]⟩] 121, .cells #[.string ⟨#[97, 32, 110, 97, 109, 101, 32, 116, 104, 97, 116, 32, 99, 97, 110, 39, 116, 32, 98, 101]⟩] 121, .cells #[.string ⟨#[97, 32, 110, 117, 109, 98, 101, 114, 32, 111, 117, 116, 32, 111, 102, 32, 105, 116, 115, 32, 114, 97, 110, 103, 101]⟩] 121, .cells #[.string ⟨#[116, 104, 101, 114, 101, 32, 105, 115, 32, 110, 111, 110, 101]⟩] 121, .cells #[.string ⟨#[111, 110, 101, 32, 116, 104, 105, 110, 103, 32, 116, 119, 105, 99, 101]⟩] 121, .cells #[.string ⟨#[111, 102, 32, 97, 110, 111, 116, 104, 101, 114, 32, 116, 121, 112, 101]⟩] 121, .cells #[.string ⟨#[110, 111, 116, 32, 97, 110, 32, 101, 120, 112, 114, 101, 115, 115, 105, 111, 110]⟩] 121, .cells #[.string ⟨#[116, 111, 111, 32, 100, 101, 101, 112]⟩] 121, .cells #[.string ⟨#[97, 32, 100, 105, 118, 105, 115, 105, 111, 110, 32, 98, 121, 32, 110, 111, 116, 104, 105, 110, 103]⟩] 121, .cells #[.string ⟨#[116, 104, 101, 114, 101, 32, 105, 115, 32, 110, 111, 32, 114, 111, 111, 109]⟩] 121, .cells #[.string ⟨#[116, 104, 101, 32, 112, 111, 119, 101, 114, 32, 105, 115, 32, 103, 111, 110, 101]⟩] 121, .cells #[.string ⟨#[110, 111, 32, 119, 97, 121, 32, 103, 111, 101, 115, 32, 111, 110]⟩] 121], #[], []⟩
  { w0 with heap := ((((((((((((((((w0.heap.modify 7 (fun | .cells _ t fr => .cells #[.iface 104 (.pointer (some ⟨low + 0, 0, none⟩))] t fr | o => o)).modify 6 (fun | .cells _ t fr => .cells #[.iface 104 (.pointer (some ⟨low + 1, 0, none⟩))] t fr | o => o)).modify 8 (fun | .cells _ t fr => .cells #[.iface 104 (.pointer (some ⟨low + 2, 0, none⟩))] t fr | o => o)).modify 0 (fun | .cells _ t fr => .cells #[.iface 104 (.pointer (some ⟨low + 3, 0, none⟩))] t fr | o => o)).modify 4 (fun | .cells _ t fr => .cells #[.iface 104 (.pointer (some ⟨low + 4, 0, none⟩))] t fr | o => o)).modify 2 (fun | .cells _ t fr => .cells #[.iface 104 (.pointer (some ⟨low + 5, 0, none⟩))] t fr | o => o)).modify 5 (fun | .cells _ t fr => .cells #[.iface 104 (.pointer (some ⟨low + 6, 0, none⟩))] t fr | o => o)).modify 9 (fun | .cells _ t fr => .cells #[.iface 104 (.pointer (some ⟨low + 7, 0, none⟩))] t fr | o => o)).modify 1 (fun | .cells _ t fr => .cells #[.iface 104 (.pointer (some ⟨low + 8, 0, none⟩))] t fr | o => o)).modify 3 (fun | .cells _ t fr => .cells #[.iface 104 (.pointer (some ⟨low + 9, 0, none⟩))] t fr | o => o)).modify 10 (fun | .cells _ t fr => .cells #[.iface 104 (.pointer (some ⟨low + 10, 0, none⟩))] t fr | o => o)).modify 11 (fun | .cells _ t fr => .cells #[.iface 104 (.pointer (some ⟨low + 11, 0, none⟩))] t fr | o => o)).modify 12 (fun | .cells _ t fr => .cells #[.iface 104 (.pointer (some ⟨low + 12, 0, none⟩))] t fr | o => o)).modify 13 (fun | .cells _ t fr => .cells #[.iface 104 (.pointer (some ⟨low + 13, 0, none⟩))] t fr | o => o)).modify 14 (fun | .cells _ t fr => .cells #[.iface 104 (.pointer (some ⟨low + 14, 0, none⟩))] t fr | o => o)).modify 15 (fun | .cells _ t fr => .cells #[.iface 104 (.pointer (some ⟨low + 15, 0, none⟩))] t fr | o => o)) }
theorem laid_met (os : Os) (args : Array Value) : laidMet Tryd.prog Rows.varsSayRow.laid ((laidWorld os).forCall (fun _ _ => 0) ⟨#[], args, []⟩).memory :=
  laidMet_of_run' 8 (by kernel_rfl) (by kernel_rfl)

set_option maxRecDepth 100000 in
theorem lifted (os : Os) (started : os.Started) (H : Type) (enc : TypeId × Value → H) :
    ReturnsInHanded {} Tryd.checked os 3 .any (fun w args => (Rows.varsSaySpec.pre enc Tryd.prog Tryd.f3 [] false w args ∧ laidMet Tryd.prog Rows.varsSayRow.laid w) ∧ sizedMet enc Tryd.prog Tryd.f3 (OpenSpec.ofChange Rows.varsSaySpec) false w args)
      (Rows.varsSaySpec.post enc Tryd.prog Tryd.f3 false true false false) := by
  refine returnsInHanded_of_change_and (C := Tryd.checked) (X := fun w _ => laidMet Tryd.prog Rows.varsSayRow.laid w) (fun _ _ _ hh h => h.of_heap hh) own started (by kernel_rfl) Tryd.func3
    (ChangeSpec.witness_at (enc := enc) (C := Tryd.checked) (os := os) (X := fun w _ => laidMet Tryd.prog Rows.varsSayRow.laid w) false (laidWorld os) #[.string ⟨#[]⟩, .slice none 0 0, .slice none 0 0] 8 rfl (by kernel_rfl) (by kernel_rfl) (by kernel_rfl) (by kernel_rfl) (by kernel_rfl) (laid_met os _)) ?_
  intro W base args ds gs before hval0 hW hcnd hreach hL _
  have hval : ∀ (j : Nat) t v, Tryd.f3.params[j]? = some t → args[j]? = some v → Value.okWide Tryd.prog W .any base t v := hval0
  have hW' := hW
  obtain ⟨p, q, hA0, hV, rfl, hfz, hnd⟩ := hW
  have hA : DataW.TrodAll enc Tryd.prog W 0 (fun _ => true) true Tryd.f3.params.toList args.toList ds p := hA0
  rw [Tryd.params3] at hA hval
  obtain ⟨v0, vs0, d0, ds0, p0, q0, hargs, rfl, rfl, h0, r0⟩ := trodAll_cons hA
  obtain ⟨v1, vs1, d1, ds1, p1, q1, rfl, rfl, rfl, h1, r1⟩ := trodAll_cons r0
  obtain ⟨v2, vs2, d2, ds2, p2, q2, rfl, rfl, rfl, h2, r2⟩ := trodAll_cons r1
  obtain ⟨rfl, rfl, rfl⟩ := trodAll_nil r2
  obtain rfl : args = #[v0, v1, v2] := by cases args; simp_all
  obtain ⟨rfl, rfl⟩ := trodVars_none hV
  obtain ⟨a0, rfl, rfl, rfl, w0⟩ := open_string Tryd.underlying9 (hval 0 9 v0 rfl rfl) h0
  obtain ⟨a1, len1, cap1, rfl⟩ := okWide_slice Tryd.underlying22 (hval 1 22 v1 rfl rfl)
  have k1 := h1
  have lt1 : ∀ x ∈ p1, x.block < W.heap.size := by obtain ⟨m, hm⟩ := k1; exact DataW.trod_lt m _ _ _ hm
  obtain ⟨l1, w1, b1⟩ := open_structs45 h1
  obtain ⟨a2, len2, cap2, rfl⟩ := okWide_slice Tryd.underlying22 (hval 2 22 v2 rfl rfl)
  have k2 := h2
  have lt2 : ∀ x ∈ p2, x.block < W.heap.size := by obtain ⟨m, hm⟩ := k2; exact DataW.trod_lt m _ _ _ hm
  obtain ⟨l2, w2, b2⟩ := open_structs45 h2
  obtain ⟨ads, hE⟩ := errs_of_laid errTypes (rest := []) [("leasehold/api.ErrEnd", [105, 116, 32, 101, 110, 100, 115, 32, 116, 111, 111, 32, 101, 97, 114, 108, 121]), ("leasehold/api.ErrShape", [110, 111, 116, 32, 97, 115, 32, 105, 116, 32, 104, 97, 115, 32, 116, 111, 32, 98, 101]), ("leasehold/api.ErrSum", [97, 32, 115, 117, 109, 32, 116, 104, 97, 116, 32, 100, 111, 101, 115, 32, 110, 111, 116, 32, 102, 105, 116]), ("leasehold/api.ErrMany", [116, 111, 111, 32, 109, 97, 110, 121, 44, 32, 111, 114, 32, 116, 111, 111, 32, 102, 101, 119]), ("leasehold/api.ErrLong", [116, 111, 111, 32, 108, 111, 110, 103]), ("leasehold/api.ErrName", [97, 32, 110, 97, 109, 101, 32, 116, 104, 97, 116, 32, 99, 97, 110, 39, 116, 32, 98, 101]), ("leasehold/api.ErrRange", [97, 32, 110, 117, 109, 98, 101, 114, 32, 111, 117, 116, 32, 111, 102, 32, 105, 116, 115, 32, 114, 97, 110, 103, 101]), ("leasehold/api.ErrNone", [116, 104, 101, 114, 101, 32, 105, 115, 32, 110, 111, 110, 101]), ("leasehold/api.ErrTwice", [111, 110, 101, 32, 116, 104, 105, 110, 103, 32, 116, 119, 105, 99, 101]), ("leasehold/api.ErrType", [111, 102, 32, 97, 110, 111, 116, 104, 101, 114, 32, 116, 121, 112, 101]), ("leasehold/api.ErrSyntax", [110, 111, 116, 32, 97, 110, 32, 101, 120, 112, 114, 101, 115, 115, 105, 111, 110]), ("leasehold/api.ErrDeep", [116, 111, 111, 32, 100, 101, 101, 112]), ("leasehold/api.ErrZero", [97, 32, 100, 105, 118, 105, 115, 105, 111, 110, 32, 98, 121, 32, 110, 111, 116, 104, 105, 110, 103]), ("leasehold/api.ErrFull", [116, 104, 101, 114, 101, 32, 105, 115, 32, 110, 111, 32, 114, 111, 111, 109]), ("leasehold/api.ErrDead", [116, 104, 101, 32, 112, 111, 119, 101, 114, 32, 105, 115, 32, 103, 111, 110, 101]), ("leasehold/api.ErrStuck", [110, 111, 32, 119, 97, 121, 32, 103, 111, 101, 115, 32, 111, 110])] [7, 6, 8, 0, 4, 2, 5, 9, 1, 3, 10, 11, 12, 13, 14, 15] rfl (by kernel_rfl) hL
  clear hA0 hval0
  refine (varsSay_walk a0 a1 len1 cap1 l1 a2 len2 cap2 l2 ads W w0 w1 b1 w2 b2 hE).mono fun e W' ⟨he, bel⟩ => ?_
  subst he
  exact ⟨_, rfl, _, _, _, [], _, [], hW', trodAll_mk1 (shut_bool Tryd.underlying4 _), (trodAll_cons_mk (shut_string Tryd.underlying9 w0) (trodAll_cons_mk (Below.trod laidOut (by kernel_rfl) (of_decide_eq_true (by kernel_rfl)) k1 bel lt1) (trodAll_cons_mk (Below.trod laidOut (by kernel_rfl) (of_decide_eq_true (by kernel_rfl)) k2 bel lt2) trodAll_mk0))), rfl, bel.frame _, fun h => by cases h⟩

theorem over : Rows.varsSayRow.holds Tryd.pinned (OpenSpec.ofChange Rows.varsSaySpec) :=
  OpenClaim.holds_of_wide 3 Tryd.f3 rfl rfl rfl rfl rfl rfl rfl ⟨rfl, rfl, rfl, rfl, rfl⟩ rfl rfl rfl rfl rfl (by kernel_rfl) Tryd.func3 (by kernel_rfl)
    (of_decide_eq_true (by kernel_rfl)) (by unfold Func.isWrapper; first | (rw [if_pos (by decide +kernel)]; kernel_rfl) | (rw [if_neg (by decide +kernel)]; exact ⟨rfl, rfl⟩))
    (fun os started H enc _ => lifted os started H enc)

theorem params_look : ∀ (j : Nat) t, Tryd.f3.params[j]? = some t → Tryd.prog.wantsStandIn t = false := by
  intro j t ht
  rw [Tryd.params3] at ht
  have hm : t ∈ [9, 22, 22] := by
    have := List.mem_of_getElem? (show [9, 22, 22][j]? = some t by simpa using ht)
    exact this
  have hall : ([9, 22, 22].all fun t => !Tryd.prog.wantsStandIn t) = true := by kernel_rfl
  have := List.all_eq_true.1 hall t hm
  simpa using this

/-- THE STATEMENT. -/
theorem proved : Rows.VarsSayCardSaid :=
  Claim7.holds_tied_plain_at .later [] [.sentinel, .sentinel, .sentinel, .sentinel, .sentinel, .sentinel, .sentinel, .sentinel, .sentinel, .sentinel, .sentinel, .sentinel, .sentinel, .sentinel, .sentinel, .sentinel] true (true, "eea4a523bb421c9c7cd981ff0991edc7a95152d230b17d7b8d2fdf99b165dd05") true
    over (fun _ h => by cases h) (by kernel_rfl) (fun _ h => by cases h) varsSay_row_tie rfl ⟨rfl, rfl⟩ (by kernel_rfl) rfl
    (fun f fn hf hfn => by
      obtain rfl : f = 3 := Option.some.inj ((show Tryd.prog.funcNamed "leasehold/leaseholdlaw4.VarsSay" = some 3 by kernel_rfl).symm.trans hf) |>.symm
      obtain rfl : fn = Tryd.f3 := (Option.some.inj (Tryd.func3.symm.trans hfn)).symm
      exact ⟨by kernel_rfl, params_look⟩)
    (by kernel_rfl)
#print axioms proved
end Go.Proofs.YthkgjdhbibialaaDoor.pVarsSay
