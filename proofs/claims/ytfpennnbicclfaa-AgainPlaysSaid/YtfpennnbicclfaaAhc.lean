/- Package again: the walks' head of a thing that a book is told. -/
import Derived.Test.YtfpennnbicclfaaAgr
import Derived.Test.YtfpennnbicclfaaAgz
import Derived.Test.YtfpennnbicclfaaLu
namespace Go.Proofs.Ytfpennnbicclfaa
open Go.RowKit

namespace Ag
theorem wrapA {a : Int} (h1 : -9223372036854775808 ≤ a) (h2 : a ≤ 9223372036854775807) : IntKind.i64.wrap a = a := by
  rw [IntKind.wrap_i64]
  omega
theorem numf (n b : Int) (w : World) (hb : 0 < b) (h3 : b ≤ 4611686018427387904) :
    Calls Try.prog 20 #[.int .i64 n, .int .i64 b] w fun e w' => e = .returned (.int .i64 (n % b)) ∧ w' = w := by
  have hb0 : (b == 0) = false := by simp; omega
  have e1 : n.tmod b < b := Int.tmod_lt_of_pos _ hb
  have e2 : -b < n.tmod b := by
    have := Int.lt_tmod_of_pos n hb
    omega
  have e3 : n % b = if n.tmod b < 0 then n.tmod b + b else n.tmod b := by
    rw [Int.tmod_eq_emod]
    have h4 := Int.emod_nonneg n (show b ≠ 0 by omega)
    have h5 := Int.emod_lt_of_pos n hb
    by_cases h : 0 ≤ n ∨ b ∣ n
    · rw [if_pos h, show ((0 : Nat) : Int) = 0 from rfl, Int.sub_zero, if_neg (by omega)]
    · rw [if_neg h]
      have h6 : (b.natAbs : Int) = b := by omega
      rw [h6, if_pos (by omega)]
      omega
  rw [e3]
  generalize hr : n.tmod b = r at *
  by_cases h : r < 0
  · rw [if_pos h]
    have hw : IntKind.i64.wrap (r + b) = r + b := wrapA (by omega) (by omega)
    go_enter Try.func20, Try.ntmps20
    go_wp2
    go_ret
    exact ⟨rfl, rfl⟩
  · rw [if_neg h]
    go_enter Try.func20, Try.ntmps20
    go_wp2
    go_ret
    exact ⟨rfl, rfl⟩
/-- One byte in a new block. -/
def IsOne (c : UInt8) (v : Value) (w : World) : Prop := ∃ g, v = .slice (some ⟨g, 0, none⟩) 1 1 ∧ w.cell? ⟨g, 0, none⟩ = some (.int .u8 (c.toNat : Int))
theorem IsOne.mono (c : UInt8) : Rg.Mono (IsOne c) := by
  rintro v w w' ⟨g, rfl, hc⟩ hb
  exact ⟨g, rfl, (hb.cell (p := ⟨g, 0, none⟩) (cell_lt hc)).trans hc⟩
theorem wpOp_store_head {ops : Array Oper} {i : Nat} {o : Oper} {a : Act} {w : World} {K : Act → World → Prop} {Q : Exit → Act → World → Prop} (ho : ops[i]? = some o) (hg : o.guard = none) (hd : o.dst = none) (p v : Operand) (hop : o.op = Op.store 39 p v) {g : Nat} {sm : ByteArray} {x y : Int}
    (hp : a.eval p = .pointer (some ⟨g, 0, none⟩)) (hv : a.eval v = .agg #[.string sm, .int .i64 x, .int .i64 y]) (hc : Cel w g [.string ⟨#[]⟩, .int .i64 0, .int .i64 0])
    (hK : K a (((w.setCell ⟨g, 0, none⟩ (.string sm)).setCell ⟨g, 1, none⟩ (.int .i64 x)).setCell ⟨g, 2, none⟩ (.int .i64 y))) : wpOp Try.prog ops Q i K a w := by
  obtain ⟨c0, c1, c2⟩ := cel3 hc
  have f0 := hc.froz 0 (by simp)
  have f1 := hc.froz 1 (by simp)
  have f2 := hc.froz 2 (by simp)
  have hw : Region.wanted o (yielded ops a.tmps) = true := by simp [Region.wanted, hg]
  have hrun : (execOp a.eval o).run Try.prog w = .ok .skip (((w.setCell ⟨g, 0, none⟩ (.string sm)).setCell ⟨g, 1, none⟩ (.int .i64 x)).setCell ⟨g, 2, none⟩ (.int .i64 y)) := by
    obtain ⟨d, op, ty, ps, af, gd⟩ := o
    dsimp only at hop hg hd
    subst hop
    clear ho hw hK
    generalize a.eval = ρ at *
    go_simp
  unfold wpOp
  simp only [ho, hw, if_true, Oper.wp, hrun, Oper.upon, hd]
  first | exact hK | exact .inl hK
set_option maxRecDepth 10000 in
set_option maxHeartbeats 3200000 in
theorem head_any (kd wi inc key : Int) (A : Option Addr) (n c : Nat) (w : World) :
    Calls Try.prog 11 #[.agg #[.int .i64 kd, .int .i64 wi, .int .i64 inc, .int .i64 key, .slice A n c]] w fun e w' => e = .returned (.agg #[.string (wn (wi % 8).toNat), .int .i64 (1 + inc % 3), .int .i64 (1 + key % 9)]) ∧ Below w.heap.size w w' := by
  obtain ⟨m, hm, hm8⟩ : ∃ m : Nat, wi % 8 = (m : Int) ∧ m < 8 := ⟨(wi % 8).toNat, by omega, by omega⟩
  obtain ⟨a', ha, ha3⟩ : ∃ a : Nat, inc % 3 = (a : Int) ∧ a < 3 := ⟨(inc % 3).toNat, by omega, by omega⟩
  obtain ⟨b, hb, hb9⟩ : ∃ b : Nat, key % 9 = (b : Int) ∧ b < 9 := ⟨(key % 9).toNat, by omega, by omega⟩
  have H8 : ∀ W, Calls Try.prog 20 #[.int .i64 wi, .int .i64 8] W fun e w' => e = .returned (.int .i64 (m : Int)) ∧ w' = W := fun W => by rw [← hm]; exact numf wi 8 W (by decide) (by decide)
  have H3 : ∀ W, Calls Try.prog 20 #[.int .i64 inc, .int .i64 3] W fun e w' => e = .returned (.int .i64 (a' : Int)) ∧ w' = W := fun W => by rw [← ha]; exact numf inc 3 W (by decide) (by decide)
  have H9 : ∀ W, Calls Try.prog 20 #[.int .i64 key, .int .i64 9] W fun e w' => e = .returned (.int .i64 (b : Int)) ∧ w' = W := fun W => by rw [← hb]; exact numf key 9 W (by decide) (by decide)
  rw [hm, ha, hb, Int.toNat_natCast]
  have K8 := Lib.hid H8
  have K3 := Lib.hid H3
  have K9 := Lib.hid H9
  clear H8 H3 H9 hm ha hb
  obtain ⟨c1, hc1⟩ : ∃ c1 : UInt8, UInt8.ofNat (48 + m) = c1 := ⟨_, rfl⟩
  have hcw : IntKind.u8.wrap (48 + (m : Int)) = (c1.toNat : Int) := by
    rw [← hc1]
    simp [IntKind.wrap, IntKind.bits, IntKind.signed]
  have hcat : (⟨#[119]⟩ : ByteArray) ++ ⟨#[c1]⟩ = wn m := by rw [← hc1]; rfl
  have hcv := one_str c1
  generalize wn m = sm at *
  clear hc1
  have hc1 := (Cel.lit w #[.int .i64 kd, .int .i64 wi, .int .i64 inc, .int .i64 key, .slice A n c] 34).alloc (.cells #[.string ⟨#[]⟩, .int .i64 0, .int .i64 0] 39)
  have hc2 := Cel.lit (w.alloc (.cells #[.int .i64 kd, .int .i64 wi, .int .i64 inc, .int .i64 key, .slice A n c] 34)) #[.string ⟨#[]⟩, .int .i64 0, .int .i64 0] 39
  rw [show (w.alloc (.cells #[.int .i64 kd, .int .i64 wi, .int .i64 inc, .int .i64 key, .slice A n c] 34)).heap.size = w.heap.size + 1 by simp] at hc2
  have hbb : Below w.heap.size w ((w.alloc (.cells #[.int .i64 kd, .int .i64 wi, .int .i64 inc, .int .i64 key, .slice A n c] 34)).alloc (.cells #[.string ⟨#[]⟩, .int .i64 0, .int .i64 0] 39)) := bel_alloc (bel_alloc (Below.refl _ _) _) _
  have HC1 := Lib.hid hc1
  have HC2 := Lib.hid hc2
  have HBB := Lib.hid hbb
  clear hc1 hc2 hbb
  go_enter Try.func11, Try.ntmps11
  go_upto_region 1 with (fail)
  generalize (w.alloc _).alloc _ = w2 at *
  have hl1 := HC1.out.lt
  have hl2 := HC2.out.lt
  have d1 := HC1.out.cell 1 _ rfl
  have d2 := HC1.out.cell 2 _ rfl
  have d3 := HC1.out.cell 3 _ rfl
  obtain ⟨e0, e1, e2⟩ := cel3 HC2.out
  have f0 := HC2.out.froz 0 (by simp)
  have f1 := HC2.out.froz 1 (by simp)
  have f2 := HC2.out.froz 2 (by simp)
  have hw48 : IntKind.i64.wrap (48 + (m : Int)) = 48 + (m : Int) := wrapA (by omega) (by omega)
  have hwa : IntKind.i64.wrap (1 + (a' : Int)) = 1 + (a' : Int) := wrapA (by omega) (by omega)
  have hwb : IntKind.i64.wrap (1 + (b : Int)) = 1 + (b : Int) := wrapA (by omega) (by omega)
  have hv := hcv (w2.alloc (.cells #[.int .u8 (c1.toNat : Int)] 5)).drew w2.heap.size ((Cel.lit w2 #[.int .u8 (c1.toNat : Int)] 5).cell 0 _ rfl)
  have hbz : Below w2.heap.size w2 (w2.alloc (.cells #[.int .u8 (c1.toNat : Int)] 5)).drew := ((Below.refl _ _).alloc (Nat.le_refl _) _).drew
  have HBZ := Lib.hid hbz
  clear hcv hbz
  go_cut [] from 3 to 20 (fun wx => Cel wx (w.heap.size + 1) [.string sm, .int .i64 (1 + (a' : Int)), .int .i64 (1 + (b : Int))] ∧ Below w.heap.size w wx)
  case first =>
    refine Rg.region_last (by kernel_rfl) (fun i => ([
        (fun v _ => v = .pointer (some ⟨w.heap.size, 1, none⟩)),
        (fun v _ => v = .int .i64 wi),
        (fun v _ => v = .int .i64 (m : Int)),
        (fun v _ => v = .int .i64 (48 + (m : Int))),
        (fun v _ => v = .int .u8 (c1.toNat : Int)),
        (IsOne c1),
        (fun v _ => v = .string ⟨#[c1]⟩),
        (fun v _ => v = .string sm),
        (fun v _ => v = .pointer (some ⟨w.heap.size, 2, none⟩)),
        (fun v _ => v = .int .i64 inc),
        (fun v _ => v = .int .i64 (a' : Int)),
        (fun v _ => v = .int .i64 (1 + (a' : Int))),
        (fun v _ => v = .pointer (some ⟨w.heap.size, 3, none⟩)),
        (fun v _ => v = .int .i64 key),
        (fun v _ => v = .int .i64 (b : Int)),
        (fun v _ => v = .int .i64 (1 + (b : Int))),
        (fun v _ => v = .agg #[.string sm, .int .i64 (1 + (a' : Int)), .int .i64 (1 + (b : Int))]),
        (fun _ _ => True)
        ] : List (Value → World → Prop)).getD i (fun _ _ => True)) (by kernel_rfl) 17 (by kernel_rfl) ?mono (Rg.by_each _ ⟨?s0, ?s1, ?s2, ?s3, ?s4, ?s5, ?s6, ?s7, ?s8, ?s9, ?s10, ?s11, ?s12, ?s13, ?s14, ?s15, ?s16, ?s17, trivial⟩) ?fin
    case s0 =>
      intro _ a w' hp
      have e1 : a.eval (.tmp 1) = .pointer (some ⟨w.heap.size, 0, none⟩) := hp.rest 1 (by rfl)
      refine Rg.step_run (v := .pointer (some ⟨w.heap.size, 1, none⟩)) (w' := w') rfl (Rg.wanted_none rfl) (by simp) ?_ rfl (Below.refl _ _)
      clear hp
      obtain ⟨ec, eg, ef⟩ := Rg.eval_at a
      generalize a.eval = ρ at *
      go_simp
    case s1 =>
      intro _ a w' hp
      have e3 : a.eval (.tmp 3) = .pointer (some ⟨w.heap.size, 1, none⟩) := hp.at_ 0 (by rfl)
      have tq := (hp.grew.cell (p := ⟨w.heap.size, 1, none⟩) hl1).trans d1
      refine Rg.step_run (v := .int .i64 wi) (w' := w') rfl (Rg.wanted_none rfl) (by simp) ?_ rfl (Below.refl _ _)
      clear hp
      obtain ⟨ec, eg, ef⟩ := Rg.eval_at a
      generalize a.eval = ρ at *
      go_simp
    case s2 =>
      intro _ a w' hp
      have e4 : a.eval (.tmp 4) = .int .i64 wi := hp.at_ 1 (by rfl)
      refine Rg.step_call (f := 20) (args := #[.int .i64 wi, .int .i64 8]) rfl (Rg.wanted_none rfl) (by simp) (by clear hp; obtain ⟨ec, eg, ef⟩ := Rg.eval_at a; generalize a.eval = ρ at *; go_simp) ?_
      refine (K8.out w').mono ?_
      rintro e w2' ⟨rfl, rfl⟩
      exact ⟨_, rfl, rfl, Below.refl _ _⟩
    case s3 =>
      intro _ a w' hp
      have e5 : a.eval (.tmp 5) = .int .i64 (m : Int) := hp.at_ 2 (by rfl)
      refine Rg.step_run (v := .int .i64 (48 + (m : Int))) (w' := w') rfl (Rg.wanted_none rfl) (by simp) ?_ rfl (Below.refl _ _)
      clear hp
      obtain ⟨ec, eg, ef⟩ := Rg.eval_at a
      generalize a.eval = ρ at *
      go_simp
    case s4 =>
      intro _ a w' hp
      have e6 : a.eval (.tmp 6) = .int .i64 (48 + (m : Int)) := hp.at_ 3 (by rfl)
      refine Rg.step_run (v := .int .u8 (c1.toNat : Int)) (w' := w') rfl (Rg.wanted_none rfl) (by simp) ?_ rfl (Below.refl _ _)
      clear hp
      obtain ⟨ec, eg, ef⟩ := Rg.eval_at a
      generalize a.eval = ρ at *
      go_simp
    case s5 =>
      intro _ a w' hp
      have e7 : a.eval (.tmp 7) = .int .u8 (c1.toNat : Int) := hp.at_ 4 (by rfl)
      refine Rg.step_run (v := .slice (some ⟨w'.heap.size, 0, none⟩) 1 1) (w' := w'.alloc (.cells #[.int .u8 (c1.toNat : Int)] 5)) rfl (Rg.wanted_none rfl) (by simp) ?_ ⟨w'.heap.size, rfl, (Cel.lit w' #[.int .u8 (c1.toNat : Int)] 5).cell 0 _ rfl⟩ ((Below.refl _ _).alloc (Nat.le_refl _) _)
      clear hp
      obtain ⟨ec, eg, ef⟩ := Rg.eval_at a
      generalize a.eval = ρ at *
      go_simp
    case s6 =>
      intro _ a w' hp
      have e8 : (IsOne c1) (a.eval (.tmp 8)) w' := hp.at_ 5 (by rfl)
      obtain ⟨g, e8, hc⟩ := e8
      have hv := one_str c1 w' g hc
      refine Rg.step_run (v := .string ⟨#[c1]⟩) (w' := w') rfl (Rg.wanted_none rfl) (by simp) ?_ rfl (Below.refl _ _)
      clear hp
      obtain ⟨ec, eg, ef⟩ := Rg.eval_at a
      generalize a.eval = ρ at *
      go_simp
    case s7 =>
      intro _ a w' hp
      have e9 : a.eval (.tmp 9) = .string ⟨#[c1]⟩ := hp.at_ 6 (by rfl)
      refine Rg.step_run (v := .string sm) (w' := w') rfl (Rg.wanted_none rfl) (by simp) ?_ rfl (Below.refl _ _)
      clear hp
      obtain ⟨ec, eg, ef⟩ := Rg.eval_at a
      generalize a.eval = ρ at *
      go_simp
    case s8 =>
      intro _ a w' hp
      have e1 : a.eval (.tmp 1) = .pointer (some ⟨w.heap.size, 0, none⟩) := hp.rest 1 (by rfl)
      refine Rg.step_run (v := .pointer (some ⟨w.heap.size, 2, none⟩)) (w' := w') rfl (Rg.wanted_none rfl) (by simp) ?_ rfl (Below.refl _ _)
      clear hp
      obtain ⟨ec, eg, ef⟩ := Rg.eval_at a
      generalize a.eval = ρ at *
      go_simp
    case s9 =>
      intro _ a w' hp
      have e11 : a.eval (.tmp 11) = .pointer (some ⟨w.heap.size, 2, none⟩) := hp.at_ 8 (by rfl)
      have tq := (hp.grew.cell (p := ⟨w.heap.size, 2, none⟩) hl1).trans d2
      refine Rg.step_run (v := .int .i64 inc) (w' := w') rfl (Rg.wanted_none rfl) (by simp) ?_ rfl (Below.refl _ _)
      clear hp
      obtain ⟨ec, eg, ef⟩ := Rg.eval_at a
      generalize a.eval = ρ at *
      go_simp
    case s10 =>
      intro _ a w' hp
      have e12 : a.eval (.tmp 12) = .int .i64 inc := hp.at_ 9 (by rfl)
      refine Rg.step_call (f := 20) (args := #[.int .i64 inc, .int .i64 3]) rfl (Rg.wanted_none rfl) (by simp) (by clear hp; obtain ⟨ec, eg, ef⟩ := Rg.eval_at a; generalize a.eval = ρ at *; go_simp) ?_
      refine (K3.out w').mono ?_
      rintro e w2' ⟨rfl, rfl⟩
      exact ⟨_, rfl, rfl, Below.refl _ _⟩
    case s11 =>
      intro _ a w' hp
      have e13 : a.eval (.tmp 13) = .int .i64 (a' : Int) := hp.at_ 10 (by rfl)
      refine Rg.step_run (v := .int .i64 (1 + (a' : Int))) (w' := w') rfl (Rg.wanted_none rfl) (by simp) ?_ rfl (Below.refl _ _)
      clear hp
      obtain ⟨ec, eg, ef⟩ := Rg.eval_at a
      generalize a.eval = ρ at *
      go_simp
    case s12 =>
      intro _ a w' hp
      have e1 : a.eval (.tmp 1) = .pointer (some ⟨w.heap.size, 0, none⟩) := hp.rest 1 (by rfl)
      refine Rg.step_run (v := .pointer (some ⟨w.heap.size, 3, none⟩)) (w' := w') rfl (Rg.wanted_none rfl) (by simp) ?_ rfl (Below.refl _ _)
      clear hp
      obtain ⟨ec, eg, ef⟩ := Rg.eval_at a
      generalize a.eval = ρ at *
      go_simp
    case s13 =>
      intro _ a w' hp
      have e15 : a.eval (.tmp 15) = .pointer (some ⟨w.heap.size, 3, none⟩) := hp.at_ 12 (by rfl)
      have tq := (hp.grew.cell (p := ⟨w.heap.size, 3, none⟩) hl1).trans d3
      refine Rg.step_run (v := .int .i64 key) (w' := w') rfl (Rg.wanted_none rfl) (by simp) ?_ rfl (Below.refl _ _)
      clear hp
      obtain ⟨ec, eg, ef⟩ := Rg.eval_at a
      generalize a.eval = ρ at *
      go_simp
    case s14 =>
      intro _ a w' hp
      have e16 : a.eval (.tmp 16) = .int .i64 key := hp.at_ 13 (by rfl)
      refine Rg.step_call (f := 20) (args := #[.int .i64 key, .int .i64 9]) rfl (Rg.wanted_none rfl) (by simp) (by clear hp; obtain ⟨ec, eg, ef⟩ := Rg.eval_at a; generalize a.eval = ρ at *; go_simp) ?_
      refine (K9.out w').mono ?_
      rintro e w2' ⟨rfl, rfl⟩
      exact ⟨_, rfl, rfl, Below.refl _ _⟩
    case s15 =>
      intro _ a w' hp
      have e17 : a.eval (.tmp 17) = .int .i64 (b : Int) := hp.at_ 14 (by rfl)
      refine Rg.step_run (v := .int .i64 (1 + (b : Int))) (w' := w') rfl (Rg.wanted_none rfl) (by simp) ?_ rfl (Below.refl _ _)
      clear hp
      obtain ⟨ec, eg, ef⟩ := Rg.eval_at a
      generalize a.eval = ρ at *
      go_simp
    case s16 =>
      intro _ a w' hp
      have e10 : a.eval (.tmp 10) = .string sm := hp.at_ 7 (by rfl)
      have e14 : a.eval (.tmp 14) = .int .i64 (1 + (a' : Int)) := hp.at_ 11 (by rfl)
      have e18 : a.eval (.tmp 18) = .int .i64 (1 + (b : Int)) := hp.at_ 15 (by rfl)
      refine Rg.step_run (v := .agg #[.string sm, .int .i64 (1 + (a' : Int)), .int .i64 (1 + (b : Int))]) (w' := w') rfl (Rg.wanted_none rfl) (by simp) ?_ rfl (Below.refl _ _)
      clear hp
      obtain ⟨ec, eg, ef⟩ := Rg.eval_at a
      generalize a.eval = ρ at *
      go_simp
    case s17 => exact fun h => absurd rfl h
    case mono =>
      refine Rg.mono_getD _ ?_
      intro p hp
      repeat (rcases List.mem_cons.1 hp with rfl | hp; first | exact Rg.mono_eq _ | exact IsOne.mono _ | exact fun _ _ _ _ _ => trivial)
      cases hp
    case fin =>
      intro a w3 hsz hdf hrest hdone hb3
      have hv : a.tmps.getD 19 undef = .agg #[.string sm, .int .i64 (1 + (a' : Int)), .int .i64 (1 + (b : Int))] := hdone 16 (by decide)
      have ha := Rg.act_puts hsz hdf hrest [3, 4, 5, 6, 7, 8, 9, 10, 11, 12, 13, 14, 15, 16, 17, 18, 19] (by kernel_rfl)
      simp only [List.foldl_cons, List.foldl_nil, Act.put, List.setIfInBounds_toArray, List.set_cons_zero, List.set_cons_succ] at ha
      rw [hv] at ha
      clear hsz hdf hrest hdone hv
      rw [ha]
      clear ha
      generalize a.tmps.getD 3 undef = y3
      generalize a.tmps.getD 4 undef = y4
      generalize a.tmps.getD 5 undef = y5
      generalize a.tmps.getD 6 undef = y6
      generalize a.tmps.getD 7 undef = y7
      generalize a.tmps.getD 8 undef = y8
      generalize a.tmps.getD 9 undef = y9
      generalize a.tmps.getD 10 undef = y10
      generalize a.tmps.getD 11 undef = y11
      generalize a.tmps.getD 12 undef = y12
      generalize a.tmps.getD 13 undef = y13
      generalize a.tmps.getD 14 undef = y14
      generalize a.tmps.getD 15 undef = y15
      generalize a.tmps.getD 16 undef = y16
      generalize a.tmps.getD 17 undef = y17
      generalize a.tmps.getD 18 undef = y18
      have hc3 := HC2.out.below hb3 (Nat.le_refl _)
      refine wpOp_store_head rfl rfl rfl (.tmp 2) (.tmp 19) rfl rfl rfl hc3 ?_
      go_wp2
      go_meet
      exact ⟨((hc3.set (i := 0) (by simp) _).set (i := 1) (by simp) _).set (i := 2) (by simp) _, (((((HBB.out.trans (hb3.mono HBB.out.size)).setCell (p := ⟨w.heap.size + 1, 0, none⟩) (by show w.heap.size ≤ w.heap.size + 1; omega) _).setCell (p := ⟨w.heap.size + 1, 1, none⟩) (by show w.heap.size ≤ w.heap.size + 1; omega) _).setCell (p := ⟨w.heap.size + 1, 2, none⟩) (by show w.heap.size ≤ w.heap.size + 1; omega) _))⟩
  case rest =>
    obtain ⟨hc, hb⟩ := hcut
    clear d1 d2 d3 e0 e1 e2 f0 f1 f2
    obtain ⟨g0, g1, g2⟩ := cel3 hc
    go_wp2
    exact bodyPost_ret (v := .agg #[.string sm, .int .i64 (1 + (a' : Int)), .int .i64 (1 + (b : Int))]) (by simp [results, Try.results11, go_sem, g0, g1, g2]) rfl ⟨rfl, hb⟩
end Ag
end Go.Proofs.Ytfpennnbicclfaa
