/- Statements of queue: made (walk). -/
import Derived.Test.YtglmhpmiphkjlaaLs
import Derived.Test.YtglmhpmiphkjlaaLu
namespace Go.Proofs.Ytglmhpmiphkjlaa
open Go.RowKit

namespace Qu
open Ls (T)
theorem tdivQ (n : Int) (d : Int) (hd : 1 < d) (h1 : -9223372036854775808 ≤ n) (h2 : n ≤ 9223372036854775807) : -9223372036854775808 ≤ n.tdiv d ∧ n.tdiv d ≤ 9223372036854775807 := by
  have h : (n.tdiv d).natAbs ≤ n.natAbs / 2 := by
    rw [Int.natAbs_tdiv]
    exact Nat.div_le_div_left (by omega) (by decide)
  omega
/-- Three texts in a row that is one's own. -/
def IsTri (v : Value) (w : World) : Prop := ∃ g, v = .slice (some ⟨g, 0, none⟩) 3 3 ∧ Cel w g [.string ⟨#[97]⟩, .string ⟨#[98]⟩, .string ⟨#[99]⟩]
theorem IsTri.mono : Rg.Mono IsTri := by
  rintro v w w' ⟨g, rfl, hc⟩ hb
  exact ⟨g, rfl, hc.below hb (Nat.le_refl _)⟩
/-- A place that holds a value. -/
def IsPtr (u : Value) (v : Value) (w : World) : Prop := ∃ p : Addr, v = .pointer (some p) ∧ w.cell? p = some u
theorem IsPtr.mono (u : Value) : Rg.Mono (IsPtr u) := by
  rintro v w w' ⟨p, rfl, hc⟩ hb
  have hlt : p.block < w.heap.size := World.block_lt_of_cell? w p hc
  exact ⟨p, rfl, (hb.cell hlt).trans hc⟩
/-- A new block for a task. -/
def IsNew (B : Nat) (v : Value) (w : World) : Prop := ∃ g, v = .pointer (some ⟨g, 0, none⟩) ∧ B ≤ g ∧ Cel w g [.int .i64 0, .int .i64 0, .int .i64 0, .int .i64 0, .string ⟨#[]⟩, .int .i64 0, .string ⟨#[]⟩, .int .i64 0, .int .i64 0, .int .i64 0, .int .i64 0, .bool false]
theorem IsNew.mono (B : Nat) : Rg.Mono (IsNew B) := by
  rintro v w w' ⟨g, rfl, h1, hc⟩ hb
  exact ⟨g, rfl, h1, hc.below hb (Nat.le_refl _)⟩
theorem mono_true : Rg.Mono (fun _ _ => True) := fun _ _ _ _ _ => trivial
set_option maxHeartbeats 1600000 in
/-- The store of a task, as an operation of an open region. -/
theorem wpOp_store_task {ops : Array Oper} {i : Nat} {o : Oper} {a : Act} {w : World} {K : Act → World → Prop} {Q : Exit → Act → World → Prop} (ho : ops[i]? = some o) (hg : o.guard = none) (hd : o.dst = none) (p v : Operand) (hop : o.op = Op.store 38 p v) (x : T) (g : Nat)
    (hp : a.eval p = .pointer (some ⟨g, 0, none⟩)) (hv : a.eval v = .agg #[.int .i64 x.id, .int .i64 x.ins, .int .i64 x.tok, .int .i64 x.nod, .string x.top, .int .i64 x.prio, .string x.wkr, .int .i64 x.epo, .int .i64 x.exp, .int .i64 x.aft, .int .i64 x.ret, .bool x.bro])
    (hc : Cel w g [.int .i64 0, .int .i64 0, .int .i64 0, .int .i64 0, .string ⟨#[]⟩, .int .i64 0, .string ⟨#[]⟩, .int .i64 0, .int .i64 0, .int .i64 0, .int .i64 0, .bool false]) (hK : K a (Ls.dzn w g x)) : wpOp Try.prog ops Q i K a w := by
  obtain ⟨⟨c0, c1, c2, c3, c4, c5, c6, c7, c8, c9, c10, c11⟩, f0, f1, f2, f3, f4, f5, f6, f7, f8, f9, f10, f11⟩ := Ls.dz_facts hc
  have hw : Region.wanted o (yielded ops a.tmps) = true := by simp [Region.wanted, hg]
  have hrun : (execOp a.eval o).run Try.prog w = .ok .skip (Ls.dzn w g x) := by
    obtain ⟨d, op, ty, ps, af, gd⟩ := o
    dsimp only at hop hg hd
    subst hop
    clear ho hw hK
    generalize a.eval = ρ at *
    unfold Ls.dzn
    go_simp
  unfold wpOp
  simp only [ho, hw, if_true, Oper.wp, hrun, Oper.upon, hd]
  first | exact hK | exact .inl hK
set_option maxRecDepth 100000 in
set_option maxHeartbeats 6400000 in
theorem made_any (n m : Int) (w : World) (hn1 : -9223372036854775808 ≤ n) (hn2 : n ≤ 9223372036854775807) (hm1 : -9223372036854775808 ≤ m) (hm2 : m ≤ 9223372036854775807) :
    Calls Try.prog 9 #[.int .i64 n, .int .i64 m] w fun e w' => e = .returned (mkx n m).val ∧ Below w.heap.size w w' := by
  obtain ⟨hd, hb⟩ := Ls.one_lit w #[.int .i64 0, .int .i64 0, .int .i64 0, .int .i64 0, .string ⟨#[]⟩, .int .i64 0, .string ⟨#[]⟩, .int .i64 0, .int .i64 0, .int .i64 0, .int .i64 0, .bool false] 38
  have t1 := tdivQ m 3 (by decide) hm1 hm2
  have t2 := tdivQ m 12 (by decide) hm1 hm2
  have t3 := tdivQ n 40 (by decide) hn1 hn2
  have t4 := tdivQ m 360 (by decide) hm1 hm2
  have d1 : IntKind.i64.wrap (m.tdiv 3) = m.tdiv 3 := wrapQ t1.1 t1.2
  have d2 : IntKind.i64.wrap (m.tdiv 12) = m.tdiv 12 := wrapQ t2.1 t2.2
  have d3 : IntKind.i64.wrap (n.tdiv 40) = n.tdiv 40 := wrapQ t3.1 t3.2
  have d4 : IntKind.i64.wrap (m.tdiv 360) = m.tdiv 360 := wrapQ t4.1 t4.2
  have N1 := Lib.hid (fun w => num_fn n 40 w (by decide) (by decide))
  have N2 := Lib.hid (fun w => num_fn m 3 w (by decide) (by decide))
  have N3 := Lib.hid (fun w => num_fn (m.tdiv 3) 4 w (by decide) (by decide))
  have N4 := Lib.hid (fun w => num_fn (m.tdiv 12) 30 w (by decide) (by decide))
  have N5 := Lib.hid (fun w => num_fn (n.tdiv 40) 60 w (by decide) (by decide))
  have N6 := Lib.hid (fun w => num_fn (m.tdiv 360) 30 w (by decide) (by decide))
  have e1 : 0 ≤ n % 40 ∧ n % 40 < 40 := ⟨Int.emod_nonneg n (by decide), Int.emod_lt_of_pos n (by decide)⟩
  have e2 : 0 ≤ m % 3 ∧ m % 3 < 3 := ⟨Int.emod_nonneg m (by decide), Int.emod_lt_of_pos m (by decide)⟩
  have e5 : 0 ≤ n.tdiv 40 % 60 ∧ n.tdiv 40 % 60 < 60 := ⟨Int.emod_nonneg _ (by decide), Int.emod_lt_of_pos _ (by decide)⟩
  have e6 : 0 ≤ m.tdiv 360 % 30 ∧ m.tdiv 360 % 30 < 30 := ⟨Int.emod_nonneg _ (by decide), Int.emod_lt_of_pos _ (by decide)⟩
  unfold mkx mk1 mk0
  obtain ⟨X3, hX3⟩ : ∃ X, m.tdiv 3 = X := ⟨_, rfl⟩
  obtain ⟨X12, hX12⟩ : ∃ X, m.tdiv 12 = X := ⟨_, rfl⟩
  obtain ⟨X40, hX40⟩ : ∃ X, n.tdiv 40 = X := ⟨_, rfl⟩
  obtain ⟨X360, hX360⟩ : ∃ X, m.tdiv 360 = X := ⟨_, rfl⟩
  rw [hX3] at d1 N3 ⊢
  rw [hX12] at d2 N4 ⊢
  rw [hX40] at d3 N5 e5 ⊢
  rw [hX360] at d4 N6 e6 ⊢
  generalize n % 40 = a1 at *
  generalize m % 3 = a2 at *
  generalize X3 % 4 = a3 at *
  generalize X12 % 30 = a4 at *
  generalize X40 % 60 = a5 at *
  generalize X360 % 30 = a6 at *
  obtain ⟨V1, hV1⟩ : ∃ V, Go.bits .and .i64 m 1024 = V := ⟨_, rfl⟩
  obtain ⟨V2, hV2⟩ : ∃ V, Go.bits .and .i64 m 2048 = V := ⟨_, rfl⟩
  rw [hV1, hV2]
  obtain ⟨x0, hx0⟩ : ∃ x0 : T, x0 = ⟨1 + a1, 1, 1, 0, tp3 a2, a3, ⟨#[]⟩, 0, 0, a4, 1, false⟩ := ⟨_, rfl⟩
  rw [← hx0]
  obtain ⟨XR, hXR⟩ : ∃ XR : T, XR = (if V2 = 2048 then { (if V1 = 1024 then { x0 with wkr := ⟨#[119]⟩, epo := 1 + a5, exp := 1 + a6 } else x0 : T) with ret := 0, bro := true } else (if V1 = 1024 then { x0 with wkr := ⟨#[119]⟩, epo := 1 + a5, exp := 1 + a6 } else x0)) := ⟨_, rfl⟩
  rw [← hXR]
  have HXR := Lib.hid hXR
  have HX0 := Lib.hid hx0
  clear hXR hx0
  clear t1 t2 t3 t4 hn1 hn2 hm1 hm2
  go_enter Try.func9, Try.ntmps9
  go_upto_region 1 with (fail)
  have hws : (w.alloc (.cells #[.int .i64 0, .int .i64 0, .int .i64 0, .int .i64 0, .string ⟨#[]⟩, .int .i64 0, .string ⟨#[]⟩, .int .i64 0, .int .i64 0, .int .i64 0, .int .i64 0, .bool false] 38)).heap.size = w.heap.size + 1 := by simp
  generalize w.alloc _ = wa at *
  have HD := Lib.hid hd
  have HB := Lib.hid hb
  clear hd hb
  refine Rg.region_last (by kernel_rfl) (fun i => ([
      (fun v _ => v = .int .i64 n),
      (fun v _ => v = .int .i64 a1),
      (fun v _ => v = .int .i64 (1 + a1)),
      (IsTri),
      (fun v _ => v = .int .i64 m),
      (fun v _ => v = .int .i64 a2),
      (IsPtr (.string (tp3 a2))),
      (fun v _ => v = .string (tp3 a2)),
      (fun v _ => v = .int .i64 m),
      (fun v _ => v = .int .i64 X3),
      (fun v _ => v = .int .i64 a3),
      (fun v _ => v = .int .i64 m),
      (fun v _ => v = .int .i64 X12),
      (fun v _ => v = .int .i64 a4),
      (fun v _ => v = .agg #[.int .i64 (1 + a1), .int .i64 1, .int .i64 1, .int .i64 0, .string (tp3 a2), .int .i64 a3, .string ⟨#[]⟩, .int .i64 0, .int .i64 0, .int .i64 a4, .int .i64 1, .bool false]),
      (IsNew (w.heap.size + 1)),
      (fun _ _ => True)
      ] : List (Value → World → Prop)).getD i (fun _ _ => True)) (by kernel_rfl) 16 (by kernel_rfl) ?mono (Rg.by_each _ ⟨?s0, ?s1, ?s2, ?s3, ?s4, ?s5, ?s6, ?s7, ?s8, ?s9, ?s10, ?s11, ?s12, ?s13, ?s14, ?s15, ?s16, trivial⟩) ?fin
  case s0 =>
    intro _ a w' hp
    have e0 : a.eval (.tmp 0) = .int .i64 n := hp.rest 0 (by rfl)
    exact Rg.step_run (v := a.eval (.tmp 0)) (w' := w') rfl (Rg.wanted_none rfl) (by simp) rfl e0 (Below.refl _ _)
  case s1 =>
    intro _ a w' hp
    have e6 : a.eval (.tmp 6) = .int .i64 n := hp.at_ 0 (by rfl)
    refine Rg.step_call (f := 11) (args := #[.int .i64 n, .int .i64 40]) rfl (Rg.wanted_none rfl) (by simp) (by clear hp; obtain ⟨ec, eg, ef⟩ := Rg.eval_at a; generalize a.eval = ρ at *; go_simp) ?_
    refine (N1.out w').mono ?_
    rintro e w2' ⟨rfl, rfl⟩
    exact ⟨_, rfl, rfl, Below.refl _ _⟩
  case s2 =>
    intro _ a w' hp
    have e7 : a.eval (.tmp 7) = .int .i64 a1 := hp.at_ 1 (by rfl)
    have hwk : IntKind.i64.wrap (1 + a1) = 1 + a1 := wrapQ (by omega) (by omega)
    refine Rg.step_run (v := .int .i64 (1 + a1)) (w' := w') rfl (Rg.wanted_none rfl) (by simp) ?_ rfl (Below.refl _ _)
    clear hp
    obtain ⟨ec, eg, ef⟩ := Rg.eval_at a
    generalize a.eval = ρ at *
    go_simp
  case s3 =>
    intro _ a w' hp
    refine Rg.step_run (v := .slice (some ⟨w'.heap.size, 0, none⟩) 3 3) (w' := w'.alloc (.cells #[.string ⟨#[97]⟩, .string ⟨#[98]⟩, .string ⟨#[99]⟩] 9)) rfl (Rg.wanted_none rfl) (by simp) ?_ ⟨w'.heap.size, rfl, Cel.lit w' #[.string ⟨#[97]⟩, .string ⟨#[98]⟩, .string ⟨#[99]⟩] 9⟩ ((Below.refl _ _).alloc (Nat.le_refl _) _)
    clear hp
    obtain ⟨ec, eg, ef⟩ := Rg.eval_at a
    generalize a.eval = ρ at *
    go_simp
  case s4 =>
    intro _ a w' hp
    have e1 : a.eval (.tmp 1) = .int .i64 m := hp.rest 1 (by rfl)
    exact Rg.step_run (v := a.eval (.tmp 1)) (w' := w') rfl (Rg.wanted_none rfl) (by simp) rfl e1 (Below.refl _ _)
  case s5 =>
    intro _ a w' hp
    have e10 : a.eval (.tmp 10) = .int .i64 m := hp.at_ 4 (by rfl)
    refine Rg.step_call (f := 11) (args := #[.int .i64 m, .int .i64 3]) rfl (Rg.wanted_none rfl) (by simp) (by clear hp; obtain ⟨ec, eg, ef⟩ := Rg.eval_at a; generalize a.eval = ρ at *; go_simp) ?_
    refine (N2.out w').mono ?_
    rintro e w2' ⟨rfl, rfl⟩
    exact ⟨_, rfl, rfl, Below.refl _ _⟩
  case s6 =>
    intro _ a w' hp
    have e9 : (IsTri) (a.eval (.tmp 9)) w' := hp.at_ 3 (by rfl)
    have e11 : a.eval (.tmp 11) = .int .i64 a2 := hp.at_ 5 (by rfl)
    obtain ⟨g, e9, hc⟩ := e9
    have c0 := hc.cell 0 _ rfl
    have c1 := hc.cell 1 _ rfl
    have c2 := hc.cell 2 _ rfl
    refine Rg.step_run (v := .pointer (some ⟨g, a2.toNat, none⟩)) (w' := w') rfl (Rg.wanted_none rfl) (by simp) ?_ ⟨⟨g, a2.toNat, none⟩, rfl, ?_⟩ (Below.refl _ _)
    · clear hp
      obtain ⟨ec, eg, ef⟩ := Rg.eval_at a
      generalize a.eval = ρ at *
      rcases (show a2 = 0 ∨ a2 = 1 ∨ a2 = 2 by omega) with rfl | rfl | rfl <;> go_simp
    · rcases (show a2 = 0 ∨ a2 = 1 ∨ a2 = 2 by omega) with rfl | rfl | rfl
      · exact c0
      · exact c1
      · exact c2
  case s7 =>
    intro _ a w' hp
    have e12 : (IsPtr (.string (tp3 a2))) (a.eval (.tmp 12)) w' := hp.at_ 6 (by rfl)
    obtain ⟨p, e12, hc⟩ := e12
    refine Rg.step_run (v := .string (tp3 a2)) (w' := w') rfl (Rg.wanted_none rfl) (by simp) ?_ rfl (Below.refl _ _)
    clear hp
    obtain ⟨ec, eg, ef⟩ := Rg.eval_at a
    generalize a.eval = ρ at *
    go_simp
  case s8 =>
    intro _ a w' hp
    have e1 : a.eval (.tmp 1) = .int .i64 m := hp.rest 1 (by rfl)
    exact Rg.step_run (v := a.eval (.tmp 1)) (w' := w') rfl (Rg.wanted_none rfl) (by simp) rfl e1 (Below.refl _ _)
  case s9 =>
    intro _ a w' hp
    have e14 : a.eval (.tmp 14) = .int .i64 m := hp.at_ 8 (by rfl)
    refine Rg.step_run (v := .int .i64 X3) (w' := w') rfl (Rg.wanted_none rfl) (by simp) ?_ rfl (Below.refl _ _)
    clear hp
    obtain ⟨ec, eg, ef⟩ := Rg.eval_at a
    generalize a.eval = ρ at *
    go_simp
  case s10 =>
    intro _ a w' hp
    have e15 : a.eval (.tmp 15) = .int .i64 X3 := hp.at_ 9 (by rfl)
    refine Rg.step_call (f := 11) (args := #[.int .i64 X3, .int .i64 4]) rfl (Rg.wanted_none rfl) (by simp) (by clear hp; obtain ⟨ec, eg, ef⟩ := Rg.eval_at a; generalize a.eval = ρ at *; go_simp) ?_
    refine (N3.out w').mono ?_
    rintro e w2' ⟨rfl, rfl⟩
    exact ⟨_, rfl, rfl, Below.refl _ _⟩
  case s11 =>
    intro _ a w' hp
    have e1 : a.eval (.tmp 1) = .int .i64 m := hp.rest 1 (by rfl)
    exact Rg.step_run (v := a.eval (.tmp 1)) (w' := w') rfl (Rg.wanted_none rfl) (by simp) rfl e1 (Below.refl _ _)
  case s12 =>
    intro _ a w' hp
    have e17 : a.eval (.tmp 17) = .int .i64 m := hp.at_ 11 (by rfl)
    refine Rg.step_run (v := .int .i64 X12) (w' := w') rfl (Rg.wanted_none rfl) (by simp) ?_ rfl (Below.refl _ _)
    clear hp
    obtain ⟨ec, eg, ef⟩ := Rg.eval_at a
    generalize a.eval = ρ at *
    go_simp
  case s13 =>
    intro _ a w' hp
    have e18 : a.eval (.tmp 18) = .int .i64 X12 := hp.at_ 12 (by rfl)
    refine Rg.step_call (f := 11) (args := #[.int .i64 X12, .int .i64 30]) rfl (Rg.wanted_none rfl) (by simp) (by clear hp; obtain ⟨ec, eg, ef⟩ := Rg.eval_at a; generalize a.eval = ρ at *; go_simp) ?_
    refine (N4.out w').mono ?_
    rintro e w2' ⟨rfl, rfl⟩
    exact ⟨_, rfl, rfl, Below.refl _ _⟩
  case s14 =>
    intro _ a w' hp
    have e8 : a.eval (.tmp 8) = .int .i64 (1 + a1) := hp.at_ 2 (by rfl)
    have e13 : a.eval (.tmp 13) = .string (tp3 a2) := hp.at_ 7 (by rfl)
    have e16 : a.eval (.tmp 16) = .int .i64 a3 := hp.at_ 10 (by rfl)
    have e19 : a.eval (.tmp 19) = .int .i64 a4 := hp.at_ 13 (by rfl)
    refine Rg.step_run (v := .agg #[.int .i64 (1 + a1), .int .i64 1, .int .i64 1, .int .i64 0, .string (tp3 a2), .int .i64 a3, .string ⟨#[]⟩, .int .i64 0, .int .i64 0, .int .i64 a4, .int .i64 1, .bool false]) (w' := w') rfl (Rg.wanted_none rfl) (by simp) ?_ rfl (Below.refl _ _)
    clear hp
    obtain ⟨ec, eg, ef⟩ := Rg.eval_at a
    generalize a.eval = ρ at *
    go_simp
  case s15 =>
    intro _ a w' hp
    refine Rg.step_run (v := .pointer (some ⟨w'.heap.size, 0, none⟩)) (w' := w'.alloc (.cells #[.int .i64 0, .int .i64 0, .int .i64 0, .int .i64 0, .string ⟨#[]⟩, .int .i64 0, .string ⟨#[]⟩, .int .i64 0, .int .i64 0, .int .i64 0, .int .i64 0, .bool false] 38)) rfl (Rg.wanted_none rfl) (by simp) ?_ ⟨w'.heap.size, rfl, by have := hp.grew.size; have h2 : wa.drew.heap.size = wa.heap.size := rfl; omega, Cel.lit w' #[.int .i64 0, .int .i64 0, .int .i64 0, .int .i64 0, .string ⟨#[]⟩, .int .i64 0, .string ⟨#[]⟩, .int .i64 0, .int .i64 0, .int .i64 0, .int .i64 0, .bool false] 38⟩ ((Below.refl _ _).alloc (Nat.le_refl _) _)
    clear hp
    obtain ⟨ec, eg, ef⟩ := Rg.eval_at a
    generalize a.eval = ρ at *
    go_simp
  case s16 => exact fun h => absurd rfl h
  case mono =>
    refine Rg.mono_getD _ ?_
    intro p hp
    repeat (rcases List.mem_cons.1 hp with rfl | hp; first | exact Rg.mono_eq _ | exact IsTri.mono | exact IsPtr.mono _ | exact IsNew.mono _ | exact mono_true)
    cases hp
  case fin =>
    intro a w3 hsz hdf hrest hdone hb3
    have hv : a.tmps.getD 20 undef = .agg #[.int .i64 (1 + a1), .int .i64 1, .int .i64 1, .int .i64 0, .string (tp3 a2), .int .i64 a3, .string ⟨#[]⟩, .int .i64 0, .int .i64 0, .int .i64 a4, .int .i64 1, .bool false] := hdone 14 (by decide)
    obtain ⟨g, hg, hg2, hcg⟩ : IsNew (w.heap.size + 1) (a.tmps.getD 5 undef) w3 := hdone 15 (by decide)
    have ha := Rg.act_puts hsz hdf hrest [5, 6, 7, 8, 9, 10, 11, 12, 13, 14, 15, 16, 17, 18, 19, 20] (by kernel_rfl)
    simp only [List.foldl_cons, List.foldl_nil, Act.put, List.setIfInBounds_toArray, List.set_cons_zero, List.set_cons_succ] at ha
    rw [hv, hg] at ha
    clear hsz hdf hrest hdone hv hg
    rw [ha]
    clear ha
    generalize a.tmps.getD 6 undef = y6
    generalize a.tmps.getD 7 undef = y7
    generalize a.tmps.getD 8 undef = y8
    generalize a.tmps.getD 9 undef = y9
    generalize a.tmps.getD 10 undef = y10
    generalize a.tmps.getD 11 undef = y11
    generalize a.tmps.getD 12 undef = y12
    generalize a.tmps.getD 13 undef = y13
    generalize a.tmps.getD 14 undef = y14
    generalize a.tmps.getD 15 undef = y15
    generalize a.tmps.getD 16 undef = y16
    generalize a.tmps.getD 17 undef = y17
    generalize a.tmps.getD 18 undef = y18
    generalize a.tmps.getD 19 undef = y19
    refine wpOp_store_task (x := x0) (g := g) (by rfl) rfl rfl (.tmp 5) (.tmp 20) rfl rfl (by rw [HX0.out]; rfl) hcg ?_
    have HX := Lib.hid (Ls.dzn_cel hcg x0)
    have HD4 := Lib.hid ((HD.out.below hb3 (Nat.le_refl _)).kept (Ls.dzn_grown w3 g x0) (fun e => by have := Option.some.inj e; omega))
    have HB4 := Lib.hid (Ls.dzn_below (HB.out.trans (hb3.mono HB.out.size)) (z := g) (by omega) x0)
    have hgp : ¬ g = w.heap.size := by omega
    have hgl := (Ls.dzn_cel hcg x0).lt
    clear hcg hb3 HB HD N1 N2 N3 N4 d1 d2
    generalize Ls.dzn w3 g x0 = w4 at *
    clear hws
    have hs5 : IntKind.i64.wrap (1 + a5) = 1 + a5 := wrapQ (by omega) (by omega)
    have hs6 : IntKind.i64.wrap (1 + a6) = 1 + a6 := wrapQ (by omega) (by omega)
    have HGW : Hid (w.heap.size ≤ g) := Lib.hid (Nat.le_of_succ_le hg2)
    clear hg2 HX0
    by_cases hc1 : V1 = 1024
    · by_cases hc2 : V2 = 2048
      · have hxr := HXR.out
        rw [if_pos hc2, if_pos hc1] at hxr
        obtain ⟨⟨c0, c1, c2, c3, c4, c5, c6, c7, c8, c9, c10, c11⟩, f0, f1, f2, f3, f4, f5, f6, f7, f8, f9, f10, f11⟩ := Ls.dz_facts HX.out
        go_wp2_with fail
        refine (N5.out _).mono ?_
        rintro e w5 ⟨rfl, rfl⟩
        go_wp2_with fail
        refine (N6.out _).mono ?_
        rintro e w6 ⟨rfl, rfl⟩
        go_upto_region 9 with (fail)
        obtain ⟨xz, hxz⟩ : ∃ xz : T, xz = { { x0 with wkr := ⟨#[119]⟩, epo := 1 + a5, exp := 1 + a6 } with ret := 0, bro := true } := ⟨_, rfl⟩
        rw [← hxz] at hxr
        have HE := Lib.hid hxr
        clear hxr HXR
        have HC5 : Hid (Cel (((((w4.setCell ⟨g, 6, none⟩ (.string ⟨#[119]⟩)).setCell ⟨g, 7, none⟩ (.int .i64 (1 + a5))).setCell ⟨g, 8, none⟩ (.int .i64 (1 + a6))).setCell ⟨g, 10, none⟩ (.int .i64 0)).setCell ⟨g, 11, none⟩ (.bool true)) g xz.cells) := Lib.hid (by rw [hxz]; exact (((((HX.out.set (i := 6) (by simp [T.cells]) (.string ⟨#[119]⟩)).set (i := 7) (by simp [T.cells]) (.int .i64 (1 + a5))).set (i := 8) (by simp [T.cells]) (.int .i64 (1 + a6))).set (i := 10) (by simp [T.cells]) (.int .i64 0)).set (i := 11) (by simp [T.cells]) (.bool true)))
        have HD5 := Lib.hid (HD4.out.kept (set_grown (set_grown (set_grown (set_grown (set_grown (World.grownBy.refl w4 (some g)) 6 (.string ⟨#[119]⟩)) 7 (.int .i64 (1 + a5))) 8 (.int .i64 (1 + a6))) 10 (.int .i64 0)) 11 (.bool true)) (fun e => hgp (Option.some.inj e)))
        have HB5 := Lib.hid ((((((HB4.out.setCell (p := ⟨g, 6, none⟩) HGW.out (.string ⟨#[119]⟩)).setCell (p := ⟨g, 7, none⟩) HGW.out (.int .i64 (1 + a5))).setCell (p := ⟨g, 8, none⟩) HGW.out (.int .i64 (1 + a6))).setCell (p := ⟨g, 10, none⟩) HGW.out (.int .i64 0)).setCell (p := ⟨g, 11, none⟩) HGW.out (.bool true)))
        clear c0 c1 c2 c3 c4 c5 c6 c7 c8 c9 c10 c11 f0 f1 f2 f3 f4 f5 f6 f7 f8 f9 f10 f11 HX HD4 HB4 hxz
        generalize (((((w4.setCell ⟨g, 6, none⟩ (.string ⟨#[119]⟩)).setCell ⟨g, 7, none⟩ (.int .i64 (1 + a5))).setCell ⟨g, 8, none⟩ (.int .i64 (1 + a6))).setCell ⟨g, 10, none⟩ (.int .i64 0)).setCell ⟨g, 11, none⟩ (.bool true)) = wz at *
        obtain ⟨⟨c0, c1, c2, c3, c4, c5, c6, c7, c8, c9, c10, c11⟩, _⟩ := Ls.dz_facts HC5.out
        obtain ⟨⟨d0, dd1, dd2, dd3, dd4, d5, d6, d7, d8, d9, d10, d11⟩, f0, f1, f2, f3, f4, f5, f6, f7, f8, f9, f10, f11⟩ := Ls.dz_facts HD5.out
        go_wp2
        have HK := Ls.dzn_cel HD5.out xz
        have HBK := Ls.dzn_below HB5.out (z := w.heap.size) (Nat.le_refl _) xz
        change bodyPost _ _ _ _ _ (Ls.dzn wz w.heap.size xz)
        generalize Ls.dzn wz w.heap.size xz = wy at *
        obtain ⟨⟨k0, k1, k2, k3, k4, k5, k6, k7, k8, k9, k10, k11⟩, _⟩ := Ls.dz_facts HK
        exact bodyPost_ret (v := xz.val) (by simp [results, Try.results9, go_sem, k0, k1, k2, k3, k4, k5, k6, k7, k8, k9, k10, k11, T.val]) rfl ⟨by rw [HE.out], HBK⟩
      · have hxr := HXR.out
        rw [if_neg hc2, if_pos hc1] at hxr
        have hb2 : (V2 == 2048) = false := beq_eq_false_iff_ne.2 hc2
        obtain ⟨⟨c0, c1, c2, c3, c4, c5, c6, c7, c8, c9, c10, c11⟩, f0, f1, f2, f3, f4, f5, f6, f7, f8, f9, f10, f11⟩ := Ls.dz_facts HX.out
        go_wp2_with fail
        refine (N5.out _).mono ?_
        rintro e w5 ⟨rfl, rfl⟩
        go_wp2_with fail
        refine (N6.out _).mono ?_
        rintro e w6 ⟨rfl, rfl⟩
        go_upto_region 9 with (fail)
        obtain ⟨xz, hxz⟩ : ∃ xz : T, xz = { x0 with wkr := ⟨#[119]⟩, epo := 1 + a5, exp := 1 + a6 } := ⟨_, rfl⟩
        rw [← hxz] at hxr
        have HE := Lib.hid hxr
        clear hxr HXR
        have HC5 : Hid (Cel (((w4.setCell ⟨g, 6, none⟩ (.string ⟨#[119]⟩)).setCell ⟨g, 7, none⟩ (.int .i64 (1 + a5))).setCell ⟨g, 8, none⟩ (.int .i64 (1 + a6))) g xz.cells) := Lib.hid (by rw [hxz]; exact (((HX.out.set (i := 6) (by simp [T.cells]) (.string ⟨#[119]⟩)).set (i := 7) (by simp [T.cells]) (.int .i64 (1 + a5))).set (i := 8) (by simp [T.cells]) (.int .i64 (1 + a6))))
        have HD5 := Lib.hid (HD4.out.kept (set_grown (set_grown (set_grown (World.grownBy.refl w4 (some g)) 6 (.string ⟨#[119]⟩)) 7 (.int .i64 (1 + a5))) 8 (.int .i64 (1 + a6))) (fun e => hgp (Option.some.inj e)))
        have HB5 := Lib.hid ((((HB4.out.setCell (p := ⟨g, 6, none⟩) HGW.out (.string ⟨#[119]⟩)).setCell (p := ⟨g, 7, none⟩) HGW.out (.int .i64 (1 + a5))).setCell (p := ⟨g, 8, none⟩) HGW.out (.int .i64 (1 + a6))))
        clear c0 c1 c2 c3 c4 c5 c6 c7 c8 c9 c10 c11 f0 f1 f2 f3 f4 f5 f6 f7 f8 f9 f10 f11 HX HD4 HB4 hxz
        generalize (((w4.setCell ⟨g, 6, none⟩ (.string ⟨#[119]⟩)).setCell ⟨g, 7, none⟩ (.int .i64 (1 + a5))).setCell ⟨g, 8, none⟩ (.int .i64 (1 + a6))) = wz at *
        obtain ⟨⟨c0, c1, c2, c3, c4, c5, c6, c7, c8, c9, c10, c11⟩, _⟩ := Ls.dz_facts HC5.out
        obtain ⟨⟨d0, dd1, dd2, dd3, dd4, d5, d6, d7, d8, d9, d10, d11⟩, f0, f1, f2, f3, f4, f5, f6, f7, f8, f9, f10, f11⟩ := Ls.dz_facts HD5.out
        go_wp2
        have HK := Ls.dzn_cel HD5.out xz
        have HBK := Ls.dzn_below HB5.out (z := w.heap.size) (Nat.le_refl _) xz
        change bodyPost _ _ _ _ _ (Ls.dzn wz w.heap.size xz)
        generalize Ls.dzn wz w.heap.size xz = wy at *
        obtain ⟨⟨k0, k1, k2, k3, k4, k5, k6, k7, k8, k9, k10, k11⟩, _⟩ := Ls.dz_facts HK
        exact bodyPost_ret (v := xz.val) (by simp [results, Try.results9, go_sem, k0, k1, k2, k3, k4, k5, k6, k7, k8, k9, k10, k11, T.val]) rfl ⟨by rw [HE.out], HBK⟩
    · have hb1 : (V1 == 1024) = false := beq_eq_false_iff_ne.2 hc1
      by_cases hc2 : V2 = 2048
      · have hxr := HXR.out
        rw [if_pos hc2, if_neg hc1] at hxr
        obtain ⟨⟨c0, c1, c2, c3, c4, c5, c6, c7, c8, c9, c10, c11⟩, f0, f1, f2, f3, f4, f5, f6, f7, f8, f9, f10, f11⟩ := Ls.dz_facts HX.out
        go_upto_region 9 with (fail)
        obtain ⟨xz, hxz⟩ : ∃ xz : T, xz = { x0 with ret := 0, bro := true } := ⟨_, rfl⟩
        rw [← hxz] at hxr
        have HE := Lib.hid hxr
        clear hxr HXR
        have HC5 : Hid (Cel ((w4.setCell ⟨g, 10, none⟩ (.int .i64 0)).setCell ⟨g, 11, none⟩ (.bool true)) g xz.cells) := Lib.hid (by rw [hxz]; exact ((HX.out.set (i := 10) (by simp [T.cells]) (.int .i64 0)).set (i := 11) (by simp [T.cells]) (.bool true)))
        have HD5 := Lib.hid (HD4.out.kept (set_grown (set_grown (World.grownBy.refl w4 (some g)) 10 (.int .i64 0)) 11 (.bool true)) (fun e => hgp (Option.some.inj e)))
        have HB5 := Lib.hid (((HB4.out.setCell (p := ⟨g, 10, none⟩) HGW.out (.int .i64 0)).setCell (p := ⟨g, 11, none⟩) HGW.out (.bool true)))
        clear c0 c1 c2 c3 c4 c5 c6 c7 c8 c9 c10 c11 f0 f1 f2 f3 f4 f5 f6 f7 f8 f9 f10 f11 HX HD4 HB4 hxz
        generalize ((w4.setCell ⟨g, 10, none⟩ (.int .i64 0)).setCell ⟨g, 11, none⟩ (.bool true)) = wz at *
        obtain ⟨⟨c0, c1, c2, c3, c4, c5, c6, c7, c8, c9, c10, c11⟩, _⟩ := Ls.dz_facts HC5.out
        obtain ⟨⟨d0, dd1, dd2, dd3, dd4, d5, d6, d7, d8, d9, d10, d11⟩, f0, f1, f2, f3, f4, f5, f6, f7, f8, f9, f10, f11⟩ := Ls.dz_facts HD5.out
        go_wp2
        have HK := Ls.dzn_cel HD5.out xz
        have HBK := Ls.dzn_below HB5.out (z := w.heap.size) (Nat.le_refl _) xz
        change bodyPost _ _ _ _ _ (Ls.dzn wz w.heap.size xz)
        generalize Ls.dzn wz w.heap.size xz = wy at *
        obtain ⟨⟨k0, k1, k2, k3, k4, k5, k6, k7, k8, k9, k10, k11⟩, _⟩ := Ls.dz_facts HK
        exact bodyPost_ret (v := xz.val) (by simp [results, Try.results9, go_sem, k0, k1, k2, k3, k4, k5, k6, k7, k8, k9, k10, k11, T.val]) rfl ⟨by rw [HE.out], HBK⟩
      · have hxr := HXR.out
        rw [if_neg hc2, if_neg hc1] at hxr
        have hb2 : (V2 == 2048) = false := beq_eq_false_iff_ne.2 hc2
        obtain ⟨⟨c0, c1, c2, c3, c4, c5, c6, c7, c8, c9, c10, c11⟩, f0, f1, f2, f3, f4, f5, f6, f7, f8, f9, f10, f11⟩ := Ls.dz_facts HX.out
        go_upto_region 9 with (fail)
        obtain ⟨xz, hxz⟩ : ∃ xz : T, xz = x0 := ⟨_, rfl⟩
        rw [← hxz] at hxr
        have HE := Lib.hid hxr
        clear hxr HXR
        have HC5 : Hid (Cel w4 g xz.cells) := Lib.hid (by rw [hxz]; exact HX.out)
        have HD5 := HD4
        have HB5 := HB4
        clear c0 c1 c2 c3 c4 c5 c6 c7 c8 c9 c10 c11 f0 f1 f2 f3 f4 f5 f6 f7 f8 f9 f10 f11 HX HD4 HB4 hxz
        generalize w4 = wz at *
        obtain ⟨⟨c0, c1, c2, c3, c4, c5, c6, c7, c8, c9, c10, c11⟩, _⟩ := Ls.dz_facts HC5.out
        obtain ⟨⟨d0, dd1, dd2, dd3, dd4, d5, d6, d7, d8, d9, d10, d11⟩, f0, f1, f2, f3, f4, f5, f6, f7, f8, f9, f10, f11⟩ := Ls.dz_facts HD5.out
        go_wp2
        have HK := Ls.dzn_cel HD5.out xz
        have HBK := Ls.dzn_below HB5.out (z := w.heap.size) (Nat.le_refl _) xz
        change bodyPost _ _ _ _ _ (Ls.dzn wz w.heap.size xz)
        generalize Ls.dzn wz w.heap.size xz = wy at *
        obtain ⟨⟨k0, k1, k2, k3, k4, k5, k6, k7, k8, k9, k10, k11⟩, _⟩ := Ls.dz_facts HK
        exact bodyPost_ret (v := xz.val) (by simp [results, Try.results9, go_sem, k0, k1, k2, k3, k4, k5, k6, k7, k8, k9, k10, k11, T.val]) rfl ⟨by rw [HE.out], HBK⟩
end Qu
end Go.Proofs.Ytglmhpmiphkjlaa
