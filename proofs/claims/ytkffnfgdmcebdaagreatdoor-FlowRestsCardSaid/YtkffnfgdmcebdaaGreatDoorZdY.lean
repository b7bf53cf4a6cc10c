/- Package token: the place of the token of the least ID of those that are meant. -/
import Derived.Test.YtkffnfgdmcebdaaGreatDoorYJoint24
import Derived.Test.YtkffnfgdmcebdaaGreatDoorYJoint10
import Derived.Deep.RegionHeld3
import Derived.Deep.RegionWith
import Derived.Deep.CutRange
namespace Go.Proofs.YtkffnfgdmcebdaaGreatDoor
open Go.RowKit

namespace Pr
set_option maxHeartbeats 3200000 in
theorem least_any (g : Nat) (lb : Array Value) (q : Tk → Bool) (x : BdV) (b : Bd) (w : World) (eg : ∀ args w, (callFunc g args).run Tryz.prog w = .ok (.enter g args) w) (hx : BdIn w w.heap.size x b) (ha : Asc b.toks) (hn : b.toks.length ≤ 100000)
    (hp : ∀ (W : World) (t : Tk), Below w.heap.size w W → Calls Tryz.prog g (#[t.val] ++ lb) W fun e w' => e = .returned (.bool (q t)) ∧ Below W.heap.size W w') :
    Calls Tryz.prog 88 #[x.val, .func (.func g) #[] lb] w fun e w' => e = .returned (.int .i64 (fst q b.toks)) ∧ Below w.heap.size w w' := by
  have et := hx.ht
  have ht := hx.toks
  obtain ⟨s, A, n, c, F, m, d, V, nv, cv, T, nt, ct, k⟩ := x
  dsimp only at et ht
  subst et
  have HT := Lib.hid ht
  have HA := Lib.hid ha
  have HP := Lib.hid hp
  have HC := Lib.hid (Cel.lit w #[.string s, .slice A n c, .slice F m d, .slice V nv cv, .slice T b.toks.length ct, .int .i64 k] 38)
  have HB := Lib.hid ((Below.refl w.heap.size w).alloc (Nat.le_refl _) (.cells #[.string s, .slice A n c, .slice F m d, .slice V nv cv, .slice T b.toks.length ct, .int .i64 k] 38))
  clear hx ha hp ht
  unfold BdV.val
  dsimp only
  generalize b.toks = l at *
  go_enter Tryz.func88, Tryz.ntmps88
  go_upto_region 2 with (fail)
  generalize w.alloc _ = wa at *
  obtain ⟨⟨z0, z1, z2, z3, z4, z5⟩, _⟩ := six_facts HC.out
  go_wp2_with fail
  clear z0 z1 z2 z3 z4 z5
  go_loopw [5, 11] (fun at_ i wr => ∃ j : Nat, j ≤ l.length ∧ i = .int .i64 j ∧ at_ = .int .i64 (fst q (l.take j)) ∧ Below wa.heap.size wa wr) (fun _ i _ => l.length - (intOf i).toNat)
  case atStart => exact ⟨0, Nat.zero_le _, rfl, rfl, Below.refl _ _⟩
  case round =>
    obtain ⟨j, hj, rfl, rfl, hbr⟩ := hrel
    have hj0 : (0 : Int) ≤ (j : Int) := by omega
    by_cases hlt : j < l.length
    · have hI : (j : Int) < (l.length : Int) := by omega
      have HBR := Lib.hid hbr
      have hT := (HT.out.below (HB.out.trans (hbr.mono HB.out.size)) (Nat.le_refl _))
      obtain ⟨b0, off, rfl, _, _⟩ := hT.2 (by omega)
      obtain ⟨t0, t1, t2, t3⟩ := tk_at hT hlt
      have hfl := fst_le q (l.take j)
      have hfs := fst_take (q := q) hlt
      have HFS := Lib.hid hfs
      have HAS := Lib.hid (fun k h => fst_asc (q := q) HA.out hlt (k := k) h)
      rw [List.length_take] at hfl
      have hba : Below wr.heap.size wr (wr.alloc (.cells #[.int .i64 l[j]!.id, .int .i64 l[j]!.node, .int .i64 l[j]!.inn, .bool l[j]!.stuck] 35)) := (Below.refl _ _).alloc (Nat.le_refl _) _
      have HCt := Lib.hid (HC.out.below (hbr.trans (hba.mono hbr.size)) (Nat.le_refl _))
      have HTt := Lib.hid ((HT.out.below (HB.out.trans ((hbr.trans (hba.mono hbr.size)).mono HB.out.size)) (Nat.le_refl _)))
      have HBt := Lib.hid (HB.out.trans ((hbr.trans (hba.mono hbr.size)).mono HB.out.size))
      have HBr := Lib.hid (hbr.trans (hba.mono hbr.size))
      have HVt := Lib.hid (Cel.lit wr #[.int .i64 l[j]!.id, .int .i64 l[j]!.node, .int .i64 l[j]!.inn, .bool l[j]!.stuck] 35)
      clear hfs hba hbr HBR
      have hwj : IntKind.i64.wrap ((j : Int) + 1) = (j : Int) + 1 := by rw [IntKind.wrap_i64]; omega
      generalize htk : l[j]! = tk at *
      go_upto_region 5 with (fail)
      generalize wr.alloc _ = wt at *
      clear t0 t1 t2 t3
      obtain ⟨t0, t1, t2, t3⟩ := qd_facts HVt.out
      obtain ⟨r0, r1, r2, r3⟩ := qd_facts (HVt.out.below ((Below.refl wt.heap.size wt).drew) (Nat.le_refl _))
      have HCALL := Lib.hid (HP.out wt.drew tk HBt.out.drew)
      cases hq : q tk with
      | false =>
        rw [hq] at HCALL
        unfold Tk.val at HCALL
        have HQ := Lib.hid hq
        clear hq HAS hfl
        generalize fst q (l.take j) = y at *
        go_cut [33] from 16 to 33 (fun s wx => s = .bool false ∧ Below wt.heap.size wt wx)
        case first =>
          refine Rg.region_each (by kernel_rfl) (fun i => ([
              (fun v _ => v = .func (.func g) #[] lb),
              (fun v _ => v = .agg #[.int .i64 tk.id, .int .i64 tk.node, .int .i64 tk.inn, .bool tk.stuck]),
              (fun v _ => v = .bool false),
              (fun v _ => v = .bool false),
              (fun v _ => v = undef),
              (fun v _ => v = undef),
              (fun v _ => v = undef),
              (fun v _ => v = undef),
              (fun v _ => v = undef),
              (fun v _ => v = undef),
              (fun v _ => v = undef),
              (fun v _ => v = undef),
              (fun v _ => v = undef),
              (fun v _ => v = undef),
              (fun v _ => v = undef),
              (fun v _ => v = undef),
              (fun v _ => v = undef),
              (fun v _ => v = .bool false)
              ] : List (Value → World → Prop)).getD i (fun _ _ => True)) (by kernel_rfl) ?mono (Rg.by_each _ ⟨?s0, ?s1, ?s2, ?s3, ?s4, ?s5, ?s6, ?s7, ?s8, ?s9, ?s10, ?s11, ?s12, ?s13, ?s14, ?s15, ?s16, ?s17, trivial⟩) ?fin
          case s0 =>
            intro a w' hp
            have e1 : a.eval (.tmp 1) = .func (.func g) #[] lb := hp.rest 1 (by rfl)
            exact Rg.step_run (v := a.eval (.tmp 1)) (w' := w') rfl (Rg.wanted_none rfl) (by simp) rfl e1 (Below.refl _ _)
          case s1 =>
            intro a w' hp
            have e7 : a.eval (.tmp 7) = .pointer (some ⟨wr.heap.size, 0, none⟩) := hp.rest 7 (by rfl)
            have hg : Below wt.heap.size wt w' := (Below.refl wt.heap.size wt).drew.trans hp.grew
            obtain ⟨t0, t1, t2, t3⟩ := qd_facts (HVt.out.below hg (Nat.le_refl _))
            refine Rg.step_run (v := .agg #[.int .i64 tk.id, .int .i64 tk.node, .int .i64 tk.inn, .bool tk.stuck]) (w' := w') rfl (Rg.wanted_none rfl) (by simp) ?_ rfl (Below.refl _ _)
            clear hp hg
            obtain ⟨ec, eg2, ef⟩ := Rg.eval_at a
            generalize a.eval = ρ at *
            go_simp
          case s2 =>
            intro a w' hp
            have e16 : a.eval (.tmp 16) = .func (.func g) #[] lb := hp.at_ 0 (by rfl)
            have e17 : a.eval (.tmp 17) = .agg #[.int .i64 tk.id, .int .i64 tk.node, .int .i64 tk.inn, .bool tk.stuck] := hp.at_ 1 (by rfl)
            have hg : Below wt.heap.size wt w' := (Below.refl wt.heap.size wt).drew.trans hp.grew
            have hC := HP.out w' tk (HBt.out.trans (hg.mono HBt.out.size))
            unfold Tk.val at hC
            refine Rg.step_call (f := g) (args := #[.agg #[.int .i64 tk.id, .int .i64 tk.node, .int .i64 tk.inn, .bool tk.stuck]] ++ lb) rfl (Rg.wanted_none rfl) (by simp) (by clear hp hg hC; obtain ⟨ec, eg2, ef⟩ := Rg.eval_at a; generalize a.eval = ρ at *; go_simp) ?_
            refine hC.mono ?_
            rintro e w2 ⟨rfl, hb2⟩
            exact ⟨_, rfl, congrArg Value.bool HQ.out, hb2⟩
          case s3 =>
            intro a w' hp
            have e18 : a.eval (.tmp 18) = .bool false := hp.at_ 2 (by rfl)
            exact Rg.step_run (v := a.eval (.tmp 18)) (w' := w') rfl (Rg.wanted_none rfl) (by simp) rfl e18 (Below.refl _ _)
          case s4 =>
            intro a w' hp
            have e5 : a.eval (.tmp 5) = .int .i64 y := hp.rest 5 (by rfl)
            exact Rg.step_skip rfl (Rg.wanted_not rfl (by rfl) (hp.at_ 3 (by rfl))) rfl
          case s5 =>
            intro a w' hp
            have e20 : a.eval (.tmp 20) = undef := hp.at_ 4 (by rfl)
            exact Rg.step_skip rfl (Rg.wanted_not rfl (by rfl) (hp.at_ 3 (by rfl))) rfl
          case s6 =>
            intro a w' hp
            have e21 : a.eval (.tmp 21) = undef := hp.at_ 5 (by rfl)
            exact Rg.step_skip rfl (Rg.wanted_not rfl (by rfl) (hp.at_ 3 (by rfl))) rfl
          case s7 =>
            intro a w' hp
            have e7 : a.eval (.tmp 7) = .pointer (some ⟨wr.heap.size, 0, none⟩) := hp.rest 7 (by rfl)
            exact Rg.step_skip rfl (Rg.wanted_undef rfl (by rfl) (hp.at_ 6 (by rfl))) rfl
          case s8 =>
            intro a w' hp
            have e23 : a.eval (.tmp 23) = undef := hp.at_ 7 (by rfl)
            exact Rg.step_skip rfl (Rg.wanted_undef rfl (by rfl) (hp.at_ 6 (by rfl))) rfl
          case s9 =>
            intro a w' hp
            have e2 : a.eval (.tmp 2) = .pointer (some ⟨w.heap.size, 0, none⟩) := hp.rest 2 (by rfl)
            exact Rg.step_skip rfl (Rg.wanted_undef rfl (by rfl) (hp.at_ 6 (by rfl))) rfl
          case s10 =>
            intro a w' hp
            have e25 : a.eval (.tmp 25) = undef := hp.at_ 9 (by rfl)
            exact Rg.step_skip rfl (Rg.wanted_undef rfl (by rfl) (hp.at_ 6 (by rfl))) rfl
          case s11 =>
            intro a w' hp
            have e5 : a.eval (.tmp 5) = .int .i64 y := hp.rest 5 (by rfl)
            exact Rg.step_skip rfl (Rg.wanted_undef rfl (by rfl) (hp.at_ 6 (by rfl))) rfl
          case s12 =>
            intro a w' hp
            have e26 : a.eval (.tmp 26) = undef := hp.at_ 10 (by rfl)
            have e27 : a.eval (.tmp 27) = undef := hp.at_ 11 (by rfl)
            exact Rg.step_skip rfl (Rg.wanted_undef rfl (by rfl) (hp.at_ 6 (by rfl))) rfl
          case s13 =>
            intro a w' hp
            have e28 : a.eval (.tmp 28) = undef := hp.at_ 12 (by rfl)
            exact Rg.step_skip rfl (Rg.wanted_undef rfl (by rfl) (hp.at_ 6 (by rfl))) rfl
          case s14 =>
            intro a w' hp
            have e29 : a.eval (.tmp 29) = undef := hp.at_ 13 (by rfl)
            exact Rg.step_skip rfl (Rg.wanted_undef rfl (by rfl) (hp.at_ 6 (by rfl))) rfl
          case s15 =>
            intro a w' hp
            have e24 : a.eval (.tmp 24) = undef := hp.at_ 8 (by rfl)
            have e30 : a.eval (.tmp 30) = undef := hp.at_ 14 (by rfl)
            exact Rg.step_skip rfl (Rg.wanted_undef rfl (by rfl) (hp.at_ 6 (by rfl))) rfl
          case s16 =>
            intro a w' hp
            have e22 : a.eval (.tmp 22) = undef := hp.at_ 6 (by rfl)
            have e31 : a.eval (.tmp 31) = undef := hp.at_ 15 (by rfl)
            exact Rg.step_skip rfl (Rg.wanted_not rfl (by rfl) (hp.at_ 3 (by rfl))) rfl
          case s17 =>
            intro a w' hp
            have e19 : a.eval (.tmp 19) = .bool false := hp.at_ 3 (by rfl)
            have e32 : a.eval (.tmp 32) = undef := hp.at_ 16 (by rfl)
            refine Rg.step_run (v := .bool false) (w' := w') rfl (Rg.wanted_none rfl) (by simp) ?_ rfl (Below.refl _ _)
            clear hp
            obtain ⟨ec, eg, ef⟩ := Rg.eval_at a
            generalize a.eval = ρ at *
            go_simp
          case mono =>
            refine Rg.mono_getD _ ?_
            intro p hp
            repeat (rcases List.mem_cons.1 hp with rfl | hp; exact Rg.mono_eq _)
            cases hp
          case fin =>
            intro a w' hsz hdf hrest hdone hb
            have hv : a.tmps.getD 33 undef = .bool false := hdone 17 (by decide)
            have ha := Rg.act_puts hsz hdf hrest [16, 17, 18, 19, 20, 21, 22, 23, 24, 25, 26, 27, 28, 29, 30, 31, 32, 33] (by kernel_rfl)
            simp only [List.foldl_cons, List.foldl_nil, Act.put, List.setIfInBounds_toArray, List.set_cons_zero, List.set_cons_succ] at ha
            rw [hv] at ha
            clear hsz hdf hrest hdone hv
            rw [ha]
            clear ha
            go_wp2
            go_meet
            exact ⟨rfl, hb⟩
        case rest =>
          obtain ⟨rfl, hbx⟩ := hcut
          have HBx := Lib.hid (HBr.out.trans (hbx.mono HBr.out.size))
          clear hbx
          go_wp2
          go_roundw
          case measure => simp [intOf]; omega
          case rel => exact ⟨j + 1, by omega, by go_num, by rw [HFS.out]; rw [if_neg (by rw [HQ.out]; simp)], HBx.out⟩
      | true =>
        rw [hq] at HCALL
        have HQ := Lib.hid hq
        clear hq
        by_cases hm : fst q (l.take j) = -1
        · have HM := Lib.hid hm
          rw [hm]
          clear hm HAS hfl
          go_cut [33] from 16 to 33 (fun s wx => s = .bool true ∧ Below wt.heap.size wt wx)
          case first =>
            refine Rg.region_each (by kernel_rfl) (fun i => ([
                (fun v _ => v = .func (.func g) #[] lb),
                (fun v _ => v = .agg #[.int .i64 tk.id, .int .i64 tk.node, .int .i64 tk.inn, .bool tk.stuck]),
                (fun v _ => v = .bool true),
                (fun v _ => v = .bool true),
                (fun v _ => v = .int .i64 (-1)),
                (fun v _ => v = .bool true),
                (fun v _ => v = .bool true),
                (fun v _ => v = undef),
                (fun v _ => v = undef),
                (fun v _ => v = undef),
                (fun v _ => v = undef),
                (fun v _ => v = undef),
                (fun v _ => v = undef),
                (fun v _ => v = undef),
                (fun v _ => v = undef),
                (fun v _ => v = undef),
                (fun v _ => v = .bool true),
                (fun v _ => v = .bool true)
                ] : List (Value → World → Prop)).getD i (fun _ _ => True)) (by kernel_rfl) ?mono (Rg.by_each _ ⟨?s0, ?s1, ?s2, ?s3, ?s4, ?s5, ?s6, ?s7, ?s8, ?s9, ?s10, ?s11, ?s12, ?s13, ?s14, ?s15, ?s16, ?s17, trivial⟩) ?fin
            case s0 =>
              intro a w' hp
              have e1 : a.eval (.tmp 1) = .func (.func g) #[] lb := hp.rest 1 (by rfl)
              exact Rg.step_run (v := a.eval (.tmp 1)) (w' := w') rfl (Rg.wanted_none rfl) (by simp) rfl e1 (Below.refl _ _)
            case s1 =>
              intro a w' hp
              have e7 : a.eval (.tmp 7) = .pointer (some ⟨wr.heap.size, 0, none⟩) := hp.rest 7 (by rfl)
              have hg : Below wt.heap.size wt w' := (Below.refl wt.heap.size wt).drew.trans hp.grew
              obtain ⟨t0, t1, t2, t3⟩ := qd_facts (HVt.out.below hg (Nat.le_refl _))
              refine Rg.step_run (v := .agg #[.int .i64 tk.id, .int .i64 tk.node, .int .i64 tk.inn, .bool tk.stuck]) (w' := w') rfl (Rg.wanted_none rfl) (by simp) ?_ rfl (Below.refl _ _)
              clear hp hg
              obtain ⟨ec, eg2, ef⟩ := Rg.eval_at a
              generalize a.eval = ρ at *
              go_simp
            case s2 =>
              intro a w' hp
              have e16 : a.eval (.tmp 16) = .func (.func g) #[] lb := hp.at_ 0 (by rfl)
              have e17 : a.eval (.tmp 17) = .agg #[.int .i64 tk.id, .int .i64 tk.node, .int .i64 tk.inn, .bool tk.stuck] := hp.at_ 1 (by rfl)
              have hg : Below wt.heap.size wt w' := (Below.refl wt.heap.size wt).drew.trans hp.grew
              have hC := HP.out w' tk (HBt.out.trans (hg.mono HBt.out.size))
              unfold Tk.val at hC
              refine Rg.step_call (f := g) (args := #[.agg #[.int .i64 tk.id, .int .i64 tk.node, .int .i64 tk.inn, .bool tk.stuck]] ++ lb) rfl (Rg.wanted_none rfl) (by simp) (by clear hp hg hC; obtain ⟨ec, eg2, ef⟩ := Rg.eval_at a; generalize a.eval = ρ at *; go_simp) ?_
              refine hC.mono ?_
              rintro e w2 ⟨rfl, hb2⟩
              exact ⟨_, rfl, congrArg Value.bool HQ.out, hb2⟩
            case s3 =>
              intro a w' hp
              have e18 : a.eval (.tmp 18) = .bool true := hp.at_ 2 (by rfl)
              exact Rg.step_run (v := a.eval (.tmp 18)) (w' := w') rfl (Rg.wanted_none rfl) (by simp) rfl e18 (Below.refl _ _)
            case s4 =>
              intro a w' hp
              have e5 : a.eval (.tmp 5) = .int .i64 (-1) := hp.rest 5 (by rfl)
              exact Rg.step_run (v := a.eval (.tmp 5)) (w' := w') rfl (Rg.wanted_some (g := 3) (b := true) (d := 19) rfl (by rfl) (hp.at_ 3 (by rfl))) (by simp) rfl e5 (Below.refl _ _)
            case s5 =>
              intro a w' hp
              have e20 : a.eval (.tmp 20) = .int .i64 (-1) := hp.at_ 4 (by rfl)
              refine Rg.step_run (v := .bool true) (w' := w') rfl (Rg.wanted_some (g := 3) (b := true) (d := 19) rfl (by rfl) (hp.at_ 3 (by rfl))) (by simp) ?_ rfl (Below.refl _ _)
              clear hp
              obtain ⟨ec, eg, ef⟩ := Rg.eval_at a
              generalize a.eval = ρ at *
              go_simp
            case s6 =>
              intro a w' hp
              have e21 : a.eval (.tmp 21) = .bool true := hp.at_ 5 (by rfl)
              exact Rg.step_run (v := a.eval (.tmp 21)) (w' := w') rfl (Rg.wanted_some (g := 3) (b := true) (d := 19) rfl (by rfl) (hp.at_ 3 (by rfl))) (by simp) rfl e21 (Below.refl _ _)
            case s7 =>
              intro a w' hp
              have e7 : a.eval (.tmp 7) = .pointer (some ⟨wr.heap.size, 0, none⟩) := hp.rest 7 (by rfl)
              exact Rg.step_skip rfl (Rg.wanted_not rfl (by rfl) (hp.at_ 6 (by rfl))) rfl
            case s8 =>
              intro a w' hp
              have e23 : a.eval (.tmp 23) = undef := hp.at_ 7 (by rfl)
              exact Rg.step_skip rfl (Rg.wanted_not rfl (by rfl) (hp.at_ 6 (by rfl))) rfl
            case s9 =>
              intro a w' hp
              have e2 : a.eval (.tmp 2) = .pointer (some ⟨w.heap.size, 0, none⟩) := hp.rest 2 (by rfl)
              exact Rg.step_skip rfl (Rg.wanted_not rfl (by rfl) (hp.at_ 6 (by rfl))) rfl
            case s10 =>
              intro a w' hp
              have e25 : a.eval (.tmp 25) = undef := hp.at_ 9 (by rfl)
              exact Rg.step_skip rfl (Rg.wanted_not rfl (by rfl) (hp.at_ 6 (by rfl))) rfl
            case s11 =>
              intro a w' hp
              have e5 : a.eval (.tmp 5) = .int .i64 (-1) := hp.rest 5 (by rfl)
              exact Rg.step_skip rfl (Rg.wanted_not rfl (by rfl) (hp.at_ 6 (by rfl))) rfl
            case s12 =>
              intro a w' hp
              have e26 : a.eval (.tmp 26) = undef := hp.at_ 10 (by rfl)
              have e27 : a.eval (.tmp 27) = undef := hp.at_ 11 (by rfl)
              exact Rg.step_skip rfl (Rg.wanted_not rfl (by rfl) (hp.at_ 6 (by rfl))) rfl
            case s13 =>
              intro a w' hp
              have e28 : a.eval (.tmp 28) = undef := hp.at_ 12 (by rfl)
              exact Rg.step_skip rfl (Rg.wanted_not rfl (by rfl) (hp.at_ 6 (by rfl))) rfl
            case s14 =>
              intro a w' hp
              have e29 : a.eval (.tmp 29) = undef := hp.at_ 13 (by rfl)
              exact Rg.step_skip rfl (Rg.wanted_not rfl (by rfl) (hp.at_ 6 (by rfl))) rfl
            case s15 =>
              intro a w' hp
              have e24 : a.eval (.tmp 24) = undef := hp.at_ 8 (by rfl)
              have e30 : a.eval (.tmp 30) = undef := hp.at_ 14 (by rfl)
              exact Rg.step_skip rfl (Rg.wanted_not rfl (by rfl) (hp.at_ 6 (by rfl))) rfl
            case s16 =>
              intro a w' hp
              have e22 : a.eval (.tmp 22) = .bool true := hp.at_ 6 (by rfl)
              have e31 : a.eval (.tmp 31) = undef := hp.at_ 15 (by rfl)
              refine Rg.step_run (v := .bool true) (w' := w') rfl (Rg.wanted_some (g := 3) (b := true) (d := 19) rfl (by rfl) (hp.at_ 3 (by rfl))) (by simp) ?_ rfl (Below.refl _ _)
              clear hp
              obtain ⟨ec, eg, ef⟩ := Rg.eval_at a
              generalize a.eval = ρ at *
              go_simp
            case s17 =>
              intro a w' hp
              have e19 : a.eval (.tmp 19) = .bool true := hp.at_ 3 (by rfl)
              have e32 : a.eval (.tmp 32) = .bool true := hp.at_ 16 (by rfl)
              refine Rg.step_run (v := .bool true) (w' := w') rfl (Rg.wanted_none rfl) (by simp) ?_ rfl (Below.refl _ _)
              clear hp
              obtain ⟨ec, eg, ef⟩ := Rg.eval_at a
              generalize a.eval = ρ at *
              go_simp
            case mono =>
              refine Rg.mono_getD _ ?_
              intro p hp
              repeat (rcases List.mem_cons.1 hp with rfl | hp; exact Rg.mono_eq _)
              cases hp
            case fin =>
              intro a w' hsz hdf hrest hdone hb
              have hv : a.tmps.getD 33 undef = .bool true := hdone 17 (by decide)
              have ha := Rg.act_puts hsz hdf hrest [16, 17, 18, 19, 20, 21, 22, 23, 24, 25, 26, 27, 28, 29, 30, 31, 32, 33] (by kernel_rfl)
              simp only [List.foldl_cons, List.foldl_nil, Act.put, List.setIfInBounds_toArray, List.set_cons_zero, List.set_cons_succ] at ha
              rw [hv] at ha
              clear hsz hdf hrest hdone hv
              rw [ha]
              clear ha
              go_wp2
              go_meet
              exact ⟨rfl, hb⟩
          case rest =>
            obtain ⟨rfl, hbx⟩ := hcut
            have HBx := Lib.hid (HBr.out.trans (hbx.mono HBr.out.size))
            clear hbx
            go_wp2
            go_roundw
            case measure => simp [intOf]; omega
            case rel => exact ⟨j + 1, by omega, by go_num, by rw [HFS.out]; rw [if_pos ⟨HQ.out, HM.out⟩], HBx.out⟩
        · obtain ⟨kk, hkk⟩ : ∃ kk : Nat, fst q (l.take j) = kk := ⟨(fst q (l.take j)).toNat, by omega⟩
          have HM := Lib.hid hkk
          have hlt' := HAS.out kk hkk
          have HKL : Hid (kk < l.length) := Lib.hid (by omega)
          have hk0 : (0 : Int) ≤ (kk : Int) := by omega
          have hkl : (kk : Int) < (l.length : Int) := by have := HKL.out; omega
          have hkm : ((kk : Int) == -1) = false := by rw [beq_eq_false_iff_ne]; omega
          have hls : ¬ tk.id < l[kk]!.id := by omega
          have HKC := Lib.hid (fun w' (hg : Below wt.heap.size wt w') => (tk_at (HTt.out.below hg (by have := HBt.out.size; omega)) HKL.out).1)
          generalize l[kk]! = tk2 at *
          rw [hkk]
          clear hkk hlt' hm HAS hfl
          go_cut [33] from 16 to 33 (fun s wx => s = .bool false ∧ Below wt.heap.size wt wx)
          case first =>
            refine Rg.region_each (by kernel_rfl) (fun i => ([
                (fun v _ => v = .func (.func g) #[] lb),
                (fun v _ => v = .agg #[.int .i64 tk.id, .int .i64 tk.node, .int .i64 tk.inn, .bool tk.stuck]),
                (fun v _ => v = .bool true),
                (fun v _ => v = .bool true),
                (fun v _ => v = .int .i64 (kk : Int)),
                (fun v _ => v = .bool false),
                (fun v _ => v = .bool false),
                (fun v _ => v = .pointer (some ⟨wr.heap.size, 0, none⟩)),
                (fun v _ => v = .int .i64 tk.id),
                (fun v _ => v = .pointer (some ⟨w.heap.size, 4, none⟩)),
                (fun v _ => v = .slice (some ⟨b0, off, none⟩) l.length ct),
                (fun v _ => v = .int .i64 (kk : Int)),
                (fun v _ => v = .pointer (some ⟨b0, off + kk * 4, none⟩)),
                (fun v _ => v = .pointer (some ⟨b0, off + kk * 4, none⟩)),
                (fun v _ => v = .int .i64 tk2.id),
                (fun v _ => v = .bool false),
                (fun v _ => v = .bool false),
                (fun v _ => v = .bool false)
                ] : List (Value → World → Prop)).getD i (fun _ _ => True)) (by kernel_rfl) ?mono (Rg.by_each _ ⟨?s0, ?s1, ?s2, ?s3, ?s4, ?s5, ?s6, ?s7, ?s8, ?s9, ?s10, ?s11, ?s12, ?s13, ?s14, ?s15, ?s16, ?s17, trivial⟩) ?fin
            case s0 =>
              intro a w' hp
              have e1 : a.eval (.tmp 1) = .func (.func g) #[] lb := hp.rest 1 (by rfl)
              exact Rg.step_run (v := a.eval (.tmp 1)) (w' := w') rfl (Rg.wanted_none rfl) (by simp) rfl e1 (Below.refl _ _)
            case s1 =>
              intro a w' hp
              have e7 : a.eval (.tmp 7) = .pointer (some ⟨wr.heap.size, 0, none⟩) := hp.rest 7 (by rfl)
              have hg : Below wt.heap.size wt w' := (Below.refl wt.heap.size wt).drew.trans hp.grew
              obtain ⟨t0, t1, t2, t3⟩ := qd_facts (HVt.out.below hg (Nat.le_refl _))
              refine Rg.step_run (v := .agg #[.int .i64 tk.id, .int .i64 tk.node, .int .i64 tk.inn, .bool tk.stuck]) (w' := w') rfl (Rg.wanted_none rfl) (by simp) ?_ rfl (Below.refl _ _)
              clear hp hg
              obtain ⟨ec, eg2, ef⟩ := Rg.eval_at a
              generalize a.eval = ρ at *
              go_simp
            case s2 =>
              intro a w' hp
              have e16 : a.eval (.tmp 16) = .func (.func g) #[] lb := hp.at_ 0 (by rfl)
              have e17 : a.eval (.tmp 17) = .agg #[.int .i64 tk.id, .int .i64 tk.node, .int .i64 tk.inn, .bool tk.stuck] := hp.at_ 1 (by rfl)
              have hg : Below wt.heap.size wt w' := (Below.refl wt.heap.size wt).drew.trans hp.grew
              have hC := HP.out w' tk (HBt.out.trans (hg.mono HBt.out.size))
              unfold Tk.val at hC
              refine Rg.step_call (f := g) (args := #[.agg #[.int .i64 tk.id, .int .i64 tk.node, .int .i64 tk.inn, .bool tk.stuck]] ++ lb) rfl (Rg.wanted_none rfl) (by simp) (by clear hp hg hC; obtain ⟨ec, eg2, ef⟩ := Rg.eval_at a; generalize a.eval = ρ at *; go_simp) ?_
              refine hC.mono ?_
              rintro e w2 ⟨rfl, hb2⟩
              exact ⟨_, rfl, congrArg Value.bool HQ.out, hb2⟩
            case s3 =>
              intro a w' hp
              have e18 : a.eval (.tmp 18) = .bool true := hp.at_ 2 (by rfl)
              exact Rg.step_run (v := a.eval (.tmp 18)) (w' := w') rfl (Rg.wanted_none rfl) (by simp) rfl e18 (Below.refl _ _)
            case s4 =>
              intro a w' hp
              have e5 : a.eval (.tmp 5) = .int .i64 (kk : Int) := hp.rest 5 (by rfl)
              exact Rg.step_run (v := a.eval (.tmp 5)) (w' := w') rfl (Rg.wanted_some (g := 3) (b := true) (d := 19) rfl (by rfl) (hp.at_ 3 (by rfl))) (by simp) rfl e5 (Below.refl _ _)
            case s5 =>
              intro a w' hp
              have e20 : a.eval (.tmp 20) = .int .i64 (kk : Int) := hp.at_ 4 (by rfl)
              refine Rg.step_run (v := .bool false) (w' := w') rfl (Rg.wanted_some (g := 3) (b := true) (d := 19) rfl (by rfl) (hp.at_ 3 (by rfl))) (by simp) ?_ rfl (Below.refl _ _)
              clear hp
              obtain ⟨ec, eg, ef⟩ := Rg.eval_at a
              generalize a.eval = ρ at *
              go_simp
            case s6 =>
              intro a w' hp
              have e21 : a.eval (.tmp 21) = .bool false := hp.at_ 5 (by rfl)
              exact Rg.step_run (v := a.eval (.tmp 21)) (w' := w') rfl (Rg.wanted_some (g := 3) (b := true) (d := 19) rfl (by rfl) (hp.at_ 3 (by rfl))) (by simp) rfl e21 (Below.refl _ _)
            case s7 =>
              intro a w' hp
              have e7 : a.eval (.tmp 7) = .pointer (some ⟨wr.heap.size, 0, none⟩) := hp.rest 7 (by rfl)
              refine Rg.step_run (v := .pointer (some ⟨wr.heap.size, 0, none⟩)) (w' := w') rfl (Rg.wanted_some (g := 6) (b := false) (d := 22) rfl (by rfl) (hp.at_ 6 (by rfl))) (by simp) ?_ rfl (Below.refl _ _)
              clear hp
              obtain ⟨ec, eg, ef⟩ := Rg.eval_at a
              generalize a.eval = ρ at *
              go_simp
            case s8 =>
              intro a w' hp
              have e23 : a.eval (.tmp 23) = .pointer (some ⟨wr.heap.size, 0, none⟩) := hp.at_ 7 (by rfl)
              have hg : Below wt.heap.size wt w' := (Below.refl wt.heap.size wt).drew.trans hp.grew
              obtain ⟨t0, t1, t2, t3⟩ := qd_facts (HVt.out.below hg (Nat.le_refl _))
              refine Rg.step_run (v := .int .i64 tk.id) (w' := w') rfl (Rg.wanted_some (g := 6) (b := false) (d := 22) rfl (by rfl) (hp.at_ 6 (by rfl))) (by simp) ?_ rfl (Below.refl _ _)
              clear hp hg
              obtain ⟨ec, eg2, ef⟩ := Rg.eval_at a
              generalize a.eval = ρ at *
              go_simp
            case s9 =>
              intro a w' hp
              have e2 : a.eval (.tmp 2) = .pointer (some ⟨w.heap.size, 0, none⟩) := hp.rest 2 (by rfl)
              refine Rg.step_run (v := .pointer (some ⟨w.heap.size, 4, none⟩)) (w' := w') rfl (Rg.wanted_some (g := 6) (b := false) (d := 22) rfl (by rfl) (hp.at_ 6 (by rfl))) (by simp) ?_ rfl (Below.refl _ _)
              clear hp
              obtain ⟨ec, eg, ef⟩ := Rg.eval_at a
              generalize a.eval = ρ at *
              go_simp
            case s10 =>
              intro a w' hp
              have e25 : a.eval (.tmp 25) = .pointer (some ⟨w.heap.size, 4, none⟩) := hp.at_ 9 (by rfl)
              have hg : Below wt.heap.size wt w' := (Below.refl wt.heap.size wt).drew.trans hp.grew
              obtain ⟨⟨z0, z1, z2, z3, z4, z5⟩, _⟩ := six_facts (HCt.out.below hg (Nat.le_refl _))
              refine Rg.step_run (v := .slice (some ⟨b0, off, none⟩) l.length ct) (w' := w') rfl (Rg.wanted_some (g := 6) (b := false) (d := 22) rfl (by rfl) (hp.at_ 6 (by rfl))) (by simp) ?_ rfl (Below.refl _ _)
              clear hp hg
              obtain ⟨ec, eg2, ef⟩ := Rg.eval_at a
              generalize a.eval = ρ at *
              go_simp
            case s11 =>
              intro a w' hp
              have e5 : a.eval (.tmp 5) = .int .i64 (kk : Int) := hp.rest 5 (by rfl)
              exact Rg.step_run (v := a.eval (.tmp 5)) (w' := w') rfl (Rg.wanted_some (g := 6) (b := false) (d := 22) rfl (by rfl) (hp.at_ 6 (by rfl))) (by simp) rfl e5 (Below.refl _ _)
            case s12 =>
              intro a w' hp
              have e26 : a.eval (.tmp 26) = .slice (some ⟨b0, off, none⟩) l.length ct := hp.at_ 10 (by rfl)
              have e27 : a.eval (.tmp 27) = .int .i64 (kk : Int) := hp.at_ 11 (by rfl)
              refine Rg.step_run (v := .pointer (some ⟨b0, off + kk * 4, none⟩)) (w' := w') rfl (Rg.wanted_some (g := 6) (b := false) (d := 22) rfl (by rfl) (hp.at_ 6 (by rfl))) (by simp) ?_ rfl (Below.refl _ _)
              clear hp
              obtain ⟨ec, eg, ef⟩ := Rg.eval_at a
              generalize a.eval = ρ at *
              go_simp
            case s13 =>
              intro a w' hp
              have e28 : a.eval (.tmp 28) = .pointer (some ⟨b0, off + kk * 4, none⟩) := hp.at_ 12 (by rfl)
              refine Rg.step_run (v := .pointer (some ⟨b0, off + kk * 4, none⟩)) (w' := w') rfl (Rg.wanted_some (g := 6) (b := false) (d := 22) rfl (by rfl) (hp.at_ 6 (by rfl))) (by simp) ?_ rfl (Below.refl _ _)
              clear hp
              obtain ⟨ec, eg, ef⟩ := Rg.eval_at a
              generalize a.eval = ρ at *
              go_simp
            case s14 =>
              intro a w' hp
              have e29 : a.eval (.tmp 29) = .pointer (some ⟨b0, off + kk * 4, none⟩) := hp.at_ 13 (by rfl)
              have hg : Below wt.heap.size wt w' := (Below.refl wt.heap.size wt).drew.trans hp.grew
              have t0 := HKC.out _ hg
              refine Rg.step_run (v := .int .i64 tk2.id) (w' := w') rfl (Rg.wanted_some (g := 6) (b := false) (d := 22) rfl (by rfl) (hp.at_ 6 (by rfl))) (by simp) ?_ rfl (Below.refl _ _)
              clear hp hg
              obtain ⟨ec, eg2, ef⟩ := Rg.eval_at a
              generalize a.eval = ρ at *
              go_simp
            case s15 =>
              intro a w' hp
              have e24 : a.eval (.tmp 24) = .int .i64 tk.id := hp.at_ 8 (by rfl)
              have e30 : a.eval (.tmp 30) = .int .i64 tk2.id := hp.at_ 14 (by rfl)
              refine Rg.step_run (v := .bool false) (w' := w') rfl (Rg.wanted_some (g := 6) (b := false) (d := 22) rfl (by rfl) (hp.at_ 6 (by rfl))) (by simp) ?_ rfl (Below.refl _ _)
              clear hp
              obtain ⟨ec, eg, ef⟩ := Rg.eval_at a
              generalize a.eval = ρ at *
              go_simp
            case s16 =>
              intro a w' hp
              have e22 : a.eval (.tmp 22) = .bool false := hp.at_ 6 (by rfl)
              have e31 : a.eval (.tmp 31) = .bool false := hp.at_ 15 (by rfl)
              refine Rg.step_run (v := .bool false) (w' := w') rfl (Rg.wanted_some (g := 3) (b := true) (d := 19) rfl (by rfl) (hp.at_ 3 (by rfl))) (by simp) ?_ rfl (Below.refl _ _)
              clear hp
              obtain ⟨ec, eg, ef⟩ := Rg.eval_at a
              generalize a.eval = ρ at *
              go_simp
            case s17 =>
              intro a w' hp
              have e19 : a.eval (.tmp 19) = .bool true := hp.at_ 3 (by rfl)
              have e32 : a.eval (.tmp 32) = .bool false := hp.at_ 16 (by rfl)
              refine Rg.step_run (v := .bool false) (w' := w') rfl (Rg.wanted_none rfl) (by simp) ?_ rfl (Below.refl _ _)
              clear hp
              obtain ⟨ec, eg, ef⟩ := Rg.eval_at a
              generalize a.eval = ρ at *
              go_simp
            case mono =>
              refine Rg.mono_getD _ ?_
              intro p hp
              repeat (rcases List.mem_cons.1 hp with rfl | hp; exact Rg.mono_eq _)
              cases hp
            case fin =>
              intro a w' hsz hdf hrest hdone hb
              have hv : a.tmps.getD 33 undef = .bool false := hdone 17 (by decide)
              have ha := Rg.act_puts hsz hdf hrest [16, 17, 18, 19, 20, 21, 22, 23, 24, 25, 26, 27, 28, 29, 30, 31, 32, 33] (by kernel_rfl)
              simp only [List.foldl_cons, List.foldl_nil, Act.put, List.setIfInBounds_toArray, List.set_cons_zero, List.set_cons_succ] at ha
              rw [hv] at ha
              clear hsz hdf hrest hdone hv
              rw [ha]
              clear ha
              go_wp2
              go_meet
              exact ⟨rfl, hb⟩
          case rest =>
            obtain ⟨rfl, hbx⟩ := hcut
            have HBx := Lib.hid (HBr.out.trans (hbx.mono HBr.out.size))
            clear hbx
            go_wp2
            go_roundw
            case measure => simp [intOf]; omega
            case rel => exact ⟨j + 1, by omega, by go_num, by rw [HFS.out]; rw [if_neg (by rintro ⟨_, h⟩; have := HM.out; omega), HM.out], HBx.out⟩
    · obtain rfl : j = l.length := by omega
      have hI : ¬ ((l.length : Int) < (l.length : Int)) := by omega
      have HBR := Lib.hid (HB.out.trans (hbr.mono HB.out.size))
      have hfull : l.take l.length = l := List.take_length
      rw [hfull]
      go_wp2
      go_ret
      exact ⟨rfl, HBR.out⟩

set_option maxHeartbeats 400000 in
theorem atN_any (v : Int) (B : Nat) (w : World) (hB : B < w.heap.size) (hc : w.cell? ⟨B, 0, none⟩ = some (.int .i64 v)) (W : World) (t : Tk) (hb : Below w.heap.size w W) :
    Calls Tryz.prog 89 (#[t.val] ++ #[.pointer (some ⟨B, 0, none⟩)]) W fun e w' => e = .returned (.bool (atN v t)) ∧ Below W.heap.size W w' := by
  have hc' : W.cell? ⟨B, 0, none⟩ = some (.int .i64 v) := (hb.cell (p := ⟨B, 0, none⟩) hB).trans hc
  have hBW : B < W.heap.size := Nat.lt_of_lt_of_le hB hb.size
  have hne : B ≠ W.heap.size := by omega
  unfold Tk.val
  show Calls Tryz.prog 89 #[_, _] W _
  go_enter Tryz.func89, Tryz.ntmps89
  go_wp2
  go_ret
  exact ⟨rfl, (Below.refl _ _).alloc (Nat.le_refl _) _⟩
set_option maxHeartbeats 400000 in
theorem atB_any (v f : Int) (B B2 : Nat) (w : World) (hB : B < w.heap.size) (hc : w.cell? ⟨B, 0, none⟩ = some (.int .i64 v)) (hB2 : B2 < w.heap.size) (hc2 : w.cell? ⟨B2, 0, none⟩ = some (.int .i64 f)) (W : World) (t : Tk) (hb : Below w.heap.size w W) :
    Calls Tryz.prog 109 (#[t.val] ++ #[.pointer (some ⟨B, 0, none⟩), .pointer (some ⟨B2, 0, none⟩)]) W fun e w' => e = .returned (.bool (atB v f t)) ∧ Below W.heap.size W w' := by
  have hc' : W.cell? ⟨B, 0, none⟩ = some (.int .i64 v) := (hb.cell (p := ⟨B, 0, none⟩) hB).trans hc
  have hc2' : W.cell? ⟨B2, 0, none⟩ = some (.int .i64 f) := (hb.cell (p := ⟨B2, 0, none⟩) hB2).trans hc2
  have hBW : B < W.heap.size := Nat.lt_of_lt_of_le hB hb.size
  have hne : B ≠ W.heap.size := by omega
  have hBW2 : B2 < W.heap.size := Nat.lt_of_lt_of_le hB2 hb.size
  have hne2 : B2 ≠ W.heap.size := by omega
  unfold Tk.val
  show Calls Tryz.prog 109 #[_, _, _] W _
  cases h1 : (t.node == v) with
  | true =>
    go_enter Tryz.func109, Tryz.ntmps109
    go_wp2
    go_ret
    refine ⟨?_, (Below.refl _ _).alloc (Nat.le_refl _) _⟩
    unfold atB
    rw [h1]; rfl
  | false =>
    go_enter Tryz.func109, Tryz.ntmps109
    go_wp2
    go_ret
    refine ⟨?_, (Below.refl _ _).alloc (Nat.le_refl _) _⟩
    unfold atB
    rw [h1]; rfl
set_option maxHeartbeats 800000 in
theorem first_any (v : Int) (x : BdV) (b : Bd) (w : World) (hx : BdIn w w.heap.size x b) (ha : Asc b.toks) (hn : b.toks.length ≤ 100000) :
    Calls Tryz.prog 51 #[x.val, .int .i64 v] w fun e w' => e = .returned (.int .i64 (fst (atN v) b.toks)) ∧ Below w.heap.size w w' := by
  have eg : ∀ args w, (callFunc 89 args).run Tryz.prog w = .ok (.enter 89 args) w := enters_of Tryz.func89 (by kernel_rfl) rfl
  have hb1 : Below w.heap.size w (w.alloc (.cells x.list.toArray 38)) := (Below.refl _ _).alloc (Nat.le_refl _) _
  have hb2 : Below w.heap.size w ((w.alloc (.cells x.list.toArray 38)).alloc (.cells #[.int .i64 v] 3)) := hb1.alloc hb1.size _
  have hcon := Lib.hid (least_any 89 #[.pointer (some ⟨(w.alloc (.cells x.list.toArray 38)).heap.size, 0, none⟩)] (atN v) x b _ eg (hx.on hb2) ha hn (atN_any v _ _ (by simp) (by simp)))
  have HB2 := Lib.hid hb2
  clear hx hb1 hb2 eg ha hn
  generalize fst (atN v) b.toks = r at *
  obtain ⟨s, A, n, c, F, m, d, V, nv, cv, T, nt, ct, k⟩ := x
  unfold BdV.val at *
  unfold BdV.list at *
  dsimp only at *
  have esz : (w.alloc (.cells #[.string s, .slice A n c, .slice F m d, .slice V nv cv, .slice T nt ct, .int .i64 k] 38)).heap.size = w.heap.size + 1 := by simp
  rw [esz] at hcon
  clear esz
  go_enter Tryz.func51, Tryz.ntmps51
  go_wp2_with (go_at_call 88; refine hcon.out.mono ?_; rintro e w' ⟨rfl, hb'⟩)
  go_ret
  exact ⟨rfl, HB2.out.trans (hb'.mono HB2.out.size)⟩
end Pr
end Go.Proofs.YtkffnfgdmcebdaaGreatDoor
