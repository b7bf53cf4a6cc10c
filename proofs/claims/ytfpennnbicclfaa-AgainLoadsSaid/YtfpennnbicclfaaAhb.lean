/- Package again: the walks' same, of pages that are the same. -/
import Derived.Test.YtfpennnbicclfaaAha
import Derived.Test.YtfpennnbicclfaaRegion
namespace Go.Proofs.Ytfpennnbicclfaa
open Go.RowKit

namespace Ag
set_option maxRecDepth 10000 in
set_option maxHeartbeats 3200000 in
theorem same_pages (A B : Option Addr) (n c d : Nat) (ps qs : List Pg) (w : World) (hA : Pl A n c) (hB : Pl B n d) (hr : KRow rκ w w.heap.size A n (ps.map Pg.raw)) (hr' : KRow rκ w w.heap.size B n (qs.map Pg.raw)) (hp : ∀ p ∈ ps, PgAt w p) (hp' : ∀ p ∈ qs, PgAt w p) (he : ps.map Pg.ab = qs.map Pg.ab) (hn : n ≤ 1000) :
    Calls Try.prog 18 #[.slice A n c, .slice B n d] w fun e w' => e = .returned (.bool true) ∧ Below w.heap.size w w' := by
  have HL := Lib.hid (show ps.length = n by have := hr.len (by decide); rwa [List.length_map] at this)
  have HL' := Lib.hid (show qs.length = n by have := hr'.len (by decide); rwa [List.length_map] at this)
  have HR := Lib.hid hr
  have HR' := Lib.hid hr'
  have HP := Lib.hid hp
  have HP' := Lib.hid hp'
  have HE := Lib.hid he
  have h0 : (bne (n : Int) (n : Int)) = false := by simp
  clear hr hr' hp hp' he
  go_enter Try.func18, Try.ntmps18
  go_wp2
  go_loopw [5] (fun i wr => ∃ j : Nat, j ≤ n ∧ i = .int .i64 j ∧ Below w.heap.size w wr) (fun i _ => n - (intOf i).toNat)
  case atStart => exact ⟨0, Nat.zero_le _, rfl, Below.refl _ _⟩
  case round =>
    obtain ⟨j, hj, rfl, hbw⟩ := hrel
    have HBW := Lib.hid hbw
    clear hbw
    have hj0 : (0 : Int) ≤ (j : Int) := by omega
    by_cases hlt : j < n
    · have hI : (j : Int) < (n : Int) := by omega
      have hkl : j < ps.length := by have := HL.out; omega
      have hkl' : j < qs.length := by have := HL'.out; omega
      obtain ⟨ba, oa, rfl⟩ : ∃ b off, A = some ⟨b, off, none⟩ := by
        rcases hA with ⟨_, h0, _⟩ | h
        · omega
        · exact h
      obtain ⟨bb, ob, rfl⟩ : ∃ b off, B = some ⟨b, off, none⟩ := by
        rcases hB with ⟨_, h0, _⟩ | h
        · omega
        · exact h
      obtain ⟨ta0, ta1, ta2, ta3⟩ := rw_cells (HR.out.below HBW.out.drew (Nat.le_refl _)) (j := j) (by rw [List.length_map]; exact hkl)
      obtain ⟨tb0, tb1, tb2, tb3⟩ := rw_cells (HR'.out.below HBW.out.drew (Nat.le_refl _)) (j := j) (by rw [List.length_map]; exact hkl')
      rw [List.getElem_map] at ta0 ta1 ta2 ta3 tb0 tb1 tb2 tb3
      have hab : (ps[j]).ab = (qs[j]).ab := by
        have h := congrArg (fun z : List Ab => z[j]?) HE.out
        simpa [hkl, hkl'] using h
      have hx := HP.out _ (List.getElem_mem hkl)
      have hy := HP'.out _ (List.getElem_mem hkl')
      have hbaw : ba < wr.drew.heap.size := cell_lt ta0
      have hbbw : bb < wr.drew.heap.size := cell_lt tb0
      generalize ps[j] = p at *
      generalize qs[j] = q at *
      obtain ⟨s, ic, ka, kc, keys, ra, rc, rows⟩ := p
      obtain ⟨s', ic', kb, kd, keys', rb, rd, rows'⟩ := q
      injection hab with e1 e2 e3 e4
      dsimp only at e1 e2 e3 e4
      subst e1
      subst e2
      subst e3
      have hrl : rows'.length = rows.length := by have := congrArg List.length e4; rw [List.length_map, List.length_map] at this; exact this.symm
      have HSI := Lib.hid (fun (W : World) (hW : Below w.heap.size w W) => sameints_ag ka kb keys.length kc kd keys W hx.kp hy.kp (hx.below hW).keys (hy.below hW).keys hx.few.1)
      have HSC := Lib.hid (fun (W : World) (hW : Below w.heap.size w W) => samechunks_ag ra rb rows.length rc rd rows rows' W hx.rp (by have := hy.rp; dsimp only at this; rwa [hrl] at this) (hx.below hW).rows (by have := (hy.below hW).rows; dsimp only at this; rwa [hrl] at this) (hx.below hW).rep (hy.below hW).rep e4 hx.few.2)
      unfold Pg.raw at ta0 ta1 ta2 ta3 tb0 tb1 tb2 tb3
      dsimp only at ta0 ta1 ta2 ta3 tb0 tb1 tb2 tb3
      rw [hrl] at tb3
      clear hx hy hrl e4 hkl hkl'
      generalize rows.length = rn at *
      generalize keys.length = kn at *
      go_wp2_with fail
      refine Rg.region_each (by kernel_rfl) (fun i => ([
          (fun v _ => v = .slice (some ⟨ba, oa, none⟩) n c),
          (fun v _ => v = .int .i64 (j : Int)),
          (fun v _ => v = .pointer (some ⟨ba, oa + j * 4, none⟩)),
          (fun v _ => v = .pointer (some ⟨ba, oa + j * 4, none⟩)),
          (fun v _ => v = .string s),
          (fun v _ => v = .slice (some ⟨bb, ob, none⟩) n d),
          (fun v _ => v = .int .i64 (j : Int)),
          (fun v _ => v = .pointer (some ⟨bb, ob + j * 4, none⟩)),
          (fun v _ => v = .pointer (some ⟨bb, ob + j * 4, none⟩)),
          (fun v _ => v = .string s),
          (fun v _ => v = .bool false),
          (fun v _ => v = .bool false),
          (fun v _ => v = .slice (some ⟨ba, oa, none⟩) n c),
          (fun v _ => v = .int .i64 (j : Int)),
          (fun v _ => v = .pointer (some ⟨ba, oa + j * 4, none⟩)),
          (fun v _ => v = .pointer (some ⟨ba, oa + j * 4 + 1, none⟩)),
          (fun v _ => v = .int .i64 ic),
          (fun v _ => v = .slice (some ⟨bb, ob, none⟩) n d),
          (fun v _ => v = .int .i64 (j : Int)),
          (fun v _ => v = .pointer (some ⟨bb, ob + j * 4, none⟩)),
          (fun v _ => v = .pointer (some ⟨bb, ob + j * 4 + 1, none⟩)),
          (fun v _ => v = .int .i64 ic),
          (fun v _ => v = .bool false),
          (fun v _ => v = .bool false),
          (fun v _ => v = .bool false),
          (fun v _ => v = .slice (some ⟨ba, oa, none⟩) n c),
          (fun v _ => v = .int .i64 (j : Int)),
          (fun v _ => v = .pointer (some ⟨ba, oa + j * 4, none⟩)),
          (fun v _ => v = .pointer (some ⟨ba, oa + j * 4 + 2, none⟩)),
          (fun v _ => v = .slice ka kn kc),
          (fun v _ => v = .slice (some ⟨bb, ob, none⟩) n d),
          (fun v _ => v = .int .i64 (j : Int)),
          (fun v _ => v = .pointer (some ⟨bb, ob + j * 4, none⟩)),
          (fun v _ => v = .pointer (some ⟨bb, ob + j * 4 + 2, none⟩)),
          (fun v _ => v = .slice kb kn kd),
          (fun v _ => v = .bool true),
          (fun v _ => v = .bool false),
          (fun v _ => v = .bool false),
          (fun v _ => v = .bool false),
          (fun v _ => v = .slice (some ⟨ba, oa, none⟩) n c),
          (fun v _ => v = .int .i64 (j : Int)),
          (fun v _ => v = .pointer (some ⟨ba, oa + j * 4, none⟩)),
          (fun v _ => v = .pointer (some ⟨ba, oa + j * 4 + 3, none⟩)),
          (fun v _ => v = .slice ra rn rc),
          (fun v _ => v = .slice (some ⟨bb, ob, none⟩) n d),
          (fun v _ => v = .int .i64 (j : Int)),
          (fun v _ => v = .pointer (some ⟨bb, ob + j * 4, none⟩)),
          (fun v _ => v = .pointer (some ⟨bb, ob + j * 4 + 3, none⟩)),
          (fun v _ => v = .slice rb rn rd),
          (fun v _ => v = .bool true),
          (fun v _ => v = .bool false),
          (fun v _ => v = .bool false)
          ] : List (Value → World → Prop)).getD i (fun _ _ => True)) (by kernel_rfl) ?mono (Rg.by_each _ ⟨?s0, ?s1, ?s2, ?s3, ?s4, ?s5, ?s6, ?s7, ?s8, ?s9, ?s10, ?s11, ?s12, ?s13, ?s14, ?s15, ?s16, ?s17, ?s18, ?s19, ?s20, ?s21, ?s22, ?s23, ?s24, ?s25, ?s26, ?s27, ?s28, ?s29, ?s30, ?s31, ?s32, ?s33, ?s34, ?s35, ?s36, ?s37, ?s38, ?s39, ?s40, ?s41, ?s42, ?s43, ?s44, ?s45, ?s46, ?s47, ?s48, ?s49, ?s50, ?s51, trivial⟩) ?fin
      case s0 =>
        intro a w' hp
        have e0 : a.eval (.tmp 0) = .slice (some ⟨ba, oa, none⟩) n c := hp.rest 0 (by rfl)
        exact Rg.step_run (v := a.eval (.tmp 0)) (w' := w') rfl (Rg.wanted_none rfl) (by simp) rfl e0 (Below.refl _ _)
      case s1 =>
        intro a w' hp
        have e5 : a.eval (.tmp 5) = .int .i64 (j : Int) := hp.rest 5 (by rfl)
        exact Rg.step_run (v := a.eval (.tmp 5)) (w' := w') rfl (Rg.wanted_none rfl) (by simp) rfl e5 (Below.refl _ _)
      case s2 =>
        intro a w' hp
        have e17 : a.eval (.tmp 17) = .slice (some ⟨ba, oa, none⟩) n c := hp.at_ 0 (by rfl)
        have e18 : a.eval (.tmp 18) = .int .i64 (j : Int) := hp.at_ 1 (by rfl)
        refine Rg.step_run (v := .pointer (some ⟨ba, oa + j * 4, none⟩)) (w' := w') rfl (Rg.wanted_none rfl) (by simp) ?_ rfl (Below.refl _ _)
        clear hp
        obtain ⟨ec, eg, ef⟩ := Rg.eval_at a
        generalize a.eval = ρ at *
        go_simp
      case s3 =>
        intro a w' hp
        have e19 : a.eval (.tmp 19) = .pointer (some ⟨ba, oa + j * 4, none⟩) := hp.at_ 2 (by rfl)
        refine Rg.step_run (v := .pointer (some ⟨ba, oa + j * 4, none⟩)) (w' := w') rfl (Rg.wanted_none rfl) (by simp) ?_ rfl (Below.refl _ _)
        clear hp
        obtain ⟨ec, eg, ef⟩ := Rg.eval_at a
        generalize a.eval = ρ at *
        go_simp
      case s4 =>
        intro a w' hp
        have e20 : a.eval (.tmp 20) = .pointer (some ⟨ba, oa + j * 4, none⟩) := hp.at_ 3 (by rfl)
        have tq := (hp.grew.cell (p := ⟨ba, oa + j * 4, none⟩) hbaw).trans ta0
        refine Rg.step_run (v := .string s) (w' := w') rfl (Rg.wanted_none rfl) (by simp) ?_ rfl (Below.refl _ _)
        clear hp
        obtain ⟨ec, eg, ef⟩ := Rg.eval_at a
        generalize a.eval = ρ at *
        go_simp
      case s5 =>
        intro a w' hp
        have e1 : a.eval (.tmp 1) = .slice (some ⟨bb, ob, none⟩) n d := hp.rest 1 (by rfl)
        exact Rg.step_run (v := a.eval (.tmp 1)) (w' := w') rfl (Rg.wanted_none rfl) (by simp) rfl e1 (Below.refl _ _)
      case s6 =>
        intro a w' hp
        have e5 : a.eval (.tmp 5) = .int .i64 (j : Int) := hp.rest 5 (by rfl)
        exact Rg.step_run (v := a.eval (.tmp 5)) (w' := w') rfl (Rg.wanted_none rfl) (by simp) rfl e5 (Below.refl _ _)
      case s7 =>
        intro a w' hp
        have e22 : a.eval (.tmp 22) = .slice (some ⟨bb, ob, none⟩) n d := hp.at_ 5 (by rfl)
        have e23 : a.eval (.tmp 23) = .int .i64 (j : Int) := hp.at_ 6 (by rfl)
        refine Rg.step_run (v := .pointer (some ⟨bb, ob + j * 4, none⟩)) (w' := w') rfl (Rg.wanted_none rfl) (by simp) ?_ rfl (Below.refl _ _)
        clear hp
        obtain ⟨ec, eg, ef⟩ := Rg.eval_at a
        generalize a.eval = ρ at *
        go_simp
      case s8 =>
        intro a w' hp
        have e24 : a.eval (.tmp 24) = .pointer (some ⟨bb, ob + j * 4, none⟩) := hp.at_ 7 (by rfl)
        refine Rg.step_run (v := .pointer (some ⟨bb, ob + j * 4, none⟩)) (w' := w') rfl (Rg.wanted_none rfl) (by simp) ?_ rfl (Below.refl _ _)
        clear hp
        obtain ⟨ec, eg, ef⟩ := Rg.eval_at a
        generalize a.eval = ρ at *
        go_simp
      case s9 =>
        intro a w' hp
        have e25 : a.eval (.tmp 25) = .pointer (some ⟨bb, ob + j * 4, none⟩) := hp.at_ 8 (by rfl)
        have tq := (hp.grew.cell (p := ⟨bb, ob + j * 4, none⟩) hbbw).trans tb0
        refine Rg.step_run (v := .string s) (w' := w') rfl (Rg.wanted_none rfl) (by simp) ?_ rfl (Below.refl _ _)
        clear hp
        obtain ⟨ec, eg, ef⟩ := Rg.eval_at a
        generalize a.eval = ρ at *
        go_simp
      case s10 =>
        intro a w' hp
        have e21 : a.eval (.tmp 21) = .string s := hp.at_ 4 (by rfl)
        have e26 : a.eval (.tmp 26) = .string s := hp.at_ 9 (by rfl)
        refine Rg.step_run (v := .bool false) (w' := w') rfl (Rg.wanted_none rfl) (by simp) ?_ rfl (Below.refl _ _)
        clear hp
        obtain ⟨ec, eg, ef⟩ := Rg.eval_at a
        generalize a.eval = ρ at *
        go_simp
      case s11 =>
        intro a w' hp
        have e27 : a.eval (.tmp 27) = .bool false := hp.at_ 10 (by rfl)
        exact Rg.step_run (v := a.eval (.tmp 27)) (w' := w') rfl (Rg.wanted_none rfl) (by simp) rfl e27 (Below.refl _ _)
      case s12 =>
        intro a w' hp
        have e0 : a.eval (.tmp 0) = .slice (some ⟨ba, oa, none⟩) n c := hp.rest 0 (by rfl)
        exact Rg.step_run (v := a.eval (.tmp 0)) (w' := w') rfl (Rg.wanted_some (g := 11) (b := false) (d := 28) rfl (by rfl) (hp.at_ 11 (by rfl))) (by simp) rfl e0 (Below.refl _ _)
      case s13 =>
        intro a w' hp
        have e5 : a.eval (.tmp 5) = .int .i64 (j : Int) := hp.rest 5 (by rfl)
        exact Rg.step_run (v := a.eval (.tmp 5)) (w' := w') rfl (Rg.wanted_some (g := 11) (b := false) (d := 28) rfl (by rfl) (hp.at_ 11 (by rfl))) (by simp) rfl e5 (Below.refl _ _)
      case s14 =>
        intro a w' hp
        have e29 : a.eval (.tmp 29) = .slice (some ⟨ba, oa, none⟩) n c := hp.at_ 12 (by rfl)
        have e30 : a.eval (.tmp 30) = .int .i64 (j : Int) := hp.at_ 13 (by rfl)
        refine Rg.step_run (v := .pointer (some ⟨ba, oa + j * 4, none⟩)) (w' := w') rfl (Rg.wanted_some (g := 11) (b := false) (d := 28) rfl (by rfl) (hp.at_ 11 (by rfl))) (by simp) ?_ rfl (Below.refl _ _)
        clear hp
        obtain ⟨ec, eg, ef⟩ := Rg.eval_at a
        generalize a.eval = ρ at *
        go_simp
      case s15 =>
        intro a w' hp
        have e31 : a.eval (.tmp 31) = .pointer (some ⟨ba, oa + j * 4, none⟩) := hp.at_ 14 (by rfl)
        refine Rg.step_run (v := .pointer (some ⟨ba, oa + j * 4 + 1, none⟩)) (w' := w') rfl (Rg.wanted_some (g := 11) (b := false) (d := 28) rfl (by rfl) (hp.at_ 11 (by rfl))) (by simp) ?_ rfl (Below.refl _ _)
        clear hp
        obtain ⟨ec, eg, ef⟩ := Rg.eval_at a
        generalize a.eval = ρ at *
        go_simp
      case s16 =>
        intro a w' hp
        have e32 : a.eval (.tmp 32) = .pointer (some ⟨ba, oa + j * 4 + 1, none⟩) := hp.at_ 15 (by rfl)
        have tq := (hp.grew.cell (p := ⟨ba, oa + j * 4 + 1, none⟩) hbaw).trans ta1
        refine Rg.step_run (v := .int .i64 ic) (w' := w') rfl (Rg.wanted_some (g := 11) (b := false) (d := 28) rfl (by rfl) (hp.at_ 11 (by rfl))) (by simp) ?_ rfl (Below.refl _ _)
        clear hp
        obtain ⟨ec, eg, ef⟩ := Rg.eval_at a
        generalize a.eval = ρ at *
        go_simp
      case s17 =>
        intro a w' hp
        have e1 : a.eval (.tmp 1) = .slice (some ⟨bb, ob, none⟩) n d := hp.rest 1 (by rfl)
        exact Rg.step_run (v := a.eval (.tmp 1)) (w' := w') rfl (Rg.wanted_some (g := 11) (b := false) (d := 28) rfl (by rfl) (hp.at_ 11 (by rfl))) (by simp) rfl e1 (Below.refl _ _)
      case s18 =>
        intro a w' hp
        have e5 : a.eval (.tmp 5) = .int .i64 (j : Int) := hp.rest 5 (by rfl)
        exact Rg.step_run (v := a.eval (.tmp 5)) (w' := w') rfl (Rg.wanted_some (g := 11) (b := false) (d := 28) rfl (by rfl) (hp.at_ 11 (by rfl))) (by simp) rfl e5 (Below.refl _ _)
      case s19 =>
        intro a w' hp
        have e34 : a.eval (.tmp 34) = .slice (some ⟨bb, ob, none⟩) n d := hp.at_ 17 (by rfl)
        have e35 : a.eval (.tmp 35) = .int .i64 (j : Int) := hp.at_ 18 (by rfl)
        refine Rg.step_run (v := .pointer (some ⟨bb, ob + j * 4, none⟩)) (w' := w') rfl (Rg.wanted_some (g := 11) (b := false) (d := 28) rfl (by rfl) (hp.at_ 11 (by rfl))) (by simp) ?_ rfl (Below.refl _ _)
        clear hp
        obtain ⟨ec, eg, ef⟩ := Rg.eval_at a
        generalize a.eval = ρ at *
        go_simp
      case s20 =>
        intro a w' hp
        have e36 : a.eval (.tmp 36) = .pointer (some ⟨bb, ob + j * 4, none⟩) := hp.at_ 19 (by rfl)
        refine Rg.step_run (v := .pointer (some ⟨bb, ob + j * 4 + 1, none⟩)) (w' := w') rfl (Rg.wanted_some (g := 11) (b := false) (d := 28) rfl (by rfl) (hp.at_ 11 (by rfl))) (by simp) ?_ rfl (Below.refl _ _)
        clear hp
        obtain ⟨ec, eg, ef⟩ := Rg.eval_at a
        generalize a.eval = ρ at *
        go_simp
      case s21 =>
        intro a w' hp
        have e37 : a.eval (.tmp 37) = .pointer (some ⟨bb, ob + j * 4 + 1, none⟩) := hp.at_ 20 (by rfl)
        have tq := (hp.grew.cell (p := ⟨bb, ob + j * 4 + 1, none⟩) hbbw).trans tb1
        refine Rg.step_run (v := .int .i64 ic) (w' := w') rfl (Rg.wanted_some (g := 11) (b := false) (d := 28) rfl (by rfl) (hp.at_ 11 (by rfl))) (by simp) ?_ rfl (Below.refl _ _)
        clear hp
        obtain ⟨ec, eg, ef⟩ := Rg.eval_at a
        generalize a.eval = ρ at *
        go_simp
      case s22 =>
        intro a w' hp
        have e33 : a.eval (.tmp 33) = .int .i64 ic := hp.at_ 16 (by rfl)
        have e38 : a.eval (.tmp 38) = .int .i64 ic := hp.at_ 21 (by rfl)
        refine Rg.step_run (v := .bool false) (w' := w') rfl (Rg.wanted_some (g := 11) (b := false) (d := 28) rfl (by rfl) (hp.at_ 11 (by rfl))) (by simp) ?_ rfl (Below.refl _ _)
        clear hp
        obtain ⟨ec, eg, ef⟩ := Rg.eval_at a
        generalize a.eval = ρ at *
        go_simp
      case s23 =>
        intro a w' hp
        have e28 : a.eval (.tmp 28) = .bool false := hp.at_ 11 (by rfl)
        have e39 : a.eval (.tmp 39) = .bool false := hp.at_ 22 (by rfl)
        refine Rg.step_run (v := .bool false) (w' := w') rfl (Rg.wanted_none rfl) (by simp) ?_ rfl (Below.refl _ _)
        clear hp
        obtain ⟨ec, eg, ef⟩ := Rg.eval_at a
        generalize a.eval = ρ at *
        go_simp
      case s24 =>
        intro a w' hp
        have e40 : a.eval (.tmp 40) = .bool false := hp.at_ 23 (by rfl)
        exact Rg.step_run (v := a.eval (.tmp 40)) (w' := w') rfl (Rg.wanted_none rfl) (by simp) rfl e40 (Below.refl _ _)
      case s25 =>
        intro a w' hp
        have e0 : a.eval (.tmp 0) = .slice (some ⟨ba, oa, none⟩) n c := hp.rest 0 (by rfl)
        exact Rg.step_run (v := a.eval (.tmp 0)) (w' := w') rfl (Rg.wanted_some (g := 24) (b := false) (d := 41) rfl (by rfl) (hp.at_ 24 (by rfl))) (by simp) rfl e0 (Below.refl _ _)
      case s26 =>
        intro a w' hp
        have e5 : a.eval (.tmp 5) = .int .i64 (j : Int) := hp.rest 5 (by rfl)
        exact Rg.step_run (v := a.eval (.tmp 5)) (w' := w') rfl (Rg.wanted_some (g := 24) (b := false) (d := 41) rfl (by rfl) (hp.at_ 24 (by rfl))) (by simp) rfl e5 (Below.refl _ _)
      case s27 =>
        intro a w' hp
        have e42 : a.eval (.tmp 42) = .slice (some ⟨ba, oa, none⟩) n c := hp.at_ 25 (by rfl)
        have e43 : a.eval (.tmp 43) = .int .i64 (j : Int) := hp.at_ 26 (by rfl)
        refine Rg.step_run (v := .pointer (some ⟨ba, oa + j * 4, none⟩)) (w' := w') rfl (Rg.wanted_some (g := 24) (b := false) (d := 41) rfl (by rfl) (hp.at_ 24 (by rfl))) (by simp) ?_ rfl (Below.refl _ _)
        clear hp
        obtain ⟨ec, eg, ef⟩ := Rg.eval_at a
        generalize a.eval = ρ at *
        go_simp
      case s28 =>
        intro a w' hp
        have e44 : a.eval (.tmp 44) = .pointer (some ⟨ba, oa + j * 4, none⟩) := hp.at_ 27 (by rfl)
        refine Rg.step_run (v := .pointer (some ⟨ba, oa + j * 4 + 2, none⟩)) (w' := w') rfl (Rg.wanted_some (g := 24) (b := false) (d := 41) rfl (by rfl) (hp.at_ 24 (by rfl))) (by simp) ?_ rfl (Below.refl _ _)
        clear hp
        obtain ⟨ec, eg, ef⟩ := Rg.eval_at a
        generalize a.eval = ρ at *
        go_simp
      case s29 =>
        intro a w' hp
        have e45 : a.eval (.tmp 45) = .pointer (some ⟨ba, oa + j * 4 + 2, none⟩) := hp.at_ 28 (by rfl)
        have tq := (hp.grew.cell (p := ⟨ba, oa + j * 4 + 2, none⟩) hbaw).trans ta2
        refine Rg.step_run (v := .slice ka kn kc) (w' := w') rfl (Rg.wanted_some (g := 24) (b := false) (d := 41) rfl (by rfl) (hp.at_ 24 (by rfl))) (by simp) ?_ rfl (Below.refl _ _)
        clear hp
        obtain ⟨ec, eg, ef⟩ := Rg.eval_at a
        generalize a.eval = ρ at *
        go_simp
      case s30 =>
        intro a w' hp
        have e1 : a.eval (.tmp 1) = .slice (some ⟨bb, ob, none⟩) n d := hp.rest 1 (by rfl)
        exact Rg.step_run (v := a.eval (.tmp 1)) (w' := w') rfl (Rg.wanted_some (g := 24) (b := false) (d := 41) rfl (by rfl) (hp.at_ 24 (by rfl))) (by simp) rfl e1 (Below.refl _ _)
      case s31 =>
        intro a w' hp
        have e5 : a.eval (.tmp 5) = .int .i64 (j : Int) := hp.rest 5 (by rfl)
        exact Rg.step_run (v := a.eval (.tmp 5)) (w' := w') rfl (Rg.wanted_some (g := 24) (b := false) (d := 41) rfl (by rfl) (hp.at_ 24 (by rfl))) (by simp) rfl e5 (Below.refl _ _)
      case s32 =>
        intro a w' hp
        have e47 : a.eval (.tmp 47) = .slice (some ⟨bb, ob, none⟩) n d := hp.at_ 30 (by rfl)
        have e48 : a.eval (.tmp 48) = .int .i64 (j : Int) := hp.at_ 31 (by rfl)
        refine Rg.step_run (v := .pointer (some ⟨bb, ob + j * 4, none⟩)) (w' := w') rfl (Rg.wanted_some (g := 24) (b := false) (d := 41) rfl (by rfl) (hp.at_ 24 (by rfl))) (by simp) ?_ rfl (Below.refl _ _)
        clear hp
        obtain ⟨ec, eg, ef⟩ := Rg.eval_at a
        generalize a.eval = ρ at *
        go_simp
      case s33 =>
        intro a w' hp
        have e49 : a.eval (.tmp 49) = .pointer (some ⟨bb, ob + j * 4, none⟩) := hp.at_ 32 (by rfl)
        refine Rg.step_run (v := .pointer (some ⟨bb, ob + j * 4 + 2, none⟩)) (w' := w') rfl (Rg.wanted_some (g := 24) (b := false) (d := 41) rfl (by rfl) (hp.at_ 24 (by rfl))) (by simp) ?_ rfl (Below.refl _ _)
        clear hp
        obtain ⟨ec, eg, ef⟩ := Rg.eval_at a
        generalize a.eval = ρ at *
        go_simp
      case s34 =>
        intro a w' hp
        have e50 : a.eval (.tmp 50) = .pointer (some ⟨bb, ob + j * 4 + 2, none⟩) := hp.at_ 33 (by rfl)
        have tq := (hp.grew.cell (p := ⟨bb, ob + j * 4 + 2, none⟩) hbbw).trans tb2
        refine Rg.step_run (v := .slice kb kn kd) (w' := w') rfl (Rg.wanted_some (g := 24) (b := false) (d := 41) rfl (by rfl) (hp.at_ 24 (by rfl))) (by simp) ?_ rfl (Below.refl _ _)
        clear hp
        obtain ⟨ec, eg, ef⟩ := Rg.eval_at a
        generalize a.eval = ρ at *
        go_simp
      case s35 =>
        intro a w' hp
        have e46 : a.eval (.tmp 46) = .slice ka kn kc := hp.at_ 29 (by rfl)
        have e51 : a.eval (.tmp 51) = .slice kb kn kd := hp.at_ 34 (by rfl)
        have hg : Below w.heap.size w w' := HBW.out.trans (((Below.refl wr.heap.size wr).drew.trans hp.grew).mono HBW.out.size)
        refine Rg.step_call (f := 32) (args := #[.slice ka kn kc, .slice kb kn kd]) rfl (Rg.wanted_some (g := 24) (b := false) (d := 41) rfl (by rfl) (hp.at_ 24 (by rfl))) (by simp) (by clear hp; obtain ⟨ec, eg, ef⟩ := Rg.eval_at a; generalize a.eval = ρ at *; go_simp) ?_
        refine (HSI.out w' hg).mono ?_
        rintro e w2' ⟨rfl, hb2⟩
        exact ⟨_, rfl, rfl, hb2⟩
      case s36 =>
        intro a w' hp
        have e52 : a.eval (.tmp 52) = .bool true := hp.at_ 35 (by rfl)
        refine Rg.step_run (v := .bool false) (w' := w') rfl (Rg.wanted_some (g := 24) (b := false) (d := 41) rfl (by rfl) (hp.at_ 24 (by rfl))) (by simp) ?_ rfl (Below.refl _ _)
        clear hp
        obtain ⟨ec, eg, ef⟩ := Rg.eval_at a
        generalize a.eval = ρ at *
        go_simp
      case s37 =>
        intro a w' hp
        have e41 : a.eval (.tmp 41) = .bool false := hp.at_ 24 (by rfl)
        have e53 : a.eval (.tmp 53) = .bool false := hp.at_ 36 (by rfl)
        refine Rg.step_run (v := .bool false) (w' := w') rfl (Rg.wanted_none rfl) (by simp) ?_ rfl (Below.refl _ _)
        clear hp
        obtain ⟨ec, eg, ef⟩ := Rg.eval_at a
        generalize a.eval = ρ at *
        go_simp
      case s38 =>
        intro a w' hp
        have e54 : a.eval (.tmp 54) = .bool false := hp.at_ 37 (by rfl)
        exact Rg.step_run (v := a.eval (.tmp 54)) (w' := w') rfl (Rg.wanted_none rfl) (by simp) rfl e54 (Below.refl _ _)
      case s39 =>
        intro a w' hp
        have e0 : a.eval (.tmp 0) = .slice (some ⟨ba, oa, none⟩) n c := hp.rest 0 (by rfl)
        exact Rg.step_run (v := a.eval (.tmp 0)) (w' := w') rfl (Rg.wanted_some (g := 38) (b := false) (d := 55) rfl (by rfl) (hp.at_ 38 (by rfl))) (by simp) rfl e0 (Below.refl _ _)
      case s40 =>
        intro a w' hp
        have e5 : a.eval (.tmp 5) = .int .i64 (j : Int) := hp.rest 5 (by rfl)
        exact Rg.step_run (v := a.eval (.tmp 5)) (w' := w') rfl (Rg.wanted_some (g := 38) (b := false) (d := 55) rfl (by rfl) (hp.at_ 38 (by rfl))) (by simp) rfl e5 (Below.refl _ _)
      case s41 =>
        intro a w' hp
        have e56 : a.eval (.tmp 56) = .slice (some ⟨ba, oa, none⟩) n c := hp.at_ 39 (by rfl)
        have e57 : a.eval (.tmp 57) = .int .i64 (j : Int) := hp.at_ 40 (by rfl)
        refine Rg.step_run (v := .pointer (some ⟨ba, oa + j * 4, none⟩)) (w' := w') rfl (Rg.wanted_some (g := 38) (b := false) (d := 55) rfl (by rfl) (hp.at_ 38 (by rfl))) (by simp) ?_ rfl (Below.refl _ _)
        clear hp
        obtain ⟨ec, eg, ef⟩ := Rg.eval_at a
        generalize a.eval = ρ at *
        go_simp
      case s42 =>
        intro a w' hp
        have e58 : a.eval (.tmp 58) = .pointer (some ⟨ba, oa + j * 4, none⟩) := hp.at_ 41 (by rfl)
        refine Rg.step_run (v := .pointer (some ⟨ba, oa + j * 4 + 3, none⟩)) (w' := w') rfl (Rg.wanted_some (g := 38) (b := false) (d := 55) rfl (by rfl) (hp.at_ 38 (by rfl))) (by simp) ?_ rfl (Below.refl _ _)
        clear hp
        obtain ⟨ec, eg, ef⟩ := Rg.eval_at a
        generalize a.eval = ρ at *
        go_simp
      case s43 =>
        intro a w' hp
        have e59 : a.eval (.tmp 59) = .pointer (some ⟨ba, oa + j * 4 + 3, none⟩) := hp.at_ 42 (by rfl)
        have tq := (hp.grew.cell (p := ⟨ba, oa + j * 4 + 3, none⟩) hbaw).trans ta3
        refine Rg.step_run (v := .slice ra rn rc) (w' := w') rfl (Rg.wanted_some (g := 38) (b := false) (d := 55) rfl (by rfl) (hp.at_ 38 (by rfl))) (by simp) ?_ rfl (Below.refl _ _)
        clear hp
        obtain ⟨ec, eg, ef⟩ := Rg.eval_at a
        generalize a.eval = ρ at *
        go_simp
      case s44 =>
        intro a w' hp
        have e1 : a.eval (.tmp 1) = .slice (some ⟨bb, ob, none⟩) n d := hp.rest 1 (by rfl)
        exact Rg.step_run (v := a.eval (.tmp 1)) (w' := w') rfl (Rg.wanted_some (g := 38) (b := false) (d := 55) rfl (by rfl) (hp.at_ 38 (by rfl))) (by simp) rfl e1 (Below.refl _ _)
      case s45 =>
        intro a w' hp
        have e5 : a.eval (.tmp 5) = .int .i64 (j : Int) := hp.rest 5 (by rfl)
        exact Rg.step_run (v := a.eval (.tmp 5)) (w' := w') rfl (Rg.wanted_some (g := 38) (b := false) (d := 55) rfl (by rfl) (hp.at_ 38 (by rfl))) (by simp) rfl e5 (Below.refl _ _)
      case s46 =>
        intro a w' hp
        have e61 : a.eval (.tmp 61) = .slice (some ⟨bb, ob, none⟩) n d := hp.at_ 44 (by rfl)
        have e62 : a.eval (.tmp 62) = .int .i64 (j : Int) := hp.at_ 45 (by rfl)
        refine Rg.step_run (v := .pointer (some ⟨bb, ob + j * 4, none⟩)) (w' := w') rfl (Rg.wanted_some (g := 38) (b := false) (d := 55) rfl (by rfl) (hp.at_ 38 (by rfl))) (by simp) ?_ rfl (Below.refl _ _)
        clear hp
        obtain ⟨ec, eg, ef⟩ := Rg.eval_at a
        generalize a.eval = ρ at *
        go_simp
      case s47 =>
        intro a w' hp
        have e63 : a.eval (.tmp 63) = .pointer (some ⟨bb, ob + j * 4, none⟩) := hp.at_ 46 (by rfl)
        refine Rg.step_run (v := .pointer (some ⟨bb, ob + j * 4 + 3, none⟩)) (w' := w') rfl (Rg.wanted_some (g := 38) (b := false) (d := 55) rfl (by rfl) (hp.at_ 38 (by rfl))) (by simp) ?_ rfl (Below.refl _ _)
        clear hp
        obtain ⟨ec, eg, ef⟩ := Rg.eval_at a
        generalize a.eval = ρ at *
        go_simp
      case s48 =>
        intro a w' hp
        have e64 : a.eval (.tmp 64) = .pointer (some ⟨bb, ob + j * 4 + 3, none⟩) := hp.at_ 47 (by rfl)
        have tq := (hp.grew.cell (p := ⟨bb, ob + j * 4 + 3, none⟩) hbbw).trans tb3
        refine Rg.step_run (v := .slice rb rn rd) (w' := w') rfl (Rg.wanted_some (g := 38) (b := false) (d := 55) rfl (by rfl) (hp.at_ 38 (by rfl))) (by simp) ?_ rfl (Below.refl _ _)
        clear hp
        obtain ⟨ec, eg, ef⟩ := Rg.eval_at a
        generalize a.eval = ρ at *
        go_simp
      case s49 =>
        intro a w' hp
        have e60 : a.eval (.tmp 60) = .slice ra rn rc := hp.at_ 43 (by rfl)
        have e65 : a.eval (.tmp 65) = .slice rb rn rd := hp.at_ 48 (by rfl)
        have hg : Below w.heap.size w w' := HBW.out.trans (((Below.refl wr.heap.size wr).drew.trans hp.grew).mono HBW.out.size)
        refine Rg.step_call (f := 33) (args := #[.slice ra rn rc, .slice rb rn rd]) rfl (Rg.wanted_some (g := 38) (b := false) (d := 55) rfl (by rfl) (hp.at_ 38 (by rfl))) (by simp) (by clear hp; obtain ⟨ec, eg, ef⟩ := Rg.eval_at a; generalize a.eval = ρ at *; go_simp) ?_
        refine (HSC.out w' hg).mono ?_
        rintro e w2' ⟨rfl, hb2⟩
        exact ⟨_, rfl, rfl, hb2⟩
      case s50 =>
        intro a w' hp
        have e66 : a.eval (.tmp 66) = .bool true := hp.at_ 49 (by rfl)
        refine Rg.step_run (v := .bool false) (w' := w') rfl (Rg.wanted_some (g := 38) (b := false) (d := 55) rfl (by rfl) (hp.at_ 38 (by rfl))) (by simp) ?_ rfl (Below.refl _ _)
        clear hp
        obtain ⟨ec, eg, ef⟩ := Rg.eval_at a
        generalize a.eval = ρ at *
        go_simp
      case s51 =>
        intro a w' hp
        have e55 : a.eval (.tmp 55) = .bool false := hp.at_ 38 (by rfl)
        have e67 : a.eval (.tmp 67) = .bool false := hp.at_ 50 (by rfl)
        refine Rg.step_run (v := .bool false) (w' := w') rfl (Rg.wanted_none rfl) (by simp) ?_ rfl (Below.refl _ _)
        clear hp
        obtain ⟨ec, eg, ef⟩ := Rg.eval_at a
        generalize a.eval = ρ at *
        go_simp
      case mono =>
        refine Rg.mono_getD _ ?_
        intro p hp
        repeat (rcases List.mem_cons.1 hp with rfl | hp; exact Rg.mono_eq _)
        cases hp
      case fin =>
        intro a w' hsz hdf hrest hdone hbf
        have hv : a.tmps.getD 68 undef = .bool false := hdone 51 (by decide)
        have ha := Rg.act_puts hsz hdf hrest [17, 18, 19, 20, 21, 22, 23, 24, 25, 26, 27, 28, 29, 30, 31, 32, 33, 34, 35, 36, 37, 38, 39, 40, 41, 42, 43, 44, 45, 46, 47, 48, 49, 50, 51, 52, 53, 54, 55, 56, 57, 58, 59, 60, 61, 62, 63, 64, 65, 66, 67, 68] (by kernel_rfl)
        simp only [List.foldl_cons, List.foldl_nil, Act.put, List.setIfInBounds_toArray, List.set_cons_zero, List.set_cons_succ] at ha
        rw [hv] at ha
        clear hsz hdf hrest hdone hv
        rw [ha]
        clear ha
        go_wp2
        go_roundw
        case rel => exact ⟨j + 1, by omega, by first | rfl | go_num, HBW.out.trans (hbf.mono HBW.out.size)⟩
        case measure =>
          simp only [intOf]
          omega
    · obtain rfl : j = n := by omega
      go_wp2
      go_ret
      exact ⟨rfl, HBW.out⟩
end Ag
end Go.Proofs.Ytfpennnbicclfaa

