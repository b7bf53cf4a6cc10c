/- Package flow: Instance. -/
import Derived.Test.YtkffnfgdmcebdaaGreatDoorYJoint19
import Derived.Deep.RegionLaw
namespace Go.Proofs.YtkffnfgdmcebdaaGreatDoor
open Go.RowKit

namespace Pr
/-- The State that is told. -/
def stI (r : Rn) : Int := if r.failed.size = 0 then (if r.b.toks.length = 0 then 2 else 1) else 3
theorem seven_facts {w : World} {z : Nat} {a0 a1 a2 a3 a4 a5 a6 : Value} (h : Cel w z [a0, a1, a2, a3, a4, a5, a6]) :
    (w.cell? ⟨z, 0, none⟩ = some a0 ∧ w.cell? ⟨z, 1, none⟩ = some a1 ∧ w.cell? ⟨z, 2, none⟩ = some a2 ∧ w.cell? ⟨z, 3, none⟩ = some a3 ∧ w.cell? ⟨z, 4, none⟩ = some a4 ∧ w.cell? ⟨z, 5, none⟩ = some a5 ∧ w.cell? ⟨z, 6, none⟩ = some a6) ∧
    (w.frozen? ⟨z, 0, none⟩ = false ∧ w.frozen? ⟨z, 1, none⟩ = false ∧ w.frozen? ⟨z, 2, none⟩ = false ∧ w.frozen? ⟨z, 3, none⟩ = false ∧ w.frozen? ⟨z, 4, none⟩ = false ∧ w.frozen? ⟨z, 5, none⟩ = false ∧ w.frozen? ⟨z, 6, none⟩ = false) :=
  ⟨⟨h.cell 0 _ rfl, h.cell 1 _ rfl, h.cell 2 _ rfl, h.cell 3 _ rfl, h.cell 4 _ rfl, h.cell 5 _ rfl, h.cell 6 _ rfl⟩, h.froz 0 (by simp), h.froz 1 (by simp), h.froz 2 (by simp), h.froz 3 (by simp), h.froz 4 (by simp), h.froz 5 (by simp), h.froz 6 (by simp)⟩
/-- Seven cells are written. -/
def sev (w : World) (z : Nat) (v0 v1 v2 v3 v4 v5 v6 : Value) : World := ((((((w.setCell ⟨z, 0, none⟩ v0).setCell ⟨z, 1, none⟩ v1).setCell ⟨z, 2, none⟩ v2).setCell ⟨z, 3, none⟩ v3).setCell ⟨z, 4, none⟩ v4).setCell ⟨z, 5, none⟩ v5).setCell ⟨z, 6, none⟩ v6
theorem sev_cel {w : World} {z : Nat} {a0 a1 a2 a3 a4 a5 a6 : Value} (h : Cel w z [a0, a1, a2, a3, a4, a5, a6]) (v0 v1 v2 v3 v4 v5 v6 : Value) : Cel (sev w z v0 v1 v2 v3 v4 v5 v6) z [v0, v1, v2, v3, v4, v5, v6] :=
  ((((((h.set (i := 0) (by simp) _).set (i := 1) (by simp) _).set (i := 2) (by simp) _).set (i := 3) (by simp) _).set (i := 4) (by simp) _).set (i := 5) (by simp) _).set (i := 6) (by simp) _
theorem sev_below {B : Nat} {a w : World} (h : Below B a w) {z : Nat} (hz : B ≤ z) (v0 v1 v2 v3 v4 v5 v6 : Value) : Below B a (sev w z v0 v1 v2 v3 v4 v5 v6) := ((((((h.setCell hz _).setCell hz _).setCell hz _).setCell hz _).setCell hz _).setCell hz _).setCell hz _
set_option maxHeartbeats 3200000 in
set_option maxRecDepth 10000 in
theorem finst_any (q : Nat) (x : BdV) (r : Rn) (a0 a1 a2 a6 : Int) (a3 : ByteArray) (V : Option Addr) (vn vc : Nat) (T : Option Addr) (tn tc : Nat) (w : World) (h : RnC w q x r) (hf : r.b.Few) :
    Calls Tryz.prog 32 #[.pointer (some ⟨q, 0, none⟩), .agg #[.int .i64 a0, .int .i64 a1, .int .i64 a2, .string a3, .slice V vn vc, .slice T tn tc, .int .i64 a6]] w fun e w' =>
      (∃ (V' : Option Addr) (vc' : Nat) (T' : Option Addr) (tc' : Nat), e = .returned (.agg #[.int .i64 a0, .int .i64 a1, .int .i64 (stI r), .string r.failed, .slice V' r.b.vars.length vc', .slice T' r.b.toks.length tc', .int .i64 r.b.next])) ∧ Below w.heap.size w w' := by
  obtain ⟨b, mv, fl⟩ := r
  dsimp only at *
  have et : x.nt = b.toks.length := h.inn.ht
  have ev : x.nv = b.vars.length := h.inn.hv
  have ek : x.k = b.next := h.inn.k
  have HC := Lib.hid h.cel
  have HIN := Lib.hid h.inn
  have HOFF := Lib.hid h.off
  have HST : Hid (stI ⟨b, mv, fl⟩ = if fl.size = 0 then (if b.toks.length = 0 then 2 else 1) else 3) := Lib.hid rfl
  have HF := Lib.hid hf
  have hql := h.cel.lt
  generalize stI ⟨b, mv, fl⟩ = st at *
  clear h hf
  obtain ⟨s, A, n, c, F, m, d, XV, nv, cv, XT, nt, ct, kx⟩ := x
  dsimp only [rnL] at *
  subst et ev ek
  have hbx := Cel.lit w #[.int .i64 a0, .int .i64 a1, .int .i64 a2, .string a3, .slice V vn vc, .slice T tn tc, .int .i64 a6] 70
  have hb1 : Below w.heap.size w (w.alloc (.cells #[.int .i64 a0, .int .i64 a1, .int .i64 a2, .string a3, .slice V vn vc, .slice T tn tc, .int .i64 a6] 70)) := (Below.refl _ _).alloc (Nat.le_refl _) _
  have hs1 : (w.alloc (.cells #[.int .i64 a0, .int .i64 a1, .int .i64 a2, .string a3, .slice V vn vc, .slice T tn tc, .int .i64 a6] 70)).heap.size = w.heap.size + 1 := by simp
  have hb2 := hb1.alloc hb1.size (.cells #[.int .i64 0, .int .i64 0, .int .i64 0, .string ⟨#[]⟩, .slice none 0 0, .slice none 0 0, .int .i64 0] 70)
  have hby := Cel.lit (w.alloc (.cells #[.int .i64 a0, .int .i64 a1, .int .i64 a2, .string a3, .slice V vn vc, .slice T tn tc, .int .i64 a6] 70)) #[.int .i64 0, .int .i64 0, .int .i64 0, .string ⟨#[]⟩, .slice none 0 0, .slice none 0 0, .int .i64 0] 70
  rw [hs1] at hby
  have HBX := Lib.hid (hbx.alloc (.cells #[.int .i64 0, .int .i64 0, .int .i64 0, .string ⟨#[]⟩, .slice none 0 0, .slice none 0 0, .int .i64 0] 70))
  have HBY : Hid (Cel _ (w.heap.size + 1) _) := Lib.hid hby
  have HB2 := Lib.hid hb2
  clear hbx hb1 hs1 hb2 hby
  go_enter Tryz.func32, Tryz.ntmps32
  go_upto_region 1 with (fail)
  generalize (w.alloc _).alloc _ = wa at *
  have hbd : Below wa.heap.size wa wa.drew := (Below.refl _ _).drew
  have HBD := Lib.hid (HB2.out.trans (hbd.mono HB2.out.size))
  have HBA := Lib.hid hbd
  have HZ := Lib.hid (fun (W : World) (hb : Below w.heap.size w W) => (eight_facts (HC.out.below hb (Nat.le_refl _))).1)
  have HCV := Lib.hid (vclone_any XV b.vars.length cv b.vars wa.drew (show VRow wa.drew wa.drew.heap.size XV b.vars.length b.vars from (HIN.out.on HBD.out).vars) HIN.out.nV (by have := HF.out.v; omega))
  obtain ⟨z0, z1, z2, z3, z4, z5, z6, z7⟩ := HZ.out _ HBD.out
  have hqa : q < w.heap.size := hql
  clear hbd
  go_cut [3] from 5 to 42 (fun s wx => s = .pointer (some ⟨w.heap.size, 0, none⟩) ∧ (∃ (V' : Option Addr) (vc' : Nat) (T' : Option Addr) (tc' : Nat), Cel wx w.heap.size [.int .i64 a0, .int .i64 a1, .int .i64 a2, .string a3, .slice V' b.vars.length vc', .slice T' b.toks.length tc', .int .i64 b.next]) ∧ Cel wx (w.heap.size + 1) [.int .i64 0, .int .i64 0, .int .i64 0, .string ⟨#[]⟩, .slice none 0 0, .slice none 0 0, .int .i64 0] ∧ Below w.heap.size w wx)
  case first =>
    go_region_law (first
      | (go_simp; go_at_call 77; refine HCV.out.mono ?_; rintro e w1 ⟨V', vc', rfl, _, hb1⟩; have HB1 := Lib.hid (HBD.out.trans (hb1.mono HBD.out.size)); have HA1 := Lib.hid (HBA.out.trans hb1); obtain ⟨y0, y1, y2, y3, y4, y5, y6, y7⟩ := HZ.out _ HB1.out; clear hb1)
      | (go_simp; go_at_call 78; refine (tclone_any XT b.toks.length ct b.toks w1 (HIN.out.on HB1.out).toks HIN.out.nT (by have := HF.out.t; omega)).mono ?_; rintro e w2 ⟨⟨T', tc', rfl, _⟩, hb2⟩; have HBB := Lib.hid (HB1.out.trans (hb2.mono HB1.out.size)); obtain ⟨x0, x1, x2, x3, x4, x5, x6, x7⟩ := HZ.out _ HBB.out; have HA2 := Lib.hid (HA1.out.trans (hb2.mono HA1.out.size)); have HX2 := Lib.hid (HBX.out.below HA2.out (Nat.le_refl _)); have HY2 := Lib.hid (HBY.out.below HA2.out (Nat.le_refl _)); obtain ⟨⟨b0, b1, b2, b3, b4, b5, b6⟩, g0, g1, g2, g3, g4, g5, g6⟩ := seven_facts HX2.out; clear hb2))
    all_goals
      go_wp2_with fail
      go_meet
      refine ⟨rfl, ⟨V', vc', T', tc', ((HX2.out.set (i := 4) (by simp) _).set (i := 5) (by simp) _).set (i := 6) (by simp) _⟩, ?_, ((HBB.out.setCell (p := ⟨w.heap.size, 4, none⟩) (Nat.le_refl _) _).setCell (p := ⟨w.heap.size, 5, none⟩) (Nat.le_refl _) _).setCell (p := ⟨w.heap.size, 6, none⟩) (Nat.le_refl _) _⟩
      exact HY2.out.kept (set_grown (set_grown (set_grown (World.grownBy.refl _ _) 4 _) 5 _) 6 _) (fun e => by have h2 : w.heap.size = w.heap.size + 1 := Option.some.inj e; omega)
  case rest =>
    obtain ⟨rfl, ⟨V', vc', T', tc', hx⟩, hy, hb⟩ := hcut
    generalize wc = w3 at *
    clear z0 z1 z2 z3 z4 z5 z6 z7
    obtain ⟨z0, z1, z2, z3, z4, z5, z6, z7⟩ := HZ.out _ hb.drew
    obtain ⟨⟨b0, b1, b2, b3, b4, b5, b6⟩, g0, g1, g2, g3, g4, g5, g6⟩ := seven_facts (hx.below (Below.refl w3.heap.size w3).drew (Nat.le_refl _))
    have HX := Lib.hid (hx.below (Below.refl w3.heap.size w3).drew (Nat.le_refl _))
    have HY := Lib.hid (hy.below (Below.refl w3.heap.size w3).drew (Nat.le_refl _))
    have HB := Lib.hid hb.drew
    have v7 := (HZ.out _ (hb.setCell (p := ⟨w.heap.size, 2, none⟩) (Nat.le_refl _) (.int .i64 1)).drew).2.2.2.2.2.2.2
    have p7 := (HZ.out _ (hb.setCell (p := ⟨w.heap.size, 3, none⟩) (Nat.le_refl _) (.string fl)).drew).2.2.2.2.2.2.2
    obtain ⟨⟨_, _, _, k3, _, _, _⟩, _, _, _, l3, _, _, _⟩ := seven_facts ((hx.set (i := 2) (by simp) (.int .i64 1)).below (Below.refl _ _).drew (Nat.le_refl _))
    obtain ⟨⟨_, _, k2, _, _, _, _⟩, _, _, l2, _, _, _, _⟩ := seven_facts ((hx.set (i := 3) (by simp) (.string fl)).below (Below.refl _ _).drew (Nat.le_refl _))
    clear hx hy hb
    go_upto_region 2 with (fail)
    go_cut [3] from 5 to 42 (fun s wx => s = .pointer (some ⟨w.heap.size, 0, none⟩) ∧ Cel wx w.heap.size [.int .i64 a0, .int .i64 a1, .int .i64 1, .string fl, .slice V' b.vars.length vc', .slice T' b.toks.length tc', .int .i64 b.next] ∧ Cel wx (w.heap.size + 1) [.int .i64 0, .int .i64 0, .int .i64 0, .string ⟨#[]⟩, .slice none 0 0, .slice none 0 0, .int .i64 0] ∧ Below w.heap.size w wx)
    case first =>
      go_region
      all_goals
        go_wp2_with fail
        go_meet
        refine ⟨rfl, ?_, ?_, ?_⟩
        · first
            | exact (HX.out.set (i := 2) (by simp) _).set (i := 3) (by simp) _
            | exact (HX.out.set (i := 3) (by simp) _).set (i := 2) (by simp) _
        · exact HY.out.kept (set_grown (set_grown (World.grownBy.refl _ _) _ _) _ _) (fun e => by have h2 : w.heap.size = w.heap.size + 1 := Option.some.inj e; omega)
        · exact (HB.out.setCell (by exact Nat.le_refl _) _).setCell (by exact Nat.le_refl _) _
    case rest =>
      obtain ⟨rfl, hx, hy, hb⟩ := hcut
      generalize wc = w5 at *
      clear z0 z1 z2 z3 z4 z5 z6 z7 b0 b1 b2 b3 b4 b5 b6 g0 g1 g2 g3 g4 g5 g6 HX HY HB HCV v7 p7 k3 l3 k2 l2
      obtain ⟨z0, z1, z2, z3, z4, z5, z6, z7⟩ := HZ.out _ hb
      obtain ⟨⟨b0, b1, b2, b3, b4, b5, b6⟩, g0, g1, g2, g3, g4, g5, g6⟩ := seven_facts hx
      obtain ⟨⟨y0, y1, y2, y3, y4, y5, y6⟩, f0, f1, f2, f3, f4, f5, f6⟩ := seven_facts hy
      have HB := Lib.hid hb
      have HY := Lib.hid hy
      have hx0 := hx
      clear hx hy hb
      have HS2 := HST.out
      have HXX := Lib.hid hx0
      have hqn : ¬ q = w.heap.size := by omega
      have HRC := Lib.hid (show RnC w5 q ⟨s, A, n, c, F, m, d, XV, b.vars.length, cv, XT, b.toks.length, ct, b.next⟩ ⟨b, mv, fl⟩ from ⟨HC.out.below HB.out (Nat.le_refl _), HIN.out.on HB.out, HOFF.out⟩)
      clear HIN HC HOFF HST
      by_cases h0 : fl.size = 0
      · rw [if_pos h0] at HS2
        obtain rfl := emp_of h0
        have HDN := Lib.hid (fdone_any q _ _ w5 HRC.out)
        dsimp only at HDN
        by_cases h1 : b.toks.length = 0
        · rw [if_pos h1] at HS2
          subst HS2
          rw [decide_eq_true h1] at HDN
          clear h1
          go_wp2_with (go_at_call 40; refine HDN.out.mono ?_; rintro e w6 ⟨rfl, hw6⟩; have hw6 := hw6.symm; subst hw6)
          have HFC := sev_cel (HY.out.kept (grown_setCell w5 ⟨w.heap.size, 2, none⟩ (.int .i64 2)) (fun e => by have h2 : w.heap.size = w.heap.size + 1 := Option.some.inj e; omega)) (.int .i64 a0) (.int .i64 a1) (.int .i64 2) (.string ⟨#[]⟩) (.slice V' b.vars.length vc') (.slice T' b.toks.length tc') (.int .i64 b.next)
          have HFB := Lib.hid (sev_below (HB.out.setCell (p := ⟨w.heap.size, 2, none⟩) (Nat.le_refl _) (.int .i64 2)) (z := w.heap.size + 1) (Nat.le_succ _) (.int .i64 a0) (.int .i64 a1) (.int .i64 2) (.string ⟨#[]⟩) (.slice V' b.vars.length vc') (.slice T' b.toks.length tc') (.int .i64 b.next))
          change bodyPost _ _ _ _ _ (sev (w5.setCell ⟨w.heap.size, 2, none⟩ (.int .i64 2)) (w.heap.size + 1) (.int .i64 a0) (.int .i64 a1) (.int .i64 2) (.string ⟨#[]⟩) (.slice V' b.vars.length vc') (.slice T' b.toks.length tc') (.int .i64 b.next))
          obtain ⟨⟨j0, j1, j2, j3, j4, j5, j6⟩, _⟩ := seven_facts HFC
          clear HFC
          generalize sev (w5.setCell ⟨w.heap.size, 2, none⟩ (.int .i64 2)) (w.heap.size + 1) (.int .i64 a0) (.int .i64 a1) (.int .i64 2) (.string ⟨#[]⟩) (.slice V' b.vars.length vc') (.slice T' b.toks.length tc') (.int .i64 b.next) = wf at *
          exact bodyPost_ret (v := .agg #[.int .i64 a0, .int .i64 a1, .int .i64 2, .string ⟨#[]⟩, .slice V' b.vars.length vc', .slice T' b.toks.length tc', .int .i64 b.next]) (by simp [results, Tryz.results32, go_sem, j0, j1, j2, j3, j4, j5, j6]) rfl ⟨⟨V', vc', T', tc', rfl⟩, HFB.out⟩
        · rw [if_neg h1] at HS2
          subst HS2
          rw [decide_eq_false h1] at HDN
          clear h1
          go_wp2_with (go_at_call 40; refine HDN.out.mono ?_; rintro e w6 ⟨rfl, hw6⟩; have hw6 := hw6.symm; subst hw6)
          have HFC := sev_cel HY.out (.int .i64 a0) (.int .i64 a1) (.int .i64 1) (.string ⟨#[]⟩) (.slice V' b.vars.length vc') (.slice T' b.toks.length tc') (.int .i64 b.next)
          have HFB := Lib.hid (sev_below HB.out (z := w.heap.size + 1) (Nat.le_succ _) (.int .i64 a0) (.int .i64 a1) (.int .i64 1) (.string ⟨#[]⟩) (.slice V' b.vars.length vc') (.slice T' b.toks.length tc') (.int .i64 b.next))
          change bodyPost _ _ _ _ _ (sev w5 (w.heap.size + 1) (.int .i64 a0) (.int .i64 a1) (.int .i64 1) (.string ⟨#[]⟩) (.slice V' b.vars.length vc') (.slice T' b.toks.length tc') (.int .i64 b.next))
          obtain ⟨⟨j0, j1, j2, j3, j4, j5, j6⟩, _⟩ := seven_facts HFC
          clear HFC
          generalize sev w5 (w.heap.size + 1) (.int .i64 a0) (.int .i64 a1) (.int .i64 1) (.string ⟨#[]⟩) (.slice V' b.vars.length vc') (.slice T' b.toks.length tc') (.int .i64 b.next) = wf at *
          exact bodyPost_ret (v := .agg #[.int .i64 a0, .int .i64 a1, .int .i64 1, .string ⟨#[]⟩, .slice V' b.vars.length vc', .slice T' b.toks.length tc', .int .i64 b.next]) (by simp [results, Tryz.results32, go_sem, j0, j1, j2, j3, j4, j5, j6]) rfl ⟨⟨V', vc', T', tc', rfl⟩, HFB.out⟩
      · have hce : fl.toList.isEmpty = false := by rw [empB]; simpa using h0
        rw [if_neg h0] at HS2
        subst HS2
        clear h0
        go_wp2
        have HFC := sev_cel (HY.out.kept (grown_setCell w5 ⟨w.heap.size, 2, none⟩ (.int .i64 3)) (fun e => by have h2 : w.heap.size = w.heap.size + 1 := Option.some.inj e; omega)) (.int .i64 a0) (.int .i64 a1) (.int .i64 3) (.string fl) (.slice V' b.vars.length vc') (.slice T' b.toks.length tc') (.int .i64 b.next)
        have HFB := Lib.hid (sev_below (HB.out.setCell (p := ⟨w.heap.size, 2, none⟩) (Nat.le_refl _) (.int .i64 3)) (z := w.heap.size + 1) (Nat.le_succ _) (.int .i64 a0) (.int .i64 a1) (.int .i64 3) (.string fl) (.slice V' b.vars.length vc') (.slice T' b.toks.length tc') (.int .i64 b.next))
        change bodyPost _ _ _ _ _ (sev (w5.setCell ⟨w.heap.size, 2, none⟩ (.int .i64 3)) (w.heap.size + 1) (.int .i64 a0) (.int .i64 a1) (.int .i64 3) (.string fl) (.slice V' b.vars.length vc') (.slice T' b.toks.length tc') (.int .i64 b.next))
        obtain ⟨⟨j0, j1, j2, j3, j4, j5, j6⟩, _⟩ := seven_facts HFC
        clear HFC
        generalize sev (w5.setCell ⟨w.heap.size, 2, none⟩ (.int .i64 3)) (w.heap.size + 1) (.int .i64 a0) (.int .i64 a1) (.int .i64 3) (.string fl) (.slice V' b.vars.length vc') (.slice T' b.toks.length tc') (.int .i64 b.next) = wf at *
        exact bodyPost_ret (v := .agg #[.int .i64 a0, .int .i64 a1, .int .i64 3, .string fl, .slice V' b.vars.length vc', .slice T' b.toks.length tc', .int .i64 b.next]) (by simp [results, Tryz.results32, go_sem, j0, j1, j2, j3, j4, j5, j6]) rfl ⟨⟨V', vc', T', tc', rfl⟩, HFB.out⟩
end Pr
end Go.Proofs.YtkffnfgdmcebdaaGreatDoor
