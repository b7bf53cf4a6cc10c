/- Package flow: Go, of a token that stands at a Work. -/
import Derived.Test.YtkffnfgdmcebdaaGreatDoorYJoint17
import Derived.Test.YtkffnfgdmcebdaaGreatDoorYJoint18
namespace Go.Proofs.YtkffnfgdmcebdaaGreatDoor
open Go.RowKit

namespace Pr
theorem goB_at {b : Bd} {id flow : Int} {k : Nat} (hk : b.toks.findIdx? (fun t => t.id == id) = some k) (hw : atW b.p b.toks[k]! = true) :
    goB b id flow = if ((outsB b.p b.toks[k]!.node).map Int.ofNat).contains flow = true then (true, along b k flow.toNat) else (false, b) := by
  unfold goB
  rw [hk]
  dsimp only
  by_cases h : flow ∈ (outsB b.p b.toks[k]!.node).map Int.ofNat
  · rw [if_pos ⟨hw, h⟩, if_pos (List.contains_iff_mem.2 h)]
  · rw [if_neg (fun x => h x.2), if_neg (fun x => h (List.contains_iff_mem.1 x))]
set_option maxHeartbeats 6400000 in
set_option maxRecDepth 10000 in
theorem fgo_any (q : Nat) (x : BdV) (r : Rn) (id flow : Int) (k : Nat) (w : World) (h : RnC w q x r) (hf : r.b.Few) (hk : r.b.toks.findIdx? (fun t => t.id == id) = some k) (hw : atW r.b.p r.b.toks[k]! = true) :
    Calls Tryz.prog 30 #[.pointer (some ⟨q, 0, none⟩), .int .i64 id, .int .i64 flow] w fun e w' => (∃ x', e = .returned (.bool (goB r.b id flow).1) ∧ RnC w' q x' { r with b := (goB r.b id flow).2 }) ∧ w.grownBy w' (some q) := by
  have hgb := goB_at (flow := flow) hk hw
  generalize goB r.b id flow = R at *
  obtain ⟨ok, b2⟩ := R
  obtain ⟨b, mv, fl⟩ := r
  dsimp only at *
  have em : x.m = b.p.m := h.inn.hm
  have en : x.n = b.p.n := h.inn.hn
  have et : x.nt = b.toks.length := h.inn.ht
  have hkl : k < b.toks.length := (List.findIdx?_eq_some_iff_getElem.1 hk).1
  have hki : fst (fun t => t.id == id) b.toks = k := by unfold fst; rw [hk]
  have hba : Below w.heap.size w (w.alloc (.cells #[.int .i64 id] 3)) := (Below.refl _ _).alloc (Nat.le_refl _) _
  have hc := Cel.lit w #[.int .i64 id] 3
  have hr := h.below hba
  have HIX := Lib.hid (tkidx_any 72 #[.pointer (some ⟨w.heap.size, 0, none⟩)] (fun t => t.id == id) _ (enters_of Tryz.func72 (by kernel_rfl) rfl) x.T x.nt x.ct b.toks (fun W t hW => goFn_any id w.heap.size _ hc.lt (hc.cell 0 _ rfl) W t hW) hr.inn.toks (by have := hf.t; omega))
  rw [hki] at HIX
  have c0 := hc.cell 0 _ rfl
  have HR := Lib.hid hr
  have HB := Lib.hid hba
  have HF := Lib.hid hf
  have HAW := Lib.hid (fun (W : World) (hb : Below (w.alloc (.cells #[.int .i64 id] 3)).heap.size (w.alloc (.cells #[.int .i64 id] 3)) W) => atwork_any q x ⟨b, mv, fl⟩ b.toks[k]! W (hr.below hb))
  have HOT := Lib.hid (fun (W : World) (hb : Below (w.alloc (.cells #[.int .i64 id] 3)).heap.size (w.alloc (.cells #[.int .i64 id] 3)) W) => outs_any x.A x.n x.c x.F x.m x.d b.p b.toks[k]!.node W (hr.inn.on hb).nodes (hr.inn.on hb).flows (by have := hf.n; omega) (by have := hf.m; omega))
  have HOL := Lib.hid (outsB_len b.p b.toks[k]!.node)
  have HMS := Lib.hid hf.m
  have HGB := Lib.hid hgb
  clear hgb
  dsimp only at HAW
  rw [hw] at HAW
  have hq0 := h.cel.lt
  have hs : x.s = b.p.name := hr.inn.s
  clear h hf hba hc hr hki hk hw
  obtain ⟨s, A, n, c, F, m, d, V, nv, cv, T, nt, ct, kx⟩ := x
  dsimp only at *
  subst em en et hs
  go_enter Tryz.func30, Tryz.ntmps30
  go_upto_region 1 with (fail)
  generalize w.alloc (.cells #[.int .i64 id] 3) = w1 at *
  have HHC : Hid (Cel w1 q [.string b.p.name, .slice A b.p.n c, .slice F b.p.m d, .slice V nv cv, .slice T b.toks.length ct, .int .i64 kx, .int .i64 (mv : Int), .string fl]) := Lib.hid HR.out.cel
  obtain ⟨⟨z0, z1, z2, z3, z4, z5, z6, z7⟩, _⟩ := eight_facts HHC.out
  go_upto_region 2 with (go_at_call 71; refine HIX.out.mono ?_; rintro e w2 ⟨rfl, hb2⟩)
  have HB2 := Lib.hid hb2
  clear z0 z1 z2 z3 z4 z5 z6 z7 hb2
  have hne := neq_one k
  have hT := HR.out.inn.toks.below HB2.out (Nat.le_refl _)
  dsimp only at hT
  obtain ⟨b0, off, rfl, _, _⟩ := hT.2 (show 0 < b.toks.length by omega)
  obtain ⟨t0, t1, t2, t3⟩ := tk_at hT hkl
  have hk0 : (0 : Int) ≤ (k : Int) := by omega
  have hkI : (k : Int) < (b.toks.length : Int) := by omega
  have HSF := Lib.hid (fun W (hb : Below w2.heap.size w2 W) => And.intro (eight_facts (HHC.out.below (HB2.out.trans (hb.mono HB2.out.size)) (Nat.le_refl _))).1 (And.intro (below_cells hb t0) (And.intro (below_cells hb t1) (And.intro (below_cells hb t2) (below_cells hb t3)))))
  generalize hcn : ((outsB b.p b.toks[k]!.node).map Int.ofNat).contains flow = cn at *
  have HCN := Lib.hid hcn
  generalize htk : b.toks[k]! = tk at *
  obtain ⟨tid, tnode, tinn, tst⟩ := tk
  unfold Tk.val at HAW
  dsimp only at *
  have hbd : Below w2.heap.size w2 w2.drew := (Below.refl _ _).drew
  have HBD := Lib.hid (HB2.out.trans (hbd.mono HB2.out.size))
  clear hT hcn htk
  go_region_held3 (fun w' => (w'.cell? ⟨q, 0, none⟩ = some (.string b.p.name) ∧ w'.cell? ⟨q, 1, none⟩ = some (.slice A b.p.n c) ∧ w'.cell? ⟨q, 2, none⟩ = some (.slice F b.p.m d) ∧ w'.cell? ⟨q, 3, none⟩ = some (.slice V nv cv) ∧ w'.cell? ⟨q, 4, none⟩ = some (.slice (some ⟨b0, off, none⟩) b.toks.length ct) ∧ w'.cell? ⟨q, 5, none⟩ = some (.int .i64 kx) ∧ w'.cell? ⟨q, 6, none⟩ = some (.int .i64 (mv : Int)) ∧ w'.cell? ⟨q, 7, none⟩ = some (.string fl)) ∧ w'.cell? ⟨b0, off + k * 4, none⟩ = some (.int .i64 tid) ∧ w'.cell? ⟨b0, off + k * 4 + 1, none⟩ = some (.int .i64 tnode) ∧ w'.cell? ⟨b0, off + k * 4 + 2, none⟩ = some (.int .i64 tinn) ∧ w'.cell? ⟨b0, off + k * 4 + 3, none⟩ = some (.bool tst)) (first | exact HSF.out _ HB4.out | exact HSF.out _ HB3.out | exact HSF.out _ hbd) (first
    | (go_at_call 73; refine (HAW.out _ HBD.out).mono ?_; rintro e w3 ⟨rfl, hb3⟩; have HB3 := Lib.hid (hbd.trans hb3); clear hb3)
    | (go_at_call 75; refine (HOT.out w3 (HB2.out.trans (HB3.out.mono HB2.out.size))).mono ?_; rintro e w4 ⟨⟨Y, ki, ci, rfl, hoy⟩, hb4⟩; have HB4 := Lib.hid (HB3.out.trans (hb4.mono HB3.out.size)); obtain rfl : (outsB b.p tnode).length = ki := (by have := hoy.len; simpa using this); have HOY := Lib.hid hoy; clear hoy hb4)
    | (go_at_call 74; refine (containsI_any flow Y _ ci _ _ HOY.out.row (by have := HOL.out; have := HMS.out; omega)).mono ?_; rintro e w5 ⟨rfl, rfl⟩; rw [HCN.out]))
  have hbw : Below w1.heap.size w1 w4 := HB2.out.trans (HB4.out.mono HB2.out.size)
  have HR4 := Lib.hid (HR.out.below hbw)
  have HBW := Lib.hid (HB.out.trans (hbw.mono HB.out.size))
  have HC4 : Hid (Cel w4 q [.string b.p.name, .slice A b.p.n c, .slice F b.p.m d, .slice V nv cv, .slice (some ⟨b0, off, none⟩) b.toks.length ct, .int .i64 kx, .int .i64 (mv : Int), .string fl]) := Lib.hid (HHC.out.below hbw (Nat.le_refl _))
  clear t0 t1 t2 t3 hbd hbw HSF HAW HOT HIX
  cases cn
  · obtain ⟨rfl, rfl⟩ : ok = false ∧ b2 = b := by
      have h := HGB.out
      rw [if_neg (by decide)] at h
      exact ⟨congrArg Prod.fst h, congrArg Prod.snd h⟩
    clear HGB
    go_wp2
    go_ret
    exact ⟨⟨⟨b2.p.name, A, b2.p.n, c, F, b2.p.m, d, V, nv, cv, some ⟨b0, off, none⟩, b2.toks.length, ct, kx⟩, rfl, HR4.out⟩, grown_below HBW.out⟩
  · obtain ⟨f, hfm, hfe⟩ : ∃ f : Nat, f ∈ outsB b.p tnode ∧ Int.ofNat f = flow := List.mem_map.1 (List.contains_iff_mem.1 HCN.out)
    have hfe : flow = (f : Int) := hfe.symm
    subst hfe
    have hqw : q < w.heap.size := hq0
    have HAL := Lib.hid (along_any k f ⟨b.p.name, A, b.p.n, c, F, b.p.m, d, V, nv, cv, some ⟨b0, off, none⟩, b.toks.length, ct, kx⟩ b w4 HR4.out.inn HF.out hkl (outsB_lt hfm))
    unfold BdV.val at HAL
    dsimp only at HAL
    obtain ⟨⟨z0, z1, z2, z3, z4, z5, z6, z7⟩, _⟩ := eight_facts HC4.out
    obtain ⟨rfl, rfl⟩ : ok = true ∧ b2 = along b k f := by
      have h := HGB.out
      rw [if_pos rfl, Int.toNat_natCast] at h
      exact ⟨congrArg Prod.fst h, congrArg Prod.snd h⟩
    clear HCN hfm HGB
    go_upto_region 5 with (go_at_call 17; refine HAL.out.mono ?_; rintro e w5 ⟨⟨⟨ys, yA, yn, yc, yF, ym, yd, yV, ynv, ycv, yT, ynt, yct, yk⟩, rfl, hO⟩, hb5⟩; dsimp only)
    clear z0 z1 z2 z3 z4 z5 z6 z7
    have hba : Below w5.heap.size w5 (w5.alloc (.cells #[.string ys, .slice yA yn yc, .slice yF ym yd, .slice yV ynv ycv, .slice yT ynt yct, .int .i64 yk] 38)) := (Below.refl _ _).alloc (Nat.le_refl _) _
    have HBX := Lib.hid (Cel.lit w5 #[.string ys, .slice yA yn yc, .slice yF ym yd, .slice yV ynv ycv, .slice yT ynt yct, .int .i64 yk] 38)
    have HO1 := Lib.hid ((hO.lower HBW.out.size).below hba)
    have hb6 := hb5.trans (hba.mono hb5.size)
    have HBB := Lib.hid (HBW.out.trans (hb6.mono HBW.out.size))
    have HC1 : Hid (Cel (w5.alloc (.cells #[.string ys, .slice yA yn yc, .slice yF ym yd, .slice yV ynv ycv, .slice yT ynt yct, .int .i64 yk] 38)) q [.string b.p.name, .slice A b.p.n c, .slice F b.p.m d, .slice V nv cv, .slice (some ⟨b0, off, none⟩) b.toks.length ct, .int .i64 kx, .int .i64 (mv : Int), .string fl]) := Lib.hid (HC4.out.below hb6 (Nat.le_refl _))
    clear hba hb6 hO hb5 HAL
    generalize w5.alloc _ = wB at *
    generalize w5.heap.size = p1 at *
    obtain ⟨⟨z0, z1, z2, z3, z4, z5, z6, z7⟩, f0, f1, f2, f3, f4, f5, f6, f7⟩ := eight_facts HC1.out
    obtain ⟨⟨o0, o1, o2, o3, o4, o5⟩, _⟩ := six_facts HBX.out
    go_upto_region 8 with (fail)
    change Code.wp _ _ _ _ (six wB q ⟨ys, yA, yn, yc, yF, ym, yd, yV, ynv, ycv, yT, ynt, yct, yk⟩)
    clear z0 z1 z2 z3 z4 z5 z6 z7 f0 f1 f2 f3 f4 f5 f6 f7 o0 o1 o2 o3 o4 o5
    have HC2 : Hid (Cel (six wB q ⟨ys, yA, yn, yc, yF, ym, yd, yV, ynv, ycv, yT, ynt, yct, yk⟩) q [.string ys, .slice yA yn yc, .slice yF ym yd, .slice yV ynv ycv, .slice yT ynt yct, .int .i64 yk, .int .i64 (mv : Int), .string fl]) := Lib.hid (six8_cel (x := ⟨b.p.name, A, b.p.n, c, F, b.p.m, d, V, nv, cv, some ⟨b0, off, none⟩, b.toks.length, ct, kx⟩) HC1.out ⟨ys, yA, yn, yc, yF, ym, yd, yV, ynv, ycv, yT, ynt, yct, yk⟩)
    have hsg := six_grown wB q ⟨ys, yA, yn, yc, yF, ym, yd, yV, ynv, ycv, yT, ynt, yct, yk⟩
    have HO2 := Lib.hid (HO1.out.grown hqw hsg)
    have HG2 := Lib.hid (grown_trans (grown_below (q := q) HBB.out) hsg)
    clear hsg
    generalize six wB q ⟨ys, yA, yn, yc, yF, ym, yd, yV, ynv, ycv, yT, ynt, yct, yk⟩ = w6 at *
    go_wp2
    go_ret
    refine ⟨?_, HG2.out⟩
    first
      | exact ⟨⟨ys, yA, yn, yc, yF, ym, yd, yV, ynv, ycv, yT, ynt, yct, yk⟩, rfl, ⟨HC2.out, HO2.out.inn, HO2.out.off_of hqw⟩⟩
      | exact ⟨rfl, ⟨ys, yA, yn, yc, yF, ym, yd, yV, ynv, ycv, yT, ynt, yct, yk⟩, ⟨HC2.out, HO2.out.inn, HO2.out.off_of hqw⟩⟩
end Pr
end Go.Proofs.YtkffnfgdmcebdaaGreatDoor
