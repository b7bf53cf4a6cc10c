/- Package token: Step of a token that is ready. -/
import Derived.Test.YtkffnfgdmcebdaaGreatDoorYJoint13
import Derived.Test.YtkffnfgdmcebdaaGreatDoorYJoint12
namespace Go.Proofs.YtkffnfgdmcebdaaGreatDoor
open Go.RowKit

namespace Pr
theorem below_al {B : Nat} {w w' : World} (h : Below B w w') (hB : B ≤ w.heap.size) {o : Obj} : Below B w (w'.alloc o) := h.alloc (Nat.le_trans hB h.size) o
theorem below_dr {B : Nat} {w w' : World} (h : Below B w w') : Below B w w'.drew := h.drew
theorem below_at {B : Nat} {w w' : World} (h : Below B w w') {b i : Nat} (hb : B ≤ b) {v : Value} : Below B w (w'.setCell ⟨b, i, none⟩ v) := h.setCell (p := ⟨b, i, none⟩) hb v
/-- A move's two cells are written. -/
def mv2 (w : World) (z : Nat) (f : Bool) (c : ByteArray) : World := (w.setCell ⟨z, 0, none⟩ (.bool f)).setCell ⟨z, 1, none⟩ (.string c)
theorem mv2_grown (w : World) (z : Nat) (f : Bool) (c : ByteArray) : w.grownBy (mv2 w z f c) (some z) := set_grown (set_grown (World.grownBy.refl _ _) 0 _) 1 _
theorem mv2_cel {w : World} {z : Nat} {a0 a1 : Value} (h : Cel w z [a0, a1]) (f : Bool) (c : ByteArray) : Cel (mv2 w z f c) z [.bool f, .string c] := (h.set (i := 0) (by simp) _).set (i := 1) (by simp) _
theorem mv2_below {B : Nat} {a w : World} (h : Below B a w) {z : Nat} (hz : B ≤ z) (f : Bool) (c : ByteArray) : Below B a (mv2 w z f c) := (h.setCell hz _).setCell hz _
def StepOut (R : Bd × Bool × ByteArray × Int) (E : Int → Option Addr) (w : World) (e : Ending) (w' : World) : Prop :=
  (∃ (y : BdV) (ev : Value), e = .returned (.tuple #[y.val, .agg #[.bool R.2.1, .string R.2.2.1], ev]) ∧ SeenBy E ev R.2.2.2 ∧ BdOwn w' w.heap.size y R.1) ∧ Below w.heap.size w w'
set_option maxHeartbeats 6400000 in
set_option maxRecDepth 10000 in
theorem step_any (E : Int → Option Addr) (i : Nat) (x : BdV) (b : Bd) (w : World) (hx : BdIn w w.heap.size x b) (hf : b.Few) (hm : b.p.m ≤ 90000) (ha : Asc b.toks) (hr : Rdy b i)
    (hc : ∀ u : Nat, b.toks[i]!.node = (u : Int) → ∀ f ∈ outsB b.p u, CondOk E w x.V x.nv x.cv b.vars b.p.flows[f]!.cond) (hE : ErrIn w E 116 2) (hE2 : ErrIn w E 104 1) :
    Calls Tryz.prog 20 #[x.val, .int .i64 (i : Int)] w (StepOut (bstep b i) E w) := by
  obtain ⟨i', hii, hil, hst, u, hiu, hun, _⟩ := id hr
  obtain rfl : i = i' := by omega
  have HX := Lib.hid hx
  have HF := Lib.hid hf
  have HP := Lib.hid (Cp.lit w x.list 38)
  have HRD := Lib.hid hr
  have HRY := Lib.hid (fun (W : World) (hb : Below w.heap.size w W) => ready_any (i : Int) x b W (hx.on hb) hf ha)
  have HST := Lib.hid (fun (W : World) (hb : Below w.heap.size w W) => stepped_any E i u x b W (hx.on hb) hil hiu hun hf hm ha (fun f h => (hc u hiu f h).on hb) (hE.below hb))
  have HE2 := Lib.hid hE2
  have HUU := Lib.hid hiu
  have hn := hx.hn
  have ht := hx.ht
  clear hx hf ha hc hE hE2 hr hii hst
  obtain ⟨s, A, n, c, F, m, d, V, nv, cv, T, nt, ct, k⟩ := x
  unfold BdV.val at *
  unfold BdV.list at *
  dsimp only at *
  subst hn ht
  go_enter Tryz.func20, Tryz.ntmps20
  go_upto_region 1 with (fail)
  unfold zeroB at HP
  have HMV := Lib.hid (Cel.lit ((w.alloc (.cells #[.string s, .slice A b.p.n c, .slice F m d, .slice V nv cv, .slice T b.toks.length ct, .int .i64 k] 38)).alloc (.cells #[.string ⟨#[]⟩, .slice none 0 0, .slice none 0 0, .slice none 0 0, .slice none 0 0, .int .i64 0] 38)) #[.bool false, .string ⟨#[]⟩] 54)
  have HP1 := Lib.hid (HP.out.below ((Below.refl _ _).alloc (Nat.le_refl _) (.cells #[.bool false, .string ⟨#[]⟩] 54)))
  have esz : ((w.alloc (.cells #[.string s, .slice A b.p.n c, .slice F m d, .slice V nv cv, .slice T b.toks.length ct, .int .i64 k] 38)).alloc (.cells #[.string ⟨#[]⟩, .slice none 0 0, .slice none 0 0, .slice none 0 0, .slice none 0 0, .int .i64 0] 38)).heap.size = w.heap.size + 2 := by simp
  rw [esz] at HMV
  clear esz HP
  generalize ((w.alloc _).alloc _).alloc _ = wa at *
  obtain ⟨⟨z0, z1, z2, z3, z4, z5⟩, _⟩ := six_facts HP1.out.box
  have HR1 := Lib.hid (HRY.out wa HP1.out.bel)
  clear HRY
  go_upto_region 3 with (go_at_call 14; refine HR1.out.mono ?_; rintro e w1 ⟨⟨r, rfl, hr1⟩, hb1⟩; obtain rfl : r = true := hr1.2 HRD.out)
  have HP2 := Lib.hid (HP1.out.below hb1)
  have HM2 := Lib.hid (HMV.out.below hb1 (Nat.le_refl _))
  clear z0 z1 z2 z3 z4 z5 hb1 hr1 HP1 HMV HR1
  have hT := HX.out.toks.below HP2.out.bel (Nat.le_refl _)
  obtain ⟨b0, off, rfl, _, _⟩ := hT.2 (show 0 < b.toks.length by omega)
  obtain ⟨t0, t1, t2, t3⟩ := tk_at hT hil
  rw [hiu] at t1
  have hN := HX.out.nodes.below HP2.out.bel (Nat.le_refl _)
  obtain ⟨b1, off1, rfl, _, _⟩ := hN.2 (show 0 < b.p.n by omega)
  obtain ⟨n0, n1, n2, n3, n4, n5, n6, n7⟩ := nd_at hN hun
  have hi0 : (0 : Int) ≤ (i : Int) := by omega
  have hiI : (i : Int) < (b.toks.length : Int) := by omega
  have hu0 : (0 : Int) ≤ (u : Int) := by omega
  have huI : (u : Int) < (b.p.n : Int) := by omega
  have HSF := Lib.hid (fun W (hb : Below w1.heap.size w1 W) => And.intro (six_facts (HP2.out.box.below hb (Nat.le_refl _))).1 (And.intro (below_cells hb t1) (And.intro (below_cells hb n0) (And.intro (below_cells hb n1) (And.intro (below_cells hb n2) (And.intro (below_cells hb n3) (And.intro (below_cells hb n4) (And.intro (below_cells hb n5) (And.intro (below_cells hb n6) (below_cells hb n7)))))))))) 
  have hbs : bstep b i = (let r := moved b (goes b i u) (outWays b u).2
    let e := if (outWays b u).1 ≠ 0 then (outWays b u).1 else if 40 < r.toks.length then 104 else 0
    if e ≠ 0 then (stuckAt b i, false, no, e) else (r, true, if b.p.nodes[u]!.kind = 3 then b.p.nodes[u]!.code else no, 0)) := by
    unfold bstep
    rw [hiu, Int.toNat_natCast]
  have HBS := Lib.hid hbs
  clear hT hN t0 t2 t3 hbs hiu
  generalize b.p.nodes[u]! = nd at *
  obtain ⟨kd, tp, pr, rt, df, co, ca, tg⟩ := nd
  dsimp only at *
  go_region_held3 (fun w' => (w'.cell? ⟨w.heap.size, 0, none⟩ = some (.string s) ∧ w'.cell? ⟨w.heap.size, 1, none⟩ = some (.slice (some ⟨b1, off1, none⟩) b.p.n c) ∧ w'.cell? ⟨w.heap.size, 2, none⟩ = some (.slice F m d) ∧ w'.cell? ⟨w.heap.size, 3, none⟩ = some (.slice V nv cv) ∧ w'.cell? ⟨w.heap.size, 4, none⟩ = some (.slice (some ⟨b0, off, none⟩) b.toks.length ct) ∧ w'.cell? ⟨w.heap.size, 5, none⟩ = some (.int .i64 k)) ∧ w'.cell? ⟨b0, off + i * 4 + 1, none⟩ = some (.int .i64 (u : Int)) ∧
    w'.cell? ⟨b1, off1 + u * 8, none⟩ = some (.int .i64 kd) ∧ w'.cell? ⟨b1, off1 + u * 8 + 1, none⟩ = some (.string tp) ∧ w'.cell? ⟨b1, off1 + u * 8 + 2, none⟩ = some (.int .i64 pr) ∧ w'.cell? ⟨b1, off1 + u * 8 + 3, none⟩ = some (.int .i64 rt) ∧ w'.cell? ⟨b1, off1 + u * 8 + 4, none⟩ = some (.int .i64 df) ∧ w'.cell? ⟨b1, off1 + u * 8 + 5, none⟩ = some (.string co) ∧ w'.cell? ⟨b1, off1 + u * 8 + 6, none⟩ = some (.string ca) ∧ w'.cell? ⟨b1, off1 + u * 8 + 7, none⟩ = some (.int .i64 tg))
    (exact HSF.out _ (by with_reducible repeat (first | exact Below.refl _ _ | refine below_al ?_ (Nat.le_refl _) | refine below_dr ?_ | refine below_at ?_ (Nat.le_refl _)))) (fail)
  have hb12 : Below w1.heap.size w1 (w1.alloc (.cells #[.int .i64 kd, .string tp, .int .i64 pr, .int .i64 rt, .int .i64 df, .string co, .string ca, .int .i64 tg] 44)).drew := ((Below.refl _ _).alloc (Nat.le_refl _) _).drew
  have HP3 := Lib.hid (HP2.out.below hb12)
  have HM3 : Hid (Cel _ (w.heap.size + 1 + 1) _) := Lib.hid (HM2.out.below hb12 (Nat.le_refl _))
  have HN3 := Lib.hid ((Cel.lit w1 #[.int .i64 kd, .string tp, .int .i64 pr, .int .i64 rt, .int .i64 df, .string co, .string ca, .int .i64 tg] 44).below (Below.refl _ _).drew (Nat.le_refl _))
  have hqn : w.heap.size + 2 ≤ w1.heap.size := HP2.out.B1
  clear HSF t1 n0 n1 n2 n3 n4 n5 n6 n7 HM2 hb12
  generalize World.drew _ = w2 at *
  generalize w1.heap.size = qn at *
  have HS2 := Lib.hid (HST.out w2 HP3.out.bel)
  obtain ⟨⟨z0, z1, z2, z3, z4, z5⟩, _⟩ := six_facts HP3.out.box
  go_upto_region 5 with (go_at_call 59; refine HS2.out.mono ?_; rintro e w6 ⟨⟨⟨ys, yA, yn, yc, yF, ym, yd, yV, ynv, ycv, yT, ynt, yct, yk⟩, ev, rfl, hs, ho⟩, hb6⟩; dsimp only [BdV.val])
  have hb67 : Below w6.heap.size w6 (w6.alloc (.cells #[.string ys, .slice yA yn yc, .slice yF ym yd, .slice yV ynv ycv, .slice yT ynt yct, .int .i64 yk] 38)) := (Below.refl _ _).alloc (Nat.le_refl _) _
  have hb7 := hb6.trans (hb67.mono hb6.size)
  have HP7 := Lib.hid (HP3.out.below hb7)
  have HM7 := Lib.hid (HM3.out.below hb7 (Nat.le_refl _))
  have HN7 := Lib.hid (HN3.out.below hb7 (Nat.le_refl _))
  have HO7 := Lib.hid (Cel.lit w6 #[.string ys, .slice yA yn yc, .slice yF ym yd, .slice yV ynv ycv, .slice yT ynt yct, .int .i64 yk] 38)
  have HY7 := Lib.hid (fun h => (ho h).below hb67)
  have HSV := Lib.hid hs
  have hqo : w.heap.size + 2 ≤ w6.heap.size := (by have := hb6.size; have := HN3.out.lt; omega)
  have hqnl : qn < w6.heap.size := Nat.lt_of_lt_of_le HN3.out.lt hb6.size
  have hw2 : w.heap.size + 2 < w2.heap.size := (by have := HN3.out.lt; omega)
  clear z0 z1 z2 z3 z4 z5 hb67 hb6 hb7 ho hs HP3 HM3 HN3 HS2 HST
  generalize w6.alloc _ = w7 at *
  generalize w6.heap.size = qo at *
  have hwy := HBS.out
  generalize hRE : outWays b u = R at *
  obtain ⟨cd, fs⟩ := R
  dsimp only at *
  by_cases h0 : cd = 0
  · subst h0
    obtain rfl := seen_nil HSV.out
    have HYO := Lib.hid (HY7.out rfl)
    have hynt : ynt = (moved b (goes b i u) fs).toks.length := HYO.out.inn.ht
    by_cases hlen : 40 < (moved b (goes b i u) fs).toks.length
    · obtain ⟨em, he1, he2⟩ := HE2.out.below HP7.out.bel
      have HKM := Lib.hid he1
      have HBS2 : Hid (bstep b i = (stuckAt b i, false, no, 104)) := Lib.hid (by rw [hwy]; simp [hlen])
      have h40 : (40 : Int) < (ynt : Int) := by omega
      unfold errV at he2
      clear he1 hwy HBS HYO HY7 hynt hlen
      have HCP := Lib.hid (copied_any ⟨s, some ⟨b1, off1, none⟩, b.p.n, c, F, m, d, V, nv, cv, some ⟨b0, off, none⟩, b.toks.length, ct, k⟩ b w7 (HX.out.on HP7.out.bel) HF.out)
      unfold BdV.val at HCP
      dsimp only at HCP
      obtain ⟨⟨z0, z1, z2, z3, z4, z5⟩, _⟩ := six_facts HP7.out.box
      obtain ⟨⟨o0, o1, o2, o3, o4, o5⟩, f0, f1, f2, f3, f4, f5⟩ := six_facts HO7.out
      go_upto_region 9 with (go_at_call 58; refine HCP.out.mono ?_; rintro e w8 ⟨⟨q, rfl, hO⟩, hb8⟩; have HP8 := Lib.hid (HP7.out.below hb8); have HM8 := Lib.hid (HM7.out.below hb8 (Nat.le_refl _)); have HO8 := Lib.hid (HO7.out.below hb8 (Nat.le_refl _)); have HOW := Lib.hid hO; have hql : qo < w8.heap.size := HO8.out.lt; have hq7 : qo < w7.heap.size := HO7.out.lt; clear o0 o1 o2 o3 o4 o5 f0 f1 f2 f3 f4 f5; obtain ⟨⟨o0, o1, o2, o3, o4, o5⟩, f0, f1, f2, f3, f4, f5⟩ := six_facts HO8.out; clear hO hb8)
      have HO9 := Lib.hid (six_cel HO8.out q)
      have HW9 := Lib.hid (HOW.out.grown hq7 (six_grown w8 qo q))
      have HM9 := Lib.hid (HM8.out.kept (six_grown w8 qo q) (fun e => by have h2 : qo = w.heap.size + 1 + 1 := Option.some.inj e; omega))
      have HZ9 := Lib.hid (HP8.out.res.kept (six_grown w8 qo q) (fun e => by have h2 : qo = w.heap.size + 1 := Option.some.inj e; omega))
      have HB9 := Lib.hid (six_below HP8.out.bel (z := qo) (by omega) q)
      clear z0 z1 z2 z3 z4 z5 o0 o1 o2 o3 o4 o5 f0 f1 f2 f3 f4 f5
      have hnt : q.nt = b.toks.length := HOW.out.inn.ht
      obtain ⟨gq, hgq, hgb, hgl⟩ := HW9.out.toks.some_of (by omega)
      obtain ⟨qs, qA, qn2, qc, qF, qm, qd, qV, qnv, qcv, qT, qnt, qct, qk⟩ := q
      dsimp only at hnt hgq
      subst hnt hgq
      change Code.wp _ _ _ _ (six w8 qo ⟨qs, qA, qn2, qc, qF, qm, qd, qV, qnv, qcv, some ⟨gq, 0, none⟩, b.toks.length, qct, qk⟩)
      generalize six w8 qo ⟨qs, qA, qn2, qc, qF, qm, qd, qV, qnv, qcv, some ⟨gq, 0, none⟩, b.toks.length, qct, qk⟩ = w9 at *
      obtain ⟨⟨o0, o1, o2, o3, o4, o5⟩, _⟩ := six_facts HO9.out
      have hst : w9.cell? ⟨gq, i * 4 + 3, none⟩ = some (.bool b.toks[i]!.stuck) := by
        have h := (tk_at HW9.out.toks.row hil).2.2.2
        rwa [Nat.zero_add] at h
      have hfz : w9.frozen? ⟨gq, i * 4 + 3, none⟩ = false := HW9.out.toks.frozen _
      have HS := Lib.hid (HW9.out.toks.set (fun t : Tk => { t with stuck := true }) 3 (.bool true) (by decide) (fun t => rfl) (j := i) hil)
      have hs9 : w9.grownBy (w9.setCell ⟨gq, i * 4 + 3, none⟩ (.bool true)) (some gq) := grown_setCell w9 ⟨gq, i * 4 + 3, none⟩ _
      have hne : ∀ {α : Type} {κ : Cs α} {e : TypeId} {A : Option Addr} {n c : Nat} {l : List α}, OwnK κ w9 w7.heap.size e A n c l → e ≠ 35 → OwnK κ (w9.setCell ⟨gq, i * 4 + 3, none⟩ (.bool true)) w7.heap.size e A n c l := fun hh he => hh.kept hs9 fun a ha e => hh.apart HW9.out.toks he ha rfl (Option.some.inj e).symm
      have HWF := Lib.hid (show BdOwn (w9.setCell ⟨gq, i * 4 + 3, none⟩ (.bool true)) w7.heap.size ⟨qs, qA, qn2, qc, qF, qm, qd, qV, qnv, qcv, some ⟨gq, 0, none⟩, b.toks.length, qct, qk⟩ (stuckAt b i) from ⟨HW9.out.s, HW9.out.k, hne HW9.out.nodes (by decide), hne HW9.out.flows (by decide), hne HW9.out.vars (by decide), HS.out⟩)
      have HMF := Lib.hid (HM9.out.kept hs9 (fun e => by have h2 : gq = w.heap.size + 1 + 1 := Option.some.inj e; omega))
      have HZF := Lib.hid (HZ9.out.kept hs9 (fun e => by have h2 : gq = w.heap.size + 1 := Option.some.inj e; omega))
      have HOF := Lib.hid (HO9.out.kept hs9 (fun e => by have h2 : gq = qo := Option.some.inj e; omega))
      have HBF := Lib.hid (HB9.out.setCell (p := ⟨gq, i * 4 + 3, none⟩) (by show w.heap.size ≤ gq; omega) (.bool true))
      clear hne hs9
      go_upto_region 10 with (fail)
      generalize w9.setCell ⟨gq, i * 4 + 3, none⟩ (.bool true) = wg at *
      have hzl := HZF.out.lt
      have hml := HMF.out.lt
      obtain ⟨⟨o0, o1, o2, o3, o4, o5⟩, _⟩ := six_facts HOF.out
      obtain ⟨⟨g0, g1, g2, g3, g4, g5⟩, e0, e1, e2, e3, e4, e5⟩ := six_facts HZF.out
      have m0 := HMF.out.cell 0 _ rfl
      have m1 := HMF.out.cell 1 _ rfl
      have l0 := HMF.out.froz 0 (by simp)
      have l1 := HMF.out.froz 1 (by simp)
      have hA := six_grown wg (w.heap.size + 1) ⟨qs, qA, qn2, qc, qF, qm, qd, qV, qnv, qcv, some ⟨gq, 0, none⟩, b.toks.length, qct, qk⟩
      have hC := six_cel HZF.out ⟨qs, qA, qn2, qc, qF, qm, qd, qV, qnv, qcv, some ⟨gq, 0, none⟩, b.toks.length, qct, qk⟩
      have hB := six_below HBF.out (z := w.heap.size + 1) (by omega) ⟨qs, qA, qn2, qc, qF, qm, qd, qV, qnv, qcv, some ⟨gq, 0, none⟩, b.toks.length, qct, qk⟩
      generalize hwz : six wg (w.heap.size + 1) ⟨qs, qA, qn2, qc, qF, qm, qd, qV, qnv, qcv, some ⟨gq, 0, none⟩, b.toks.length, qct, qk⟩ = wz at hA hB hC
      have hO := HWF.out.grown (z := w.heap.size + 1) (by omega) hA
      have hM := HMF.out.kept hA (fun e => by have h2 : w.heap.size + 1 = w.heap.size + 1 + 1 := Option.some.inj e; omega)
      have hA2 := mv2_grown wz (w.heap.size + 1 + 1) false ⟨#[]⟩
      have hM2 := mv2_cel hM false ⟨#[]⟩
      have hC2 := hC.kept hA2 (fun e => by have h2 : w.heap.size + 1 + 1 = w.heap.size + 1 := Option.some.inj e; omega)
      have hO2 := hO.grown (z := w.heap.size + 1 + 1) (by omega) hA2
      have hB2 := mv2_below hB (z := w.heap.size + 1 + 1) (by omega) false ⟨#[]⟩
      generalize hwf : mv2 wz (w.heap.size + 1 + 1) false ⟨#[]⟩ = wf at hA2 hM2 hC2 hO2 hB2
      have HWZ := Lib.hid hwz
      have HWE := Lib.hid hwf
      have HW1 := Lib.hid (hO2.lower (B' := w.heap.size) (by omega))
      have HC1 := Lib.hid hC2
      have HM1 := Lib.hid hM2
      have HB1 := Lib.hid hB2
      clear hA hB hC hO hM hA2 hM2 hC2 hO2 hB2 hwz hwf
      go_wp2
      clear o0 o1 o2 o3 o4 o5 g0 g1 g2 g3 g4 g5 e0 e1 e2 e3 e4 e5 m0 m1 l0 l1
      change bodyPost _ _ _ _ _ (mv2 (six wg (w.heap.size + 1) ⟨qs, qA, qn2, qc, qF, qm, qd, qV, qnv, qcv, some ⟨gq, 0, none⟩, b.toks.length, qct, qk⟩) (w.heap.size + 1 + 1) false ⟨#[]⟩)
      rw [HWZ.out, HWE.out]
      obtain ⟨⟨j0, j1, j2, j3, j4, j5⟩, _⟩ := six_facts HC1.out
      have k0 := HM1.out.cell 0 _ rfl
      have k1 := HM1.out.cell 1 _ rfl
      exact bodyPost_ret (v := .tuple #[BdV.val ⟨qs, qA, qn2, qc, qF, qm, qd, qV, qnv, qcv, some ⟨gq, 0, none⟩, b.toks.length, qct, qk⟩, .agg #[.bool false, .string ⟨#[]⟩], errV em]) (by simp [results, Tryz.results20, go_sem, j0, j1, j2, j3, j4, j5, k0, k1, BdV.val, errV]) rfl ⟨⟨⟨qs, qA, qn2, qc, qF, qm, qd, qV, qnv, qcv, some ⟨gq, 0, none⟩, b.toks.length, qct, qk⟩, errV em, by rw [HBS2.out]; rfl, by rw [HBS2.out]; exact .err 104 em HKM.out (by decide), by rw [HBS2.out]; exact HW1.out⟩, HB1.out⟩
    · have h40 : ¬ (40 : Int) < (ynt : Int) := by omega
      clear hynt
      by_cases hkd : kd = 3
      · subst hkd
        have HBS2 : Hid (bstep b i = (moved b (goes b i u) fs, true, co, 0)) := Lib.hid (by rw [hwy]; simp [hlen])
        clear hwy HBS hlen
        obtain ⟨⟨o0, o1, o2, o3, o4, o5⟩, _⟩ := six_facts HO7.out
        have n0 := HN7.out.cell 0 _ rfl
        have n5 := HN7.out.cell 5 _ rfl
        have hnl := HN7.out.lt
        have hnne : ¬ qn = w7.heap.size := by omega
        have hb8 : Below w7.heap.size w7 (w7.alloc (.cells #[.bool true, .string co] 54)) := (Below.refl _ _).alloc (Nat.le_refl _) _
        have HMM := Lib.hid (Cel.lit w7 #[.bool true, .string co] 54)
        have HO8 := Lib.hid (HO7.out.below hb8 (Nat.le_refl _))
        have HZF := Lib.hid (HP7.out.res.below hb8 (Nat.le_refl _))
        have HMF := Lib.hid (HM7.out.below hb8 (Nat.le_refl _))
        have HWF := Lib.hid (HYO.out.below hb8)
        have HBF := Lib.hid (HP7.out.bel.trans (hb8.mono HP7.out.bel.size))
        go_upto_region 14 with (fail)
        generalize hw8 : w7.alloc (.cells #[.bool true, .string co] 54) = w8 at *
        generalize hp8 : w7.heap.size = p8 at *
        clear o0 o1 o2 o3 o4 o5 n0 n5 hw8 hb8
        obtain ⟨⟨o0, o1, o2, o3, o4, o5⟩, _⟩ := six_facts HO8.out
        have m0 := HMM.out.cell 0 _ rfl
        have m1 := HMM.out.cell 1 _ rfl
        obtain ⟨⟨g0, g1, g2, g3, g4, g5⟩, e0, e1, e2, e3, e4, e5⟩ := six_facts HZF.out
        have v0 := HMF.out.cell 0 _ rfl
        have v1 := HMF.out.cell 1 _ rfl
        have l0 := HMF.out.froz 0 (by simp)
        have l1 := HMF.out.froz 1 (by simp)
        have hA := six_grown w8 (w.heap.size + 1) ⟨ys, yA, yn, yc, yF, ym, yd, yV, ynv, ycv, yT, ynt, yct, yk⟩
        have hC := six_cel HZF.out ⟨ys, yA, yn, yc, yF, ym, yd, yV, ynv, ycv, yT, ynt, yct, yk⟩
        have hB := six_below HBF.out (z := w.heap.size + 1) (by omega) ⟨ys, yA, yn, yc, yF, ym, yd, yV, ynv, ycv, yT, ynt, yct, yk⟩
        generalize hwz : six w8 (w.heap.size + 1) ⟨ys, yA, yn, yc, yF, ym, yd, yV, ynv, ycv, yT, ynt, yct, yk⟩ = wz at hA hB hC
        have hO := HWF.out.grown (z := w.heap.size + 1) (by omega) hA
        have hM := HMF.out.kept hA (fun e => by have h2 : w.heap.size + 1 = w.heap.size + 1 + 1 := Option.some.inj e; omega)
        have hA2 := mv2_grown wz (w.heap.size + 1 + 1) true co
        have hM2 := mv2_cel hM true co
        have hC2 := hC.kept hA2 (fun e => by have h2 : w.heap.size + 1 + 1 = w.heap.size + 1 := Option.some.inj e; omega)
        have hO2 := hO.grown (z := w.heap.size + 1 + 1) (by omega) hA2
        have hB2 := mv2_below hB (z := w.heap.size + 1 + 1) (by omega) true co
        generalize hwf : mv2 wz (w.heap.size + 1 + 1) true co = wf at hA2 hM2 hC2 hO2 hB2
        have HWZ := Lib.hid hwz
        have HWE := Lib.hid hwf
        have hdr : Below wf.heap.size wf wf.drew := (Below.refl _ _).drew
        have HW1 := Lib.hid ((hO2.lower (B' := w.heap.size) (by omega)).below hdr)
        have HC1 := Lib.hid (hC2.below hdr (Nat.le_refl _))
        have HM1 := Lib.hid (hM2.below hdr (Nat.le_refl _))
        have HB1 := Lib.hid (hB2.trans (hdr.mono hB2.size))
        clear hA hB hC hO hM hA2 hM2 hC2 hO2 hB2 hwz hwf hdr
        go_region
        all_goals
          clear o0 o1 o2 o3 o4 o5 g0 g1 g2 g3 g4 g5 e0 e1 e2 e3 e4 e5 m0 m1 v0 v1 l0 l1
          go_wp2
          change bodyPost _ _ _ _ _ (mv2 (six w8 (w.heap.size + 1) ⟨ys, yA, yn, yc, yF, ym, yd, yV, ynv, ycv, yT, ynt, yct, yk⟩) (w.heap.size + 1 + 1) true co).drew
          rw [HWZ.out, HWE.out]
          generalize wf.drew = wl at *
          obtain ⟨⟨j0, j1, j2, j3, j4, j5⟩, _⟩ := six_facts HC1.out
          have k0 := HM1.out.cell 0 _ rfl
          have k1 := HM1.out.cell 1 _ rfl
          exact bodyPost_ret (v := .tuple #[BdV.val ⟨ys, yA, yn, yc, yF, ym, yd, yV, ynv, ycv, yT, ynt, yct, yk⟩, .agg #[.bool true, .string co], .nilIface]) (by simp [results, Tryz.results20, go_sem, j0, j1, j2, j3, j4, j5, k0, k1, BdV.val]) rfl ⟨⟨⟨ys, yA, yn, yc, yF, ym, yd, yV, ynv, ycv, yT, ynt, yct, yk⟩, .nilIface, (by rw [HBS2.out] <;> rfl), by rw [HBS2.out]; exact .nil, by rw [HBS2.out]; exact HW1.out⟩, HB1.out⟩
      · have hkB : (kd == 3) = false := by rw [beq_eq_false_iff_ne]; exact hkd
        have HBS2 : Hid (bstep b i = (moved b (goes b i u) fs, true, no, 0)) := Lib.hid (by rw [hwy]; simp [hlen, hkd])
        clear hwy HBS hlen
        obtain ⟨⟨o0, o1, o2, o3, o4, o5⟩, _⟩ := six_facts HO7.out
        have n0 := HN7.out.cell 0 _ rfl
        have n5 := HN7.out.cell 5 _ rfl
        have hnl := HN7.out.lt
        have hnne : ¬ qn = w7.heap.size := by omega
        have hb8 : Below w7.heap.size w7 (w7.alloc (.cells #[.bool true, .string ⟨#[]⟩] 54)) := (Below.refl _ _).alloc (Nat.le_refl _) _
        have HMM := Lib.hid (Cel.lit w7 #[.bool true, .string ⟨#[]⟩] 54)
        have HO8 := Lib.hid (HO7.out.below hb8 (Nat.le_refl _))
        have HZF := Lib.hid (HP7.out.res.below hb8 (Nat.le_refl _))
        have HMF := Lib.hid (HM7.out.below hb8 (Nat.le_refl _))
        have HWF := Lib.hid (HYO.out.below hb8)
        have HBF := Lib.hid (HP7.out.bel.trans (hb8.mono HP7.out.bel.size))
        go_upto_region 14 with (fail)
        generalize hw8 : w7.alloc (.cells #[.bool true, .string ⟨#[]⟩] 54) = w8 at *
        generalize hp8 : w7.heap.size = p8 at *
        clear o0 o1 o2 o3 o4 o5 n0 n5 hw8 hb8
        obtain ⟨⟨o0, o1, o2, o3, o4, o5⟩, _⟩ := six_facts HO8.out
        have m0 := HMM.out.cell 0 _ rfl
        have m1 := HMM.out.cell 1 _ rfl
        obtain ⟨⟨g0, g1, g2, g3, g4, g5⟩, e0, e1, e2, e3, e4, e5⟩ := six_facts HZF.out
        have v0 := HMF.out.cell 0 _ rfl
        have v1 := HMF.out.cell 1 _ rfl
        have l0 := HMF.out.froz 0 (by simp)
        have l1 := HMF.out.froz 1 (by simp)
        have hA := six_grown w8 (w.heap.size + 1) ⟨ys, yA, yn, yc, yF, ym, yd, yV, ynv, ycv, yT, ynt, yct, yk⟩
        have hC := six_cel HZF.out ⟨ys, yA, yn, yc, yF, ym, yd, yV, ynv, ycv, yT, ynt, yct, yk⟩
        have hB := six_below HBF.out (z := w.heap.size + 1) (by omega) ⟨ys, yA, yn, yc, yF, ym, yd, yV, ynv, ycv, yT, ynt, yct, yk⟩
        generalize hwz : six w8 (w.heap.size + 1) ⟨ys, yA, yn, yc, yF, ym, yd, yV, ynv, ycv, yT, ynt, yct, yk⟩ = wz at hA hB hC
        have hO := HWF.out.grown (z := w.heap.size + 1) (by omega) hA
        have hM := HMF.out.kept hA (fun e => by have h2 : w.heap.size + 1 = w.heap.size + 1 + 1 := Option.some.inj e; omega)
        have hA2 := mv2_grown wz (w.heap.size + 1 + 1) true ⟨#[]⟩
        have hM2 := mv2_cel hM true ⟨#[]⟩
        have hC2 := hC.kept hA2 (fun e => by have h2 : w.heap.size + 1 + 1 = w.heap.size + 1 := Option.some.inj e; omega)
        have hO2 := hO.grown (z := w.heap.size + 1 + 1) (by omega) hA2
        have hB2 := mv2_below hB (z := w.heap.size + 1 + 1) (by omega) true ⟨#[]⟩
        generalize hwf : mv2 wz (w.heap.size + 1 + 1) true ⟨#[]⟩ = wf at hA2 hM2 hC2 hO2 hB2
        have HWZ := Lib.hid hwz
        have HWE := Lib.hid hwf
        have hdr : Below wf.heap.size wf wf.drew := (Below.refl _ _).drew
        have HW1 := Lib.hid ((hO2.lower (B' := w.heap.size) (by omega)).below hdr)
        have HC1 := Lib.hid (hC2.below hdr (Nat.le_refl _))
        have HM1 := Lib.hid (hM2.below hdr (Nat.le_refl _))
        have HB1 := Lib.hid (hB2.trans (hdr.mono hB2.size))
        clear hA hB hC hO hM hA2 hM2 hC2 hO2 hB2 hwz hwf hdr
        go_region
        all_goals
          clear o0 o1 o2 o3 o4 o5 g0 g1 g2 g3 g4 g5 e0 e1 e2 e3 e4 e5 m0 m1 v0 v1 l0 l1
          go_wp2
          change bodyPost _ _ _ _ _ (mv2 (six w8 (w.heap.size + 1) ⟨ys, yA, yn, yc, yF, ym, yd, yV, ynv, ycv, yT, ynt, yct, yk⟩) (w.heap.size + 1 + 1) true ⟨#[]⟩).drew
          rw [HWZ.out, HWE.out]
          generalize wf.drew = wl at *
          obtain ⟨⟨j0, j1, j2, j3, j4, j5⟩, _⟩ := six_facts HC1.out
          have k0 := HM1.out.cell 0 _ rfl
          have k1 := HM1.out.cell 1 _ rfl
          exact bodyPost_ret (v := .tuple #[BdV.val ⟨ys, yA, yn, yc, yF, ym, yd, yV, ynv, ycv, yT, ynt, yct, yk⟩, .agg #[.bool true, .string ⟨#[]⟩], .nilIface]) (by simp [results, Tryz.results20, go_sem, j0, j1, j2, j3, j4, j5, k0, k1, BdV.val]) rfl ⟨⟨⟨ys, yA, yn, yc, yF, ym, yd, yV, ynv, ycv, yT, ynt, yct, yk⟩, .nilIface, (by rw [HBS2.out] <;> rfl), by rw [HBS2.out]; exact .nil, by rw [HBS2.out]; exact HW1.out⟩, HB1.out⟩
  obtain ⟨ea, rfl, hka⟩ := seen_err HSV.out h0
  have HKA := Lib.hid hka
  have H0 := Lib.hid h0
  have HBS2 : Hid (bstep b i = (stuckAt b i, false, no, cd)) := Lib.hid (by rw [hwy]; simp only [h0, ne_eq, not_false_eq_true, if_true])
  unfold errV
  clear hka hwy HBS
  have HCP := Lib.hid (copied_any ⟨s, some ⟨b1, off1, none⟩, b.p.n, c, F, m, d, V, nv, cv, some ⟨b0, off, none⟩, b.toks.length, ct, k⟩ b w7 (HX.out.on HP7.out.bel) HF.out)
  unfold BdV.val at HCP
  dsimp only at HCP
  obtain ⟨⟨z0, z1, z2, z3, z4, z5⟩, _⟩ := six_facts HP7.out.box
  obtain ⟨⟨o0, o1, o2, o3, o4, o5⟩, f0, f1, f2, f3, f4, f5⟩ := six_facts HO7.out
  go_upto_region 9 with (go_at_call 58; refine HCP.out.mono ?_; rintro e w8 ⟨⟨q, rfl, hO⟩, hb8⟩; have HP8 := Lib.hid (HP7.out.below hb8); have HM8 := Lib.hid (HM7.out.below hb8 (Nat.le_refl _)); have HO8 := Lib.hid (HO7.out.below hb8 (Nat.le_refl _)); have HOW := Lib.hid hO; have hql : qo < w8.heap.size := HO8.out.lt; have hq7 : qo < w7.heap.size := HO7.out.lt; clear o0 o1 o2 o3 o4 o5 f0 f1 f2 f3 f4 f5; obtain ⟨⟨o0, o1, o2, o3, o4, o5⟩, f0, f1, f2, f3, f4, f5⟩ := six_facts HO8.out; clear hO hb8)
  have HO9 := Lib.hid (six_cel HO8.out q)
  have HW9 := Lib.hid (HOW.out.grown hq7 (six_grown w8 qo q))
  have HM9 := Lib.hid (HM8.out.kept (six_grown w8 qo q) (fun e => by have h2 : qo = w.heap.size + 1 + 1 := Option.some.inj e; omega))
  have HZ9 := Lib.hid (HP8.out.res.kept (six_grown w8 qo q) (fun e => by have h2 : qo = w.heap.size + 1 := Option.some.inj e; omega))
  have HB9 := Lib.hid (six_below HP8.out.bel (z := qo) (by omega) q)
  clear z0 z1 z2 z3 z4 z5 o0 o1 o2 o3 o4 o5 f0 f1 f2 f3 f4 f5
  have hnt : q.nt = b.toks.length := HOW.out.inn.ht
  obtain ⟨gq, hgq, hgb, hgl⟩ := HW9.out.toks.some_of (by omega)
  obtain ⟨qs, qA, qn2, qc, qF, qm, qd, qV, qnv, qcv, qT, qnt, qct, qk⟩ := q
  dsimp only at hnt hgq
  subst hnt hgq
  change Code.wp _ _ _ _ (six w8 qo ⟨qs, qA, qn2, qc, qF, qm, qd, qV, qnv, qcv, some ⟨gq, 0, none⟩, b.toks.length, qct, qk⟩)
  generalize six w8 qo ⟨qs, qA, qn2, qc, qF, qm, qd, qV, qnv, qcv, some ⟨gq, 0, none⟩, b.toks.length, qct, qk⟩ = w9 at *
  obtain ⟨⟨o0, o1, o2, o3, o4, o5⟩, _⟩ := six_facts HO9.out
  have hst : w9.cell? ⟨gq, i * 4 + 3, none⟩ = some (.bool b.toks[i]!.stuck) := by
    have h := (tk_at HW9.out.toks.row hil).2.2.2
    rwa [Nat.zero_add] at h
  have hfz : w9.frozen? ⟨gq, i * 4 + 3, none⟩ = false := HW9.out.toks.frozen _
  have HS := Lib.hid (HW9.out.toks.set (fun t : Tk => { t with stuck := true }) 3 (.bool true) (by decide) (fun t => rfl) (j := i) hil)
  have hs9 : w9.grownBy (w9.setCell ⟨gq, i * 4 + 3, none⟩ (.bool true)) (some gq) := grown_setCell w9 ⟨gq, i * 4 + 3, none⟩ _
  have hne : ∀ {α : Type} {κ : Cs α} {e : TypeId} {A : Option Addr} {n c : Nat} {l : List α}, OwnK κ w9 w7.heap.size e A n c l → e ≠ 35 → OwnK κ (w9.setCell ⟨gq, i * 4 + 3, none⟩ (.bool true)) w7.heap.size e A n c l := fun hh he => hh.kept hs9 fun a ha e => hh.apart HW9.out.toks he ha rfl (Option.some.inj e).symm
  have HWF := Lib.hid (show BdOwn (w9.setCell ⟨gq, i * 4 + 3, none⟩ (.bool true)) w7.heap.size ⟨qs, qA, qn2, qc, qF, qm, qd, qV, qnv, qcv, some ⟨gq, 0, none⟩, b.toks.length, qct, qk⟩ (stuckAt b i) from ⟨HW9.out.s, HW9.out.k, hne HW9.out.nodes (by decide), hne HW9.out.flows (by decide), hne HW9.out.vars (by decide), HS.out⟩)
  have HMF := Lib.hid (HM9.out.kept hs9 (fun e => by have h2 : gq = w.heap.size + 1 + 1 := Option.some.inj e; omega))
  have HZF := Lib.hid (HZ9.out.kept hs9 (fun e => by have h2 : gq = w.heap.size + 1 := Option.some.inj e; omega))
  have HOF := Lib.hid (HO9.out.kept hs9 (fun e => by have h2 : gq = qo := Option.some.inj e; omega))
  have HBF := Lib.hid (HB9.out.setCell (p := ⟨gq, i * 4 + 3, none⟩) (by show w.heap.size ≤ gq; omega) (.bool true))
  clear hne hs9
  go_upto_region 10 with (fail)
  generalize w9.setCell ⟨gq, i * 4 + 3, none⟩ (.bool true) = wg at *
  have hzl := HZF.out.lt
  have hml := HMF.out.lt
  obtain ⟨⟨o0, o1, o2, o3, o4, o5⟩, _⟩ := six_facts HOF.out
  obtain ⟨⟨g0, g1, g2, g3, g4, g5⟩, e0, e1, e2, e3, e4, e5⟩ := six_facts HZF.out
  have m0 := HMF.out.cell 0 _ rfl
  have m1 := HMF.out.cell 1 _ rfl
  have l0 := HMF.out.froz 0 (by simp)
  have l1 := HMF.out.froz 1 (by simp)
  have hA := six_grown wg (w.heap.size + 1) ⟨qs, qA, qn2, qc, qF, qm, qd, qV, qnv, qcv, some ⟨gq, 0, none⟩, b.toks.length, qct, qk⟩
  have hC := six_cel HZF.out ⟨qs, qA, qn2, qc, qF, qm, qd, qV, qnv, qcv, some ⟨gq, 0, none⟩, b.toks.length, qct, qk⟩
  have hB := six_below HBF.out (z := w.heap.size + 1) (by omega) ⟨qs, qA, qn2, qc, qF, qm, qd, qV, qnv, qcv, some ⟨gq, 0, none⟩, b.toks.length, qct, qk⟩
  generalize hwz : six wg (w.heap.size + 1) ⟨qs, qA, qn2, qc, qF, qm, qd, qV, qnv, qcv, some ⟨gq, 0, none⟩, b.toks.length, qct, qk⟩ = wz at hA hB hC
  have hO := HWF.out.grown (z := w.heap.size + 1) (by omega) hA
  have hM := HMF.out.kept hA (fun e => by have h2 : w.heap.size + 1 = w.heap.size + 1 + 1 := Option.some.inj e; omega)
  have hA2 := mv2_grown wz (w.heap.size + 1 + 1) false ⟨#[]⟩
  have hM2 := mv2_cel hM false ⟨#[]⟩
  have hC2 := hC.kept hA2 (fun e => by have h2 : w.heap.size + 1 + 1 = w.heap.size + 1 := Option.some.inj e; omega)
  have hO2 := hO.grown (z := w.heap.size + 1 + 1) (by omega) hA2
  have hB2 := mv2_below hB (z := w.heap.size + 1 + 1) (by omega) false ⟨#[]⟩
  generalize hwf : mv2 wz (w.heap.size + 1 + 1) false ⟨#[]⟩ = wf at hA2 hM2 hC2 hO2 hB2
  have HWZ := Lib.hid hwz
  have HWE := Lib.hid hwf
  have HW1 := Lib.hid (hO2.lower (B' := w.heap.size) (by omega))
  have HC1 := Lib.hid hC2
  have HM1 := Lib.hid hM2
  have HB1 := Lib.hid hB2
  clear hA hB hC hO hM hA2 hM2 hC2 hO2 hB2 hwz hwf
  go_wp2
  clear o0 o1 o2 o3 o4 o5 g0 g1 g2 g3 g4 g5 e0 e1 e2 e3 e4 e5 m0 m1 l0 l1
  change bodyPost _ _ _ _ _ (mv2 (six wg (w.heap.size + 1) ⟨qs, qA, qn2, qc, qF, qm, qd, qV, qnv, qcv, some ⟨gq, 0, none⟩, b.toks.length, qct, qk⟩) (w.heap.size + 1 + 1) false ⟨#[]⟩)
  rw [HWZ.out, HWE.out]
  obtain ⟨⟨j0, j1, j2, j3, j4, j5⟩, _⟩ := six_facts HC1.out
  have k0 := HM1.out.cell 0 _ rfl
  have k1 := HM1.out.cell 1 _ rfl
  exact bodyPost_ret (v := .tuple #[BdV.val ⟨qs, qA, qn2, qc, qF, qm, qd, qV, qnv, qcv, some ⟨gq, 0, none⟩, b.toks.length, qct, qk⟩, .agg #[.bool false, .string ⟨#[]⟩], errV ea]) (by simp [results, Tryz.results20, go_sem, j0, j1, j2, j3, j4, j5, k0, k1, BdV.val, errV]) rfl ⟨⟨⟨qs, qA, qn2, qc, qF, qm, qd, qV, qnv, qcv, some ⟨gq, 0, none⟩, b.toks.length, qct, qk⟩, errV ea, by rw [HBS2.out]; rfl, by rw [HBS2.out]; exact .err cd ea HKA.out H0.out, by rw [HBS2.out]; exact HW1.out⟩, HB1.out⟩
end Pr
end Go.Proofs.YtkffnfgdmcebdaaGreatDoor
