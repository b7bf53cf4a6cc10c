/- Package token: Put. Package token: ways. -/
import Derived.Test.YtkffnfgdmcebdaaGreatDoorYJoint24
import Derived.Deep.RegionLaw
import Derived.Test.YtkffnfgdmcebdaaGreatDoorZhY
namespace Go.Proofs.YtkffnfgdmcebdaaGreatDoor
open Go.RowKit

namespace Pr
theorem put_more (b : Bd) {l : List Tk} {j : Nat} (hj : j < l.length) : { b.put (l.take j) with toks := (b.put (l.take j)).toks ++ [{ l[j]! with id := (b.put (l.take j)).next }], next := (b.put (l.take j)).next + 1 } = b.put (l.take (j + 1)) := by
  unfold Bd.put
  have e : (l.take j).length = j := by rw [List.length_take]; omega
  have e2 : (l.take (j + 1)).length = j + 1 := by rw [List.length_take]; omega
  dsimp only
  rw [numb_take_succ hj, e, e2, List.append_assoc]
  have : b.next + (j : Int) + 1 = b.next + ((j + 1 : Nat) : Int) := by omega
  rw [this]
theorem put_none (b : Bd) : b.put [] = b := by
  unfold Bd.put
  simp [numb]
set_option maxHeartbeats 3200000 in
theorem put_any (x : BdV) (b : Bd) (Z : Option Addr) (nz cz : Nat) (l : List Tk) (w : World) (hx : BdIn w w.heap.size x b) (hf : b.Few) (hl : KRow Tk.κ w w.heap.size Z nz l) (hn : nz ≤ 100000) :
    Calls Tryz.prog 42 #[x.val, .slice Z nz cz] w fun e w' => (∃ y, e = .returned y.val ∧ BdOwn w' w.heap.size y (b.put l)) ∧ Below w.heap.size w w' := by
  obtain rfl : l.length = nz := hl.len (by decide)
  obtain ⟨i0, hi0, hz0, hz1, hz2⟩ := info_parts info_tok
  have HX := Lib.hid hx
  have HF := Lib.hid hf
  have HZ := Lib.hid hl
  have HP := Lib.hid (Cp.lit w x.list 38)
  clear hx hf hl
  obtain ⟨s, A, n, c, F, m, d, V, nv, cv, T, nt, ct, k⟩ := x
  unfold BdV.val
  unfold BdV.list at HP
  dsimp only at *
  go_enter Tryz.func42, Tryz.ntmps42
  go_upto_region 1 with (fail)
  unfold zeroB at HP
  generalize hwa : (w.alloc _).alloc _ = wa at *
  have hws : wa.heap.size = w.heap.size + 2 := by rw [← hwa]; simp
  clear hwa
  have HC0 := Lib.hid (copied_any _ b wa (HX.out.on HP.out.bel) HF.out)
  unfold BdV.val at HC0
  dsimp only at HC0
  obtain ⟨⟨z0, z1, z2, z3, z4, z5⟩, _⟩ := six_facts HP.out.box
  go_wp2_with fail
  refine HC0.out.mono ?_
  rintro e w1 ⟨⟨y, rfl, hO⟩, hb1⟩
  have HP1 := Lib.hid (HP.out.below hb1)
  have HB1 := Lib.hid (BdC.lit hO 38)
  have hb2 : Below w1.heap.size w1 (w1.alloc (.cells y.list.toArray 38)) := (Below.refl _ _).alloc (Nat.le_refl _) _
  have HP2 := Lib.hid (HP1.out.below hb2)
  clear z0 z1 z2 z3 z4 z5 hO hb1 hb2 HC0
  have HY : Hid (y.list = y.list) := rfl
  obtain ⟨s1, A1, n1, c1, F1, m1, d1, V1, nv1, cv1, T1, nt1, ct1, k1⟩ := y
  unfold BdV.list at HB1 HP2
  dsimp only at *
  go_upto_region 2 with (fail)
  generalize w1.alloc _ = w2 at *
  rw [hws] at HB1
  have hq1 : w.heap.size + 2 ≤ w1.heap.size := by have := HP1.out.B1; omega
  generalize w1.heap.size = q at *
  clear HP1 HP HY
  have HS : Hid (BdC w2 (w.heap.size + 2) q ⟨s1, A1, n1, c1, F1, m1, d1, V1, nv1, cv1, T1, nt1, ct1, k1⟩ (b.put (l.take 0))) := by
    rw [List.take_zero, put_none]
    exact HB1
  clear HB1
  have hf4 := HF.out.t
  have hk0 := HF.out.k0
  have hk1 := HF.out.k1
  go_wp2_with fail
  go_loopw [12] (fun i wr => ∃ (j : Nat) (y : BdV), j ≤ l.length ∧ i = .int .i64 j ∧ BdC wr (w.heap.size + 2) q y (b.put (l.take j)) ∧ Cel wr (w.heap.size + 1) zeroB ∧ Below w.heap.size w wr) (fun i _ => l.length - (intOf i).toNat)
  case atStart => exact ⟨0, _, Nat.zero_le _, rfl, HS.out, HP2.out.res, HP2.out.bel⟩
  case round =>
    obtain ⟨j, y, hj, rfl, hc, hz, hbr⟩ := hrel
    have hj0 : (0 : Int) ≤ (j : Int) := by omega
    by_cases hlt : j < l.length
    · have hI : (j : Int) < (l.length : Int) := by omega
      have hZ := HZ.out.below hbr (Nat.le_refl _)
      obtain ⟨bz, oz, rfl, _, _⟩ := hZ.2 (by omega)
      obtain ⟨t0, t1, t2, t3⟩ := tk_at hZ hlt
      have hmore := put_more b hlt
      have hlen : (b.put (l.take j)).toks.length ≤ 1000000 := by
        unfold Bd.put
        simp only [List.length_append, numb_len, List.length_take]
        omega
      have hnx : (b.put (l.take j)).next = b.next + j := by
        unfold Bd.put
        simp only [List.length_take]
        omega
      generalize b.put (l.take j) = u at *
      generalize l[j]! = tk at *
      obtain ⟨tid, tnode, tinn, tst⟩ := tk
      dsimp only at t0 t1 t2 t3 hmore
      have hyt := hc.own.inn.ht
      have hyk := hc.own.k
      obtain ⟨s2, A2, n2, c2, F2, m2, d2, V2, nv2, cv2, T2, nt2, ct2, k2⟩ := y
      dsimp only at hyt hyk
      subst hyt
      rw [hnx] at hyk
      rw [hnx, ← hyk] at hmore
      have hkr : -2000000000 ≤ k2 ∧ k2 ≤ 2000000000 := by omega
      have HMORE := Lib.hid hmore
      clear hnx hyk hmore
      have hsz : (wr.setCell ⟨q, 5, none⟩ (.int .i64 (k2 + 1))).heap.size = wr.heap.size := by simp
      have hba : Below (wr.setCell ⟨q, 5, none⟩ (.int .i64 (k2 + 1))).heap.size (wr.setCell ⟨q, 5, none⟩ (.int .i64 (k2 + 1))) ((wr.setCell ⟨q, 5, none⟩ (.int .i64 (k2 + 1))).alloc (.cells #[.int .i64 k2, .int .i64 tnode, .int .i64 tinn, .bool tst] 35)) := (Below.refl _ _).alloc (Nat.le_refl _) _
      have HC7 := Lib.hid ((hc.nxt (k2 + 1)).below hba)
      have HT7 := Lib.hid (Cel.lit (wr.setCell ⟨q, 5, none⟩ (.int .i64 (k2 + 1))) #[.int .i64 k2, .int .i64 tnode, .int .i64 tinn, .bool tst] 35)
      rw [hsz] at HT7
      have hzq : w.heap.size + 1 < q := by omega
      have HZ7 := Lib.hid ((hz.kept (grown_setCell wr ⟨q, 5, none⟩ (.int .i64 (k2 + 1))) (fun e => by have h2 : q = w.heap.size + 1 := Option.some.inj e; omega)).below hba (Nat.le_refl _))
      have hbs := hbr.setCell (p := ⟨q, 5, none⟩) (by show w.heap.size ≤ q; omega) (.int .i64 (k2 + 1))
      have HB7 := Lib.hid (hbs.trans (hba.mono hbs.size))
      have hwk : wrap64 (k2 + 1) = k2 + 1 := by unfold wrap64; omega
      obtain ⟨⟨z0, z1, z2, z3, z4, z5⟩, y0, y1, y2, y3, y4, y5⟩ := six_facts hc.cel
      have hqlt := hc.cel.lt
      have hqne : ¬ q = wr.heap.size := by omega
      have hqp : q ≠ wr.heap.size := hqne
      clear hba hbs hsz hZ hc hz hbr
      go_upto_region 7 with (fail)
      generalize World.alloc _ _ = w7 at *
      generalize wr.heap.size = p at *
      clear z0 z1 z2 z3 z4 z5 y0 y1 y2 y3 y4 y5 t0 t1 t2 t3
      have hba : Below w7.heap.size w7 (w7.alloc (.cells #[.int .i64 k2, .int .i64 tnode, .int .i64 tinn, .bool tst] 35)) := (Below.refl _ _).alloc (Nat.le_refl _) _
      have HCa := Lib.hid (HC7.out.below hba)
      have HZa := Lib.hid (HZ7.out.below hba (Nat.le_refl _))
      have HBa := Lib.hid (HB7.out.trans (hba.mono HB7.out.size))
      have HR : Hid (KRow Tk.κ (w7.alloc (.cells #[.int .i64 k2, .int .i64 tnode, .int .i64 tinn, .bool tst] 35)) (w7.heap.size + 1) (some ⟨w7.heap.size, 0, none⟩) 1 [⟨k2, tnode, tinn, tst⟩]) := Lib.hid (KRow.lit (κ := Tk.κ) w7 35 [⟨k2, tnode, tinn, tst⟩] #[.int .i64 k2, .int .i64 tnode, .int .i64 tinn, .bool tst] rfl)
      have hbase : w.heap.size + 2 ≤ (w7.alloc (.cells #[.int .i64 k2, .int .i64 tnode, .int .i64 tinn, .bool tst] 35)).heap.size := by have := hba.size; have := HC7.out.cel.lt; omega
      obtain ⟨⟨z0, z1, z2, z3, z4, z5⟩, y0, y1, y2, y3, y4, y5⟩ := six_facts HC7.out.cel
      obtain ⟨t0, t1, t2, t3⟩ := qd_facts HT7.out
      have hq7 := HC7.out.cel.lt
      have hp7 := HT7.out.lt
      clear hba
      go_wp2_with (at_builtin; refine append_k (κ := Tk.κ) rfl (.tmp 24) (.tmp 26) 36 35 i0 _ 32 Tryz.underlying36 hi0 hz0 hz1 hz2 rfl rfl _ (w.heap.size + 2) _ T2 u.toks.length ct2 u.toks ⟨w7.heap.size, 0, none⟩ ⟨k2, tnode, tinn, tst⟩ rfl HCa.out.own.toks rfl HR.out hlen (by decide) hbase ?_; intro T' c' w' ho hg; have hcc := HCa.out.cel_app hg; obtain ⟨⟨m0, m1, m2, m3, m4, m5⟩, n0, n1, n2, n3, n4, n5⟩ := six_facts hcc; have HCF := Lib.hid (HCa.out.app hg ho); have HZF := Lib.hid ((HCa.out.else_app hg HZa.out (by omega)).kept (grown_setCell w' ⟨q, 4, none⟩ (.slice T' (u.toks.length + 1) c')) (fun e => by have h2 : q = w.heap.size + 1 := Option.some.inj e; omega)); have HBF := Lib.hid ((HBa.out.trans ((hg.below HCa.out.own.toks.2 hbase).mono (by omega))).setCell (p := ⟨q, 4, none⟩) (by show w.heap.size ≤ q; omega) (.slice T' (u.toks.length + 1) c')); clear ho hg hcc)
      go_roundw
      case measure => simp [intOf]; omega
      case rel => exact ⟨j + 1, _, by omega, by go_num, HMORE.out ▸ HCF.out, HZF.out, HBF.out⟩
    · obtain rfl : j = l.length := by omega
      have hI : ¬ ((l.length : Int) < (l.length : Int)) := by omega
      have hfull : l.take l.length = l := List.take_length
      rw [hfull] at hc
      have HCr := Lib.hid hc
      have HZr := Lib.hid hz
      have HBr := Lib.hid hbr
      obtain ⟨s2, A2, n2, c2, F2, m2, d2, V2, nv2, cv2, T2, nt2, ct2, k2⟩ := y
      have HOF := Lib.hid ((hc.own.grown (by omega) (six_grown wr (w.heap.size + 1) ⟨s2, A2, n2, c2, F2, m2, d2, V2, nv2, cv2, T2, nt2, ct2, k2⟩)).lower (B' := w.heap.size) (by omega))
      have HBF := Lib.hid (six_below hbr (by omega) (z := w.heap.size + 1) ⟨s2, A2, n2, c2, F2, m2, d2, V2, nv2, cv2, T2, nt2, ct2, k2⟩)
      have HCF := Lib.hid (six_cel hz ⟨s2, A2, n2, c2, F2, m2, d2, V2, nv2, cv2, T2, nt2, ct2, k2⟩)
      obtain ⟨⟨z0, z1, z2, z3, z4, z5⟩, _⟩ := six_facts hc.cel
      have hzl := hz.lt
      obtain ⟨⟨g0, g1, g2, g3, g4, g5⟩, y0, y1, y2, y3, y4, y5⟩ := six_facts hz
      clear hc hz hbr hfull
      go_wp2
      clear z0 z1 z2 z3 z4 z5 g0 g1 g2 g3 g4 g5 y0 y1 y2 y3 y4 y5
      change bodyPost _ _ _ _ _ (six wr (w.heap.size + 1) ⟨s2, A2, n2, c2, F2, m2, d2, V2, nv2, cv2, T2, nt2, ct2, k2⟩)
      generalize six wr _ _ = wf at *
      obtain ⟨⟨j0, j1, j2, j3, j4, j5⟩, _⟩ := six_facts HCF.out
      exact bodyPost_ret (v := BdV.val ⟨s2, A2, n2, c2, F2, m2, d2, V2, nv2, cv2, T2, nt2, ct2, k2⟩) (by simp [results, Tryz.results42, go_sem, j0, j1, j2, j3, j4, j5, BdV.val]) rfl ⟨⟨⟨s2, A2, n2, c2, F2, m2, d2, V2, nv2, cv2, T2, nt2, ct2, k2⟩, rfl, HOF.out⟩, HBF.out⟩
end Pr
end Go.Proofs.YtkffnfgdmcebdaaGreatDoor
namespace Go.Proofs.YtkffnfgdmcebdaaGreatDoor
open Go.RowKit

namespace Pr
theorem outsB_lt {p : P} {i : Int} {f : Nat} (h : f ∈ outsB p i) : f < p.m := by
  unfold outsB at h
  exact List.mem_range.1 (List.mem_filter.1 h).1
theorem outsB_len (p : P) (i : Int) : (outsB p i).length ≤ p.m := by
  unfold outsB
  exact Nat.le_trans (List.length_filter_le _ _) (by simp)
theorem WaysOut.after {E : Int → Option Addr} {w w1 w' : World} {R : Int × List Nat} {e : Ending} (hb : Below w.heap.size w w1) (h : WaysOut E w1 R e w') : WaysOut E w R e w' := by
  obtain ⟨⟨Y, k, cc, ev, h1, h2, h3⟩, h4⟩ := h
  exact ⟨⟨Y, k, cc, ev, h1, h2, h3.lower hb.size⟩, hb.trans (h4.mono hb.size)⟩
set_option maxHeartbeats 3200000 in
set_option maxRecDepth 10000 in
theorem ways_any (E : Int → Option Addr) (u : Nat) (x : BdV) (b : Bd) (w : World) (hx : BdIn w w.heap.size x b) (hu : u < b.p.n) (hf : b.Few)
    (hc : ∀ f ∈ outsB b.p u, CondOk E w x.V x.nv x.cv b.vars b.p.flows[f]!.cond) (hE : ErrIn w E 116 2) :
    Calls Tryz.prog 97 #[x.val, .int .i64 (u : Int)] w (WaysOut E w (outWays b u)) := by
  have HC := Lib.hid (Cel.lit w x.list.toArray 38)
  have HX := Lib.hid hx
  have HB := Lib.hid ((Below.refl w.heap.size w).alloc (Nat.le_refl _) (.cells x.list.toArray 38))
  have HCH := Lib.hid (fun (W : World) (hb : Below w.heap.size w W) (most : Nat) (X : Option Addr) (kx cx : Nat) (hi : KRow iκ W W.heap.size X kx ((outsB b.p u).map Int.ofNat)) (hk : kx ≤ 100000) =>
    chosen_any E u most x b W (hx.on hb) hu hf X kx cx (outsB b.p u) hi (fun f h => outsB_lt h) (fun f h => (hc f h).on hb) (hE.below hb) hk)
  have hn := hx.hn
  have hm := hx.hm
  have hf1 := hf.n
  have hf2 := hf.m
  have hol := outsB_len b.p u
  clear hx hf hc hE
  obtain ⟨s, A, n, c, F, m, d, V, nv, cv, T, nt, ct, k⟩ := x
  unfold BdV.val at *
  unfold BdV.list at *
  dsimp only at *
  subst hn hm
  have HOT := Lib.hid (fun (W : World) (hb : Below w.heap.size w W) => outs_any A b.p.n c F b.p.m d b.p (u : Int) W ((HX.out.on hb).nodes) ((HX.out.on hb).flows) hf1 hf2)
  have hsn : b.p.name = s := HX.out.s.symm
  rw [hsn] at HOT
  clear hsn
  have hN := HX.out.nodes.below HB.out (Nat.le_refl _)
  obtain ⟨b1, off1, rfl, _, _⟩ := hN.2 (show 0 < b.p.n by omega)
  have hu0 : (0 : Int) ≤ (u : Int) := by omega
  have huI : (u : Int) < (b.p.n : Int) := by omega
  have hR : outWays b u = if b.p.nodes[u]!.kind = 2 ∨ b.p.nodes[u]!.kind = 3 then (0, []) else if b.p.nodes[u]!.kind = 5 then (if (outsB b.p u).length = 1 then (0, outsB b.p u) else choose b b.p.nodes[u]!.dflt 1 (outsB b.p u) []) else if b.p.nodes[u]!.kind = 7 then choose b b.p.nodes[u]!.dflt (outsB b.p u).length (outsB b.p u) [] else (0, outsB b.p u) := rfl
  go_enter Tryz.func97, Tryz.ntmps97
  go_upto_region 1 with (fail)
  generalize w.alloc _ = wa at *
  obtain ⟨⟨z0, z1, z2, z3, z4, z5⟩, _⟩ := six_facts HC.out
  go_upto_region 2 with (go_at_call 75; refine (HOT.out wa HB.out).mono ?_; rintro e w5 ⟨⟨X, ki, ci, rfl, hoy⟩, hb5⟩)
  obtain rfl : (outsB b.p u).length = ki := by simpa using hoy.len
  have HOY := Lib.hid hoy
  have HB5 := Lib.hid hb5
  have HB5w := Lib.hid (HB.out.trans (hb5.mono HB.out.size))
  have hN := HX.out.nodes.below HB5w.out (Nat.le_refl _)
  obtain ⟨n0, n1, n2, n3, n4, n5, n6, n7⟩ := nd_at hN hu
  clear hN hoy hb5 z0 z1 z2 z3 z4 z5 HOT
  obtain ⟨⟨z0, z1, z2, z3, z4, z5⟩, _⟩ := six_facts (HC.out.below HB5.out (Nat.le_refl _))
  have HCC := Lib.hid (fun most => HCH.out w5 HB5w.out most X (outsB b.p u).length ci HOY.out.row (by omega))
  clear HCH n1 n2 n3 n4 n5 n6 n7
  generalize b.p.nodes[u]!.dflt = other at *
  generalize b.p.nodes[u]!.kind = kd at *
  by_cases h2 : kd = 2
  · subst h2
    rw [if_pos (.inl rfl)] at hR
    have HR := Lib.hid hR
    clear hR
    go_wp2
    go_ret2
    refine ⟨⟨none, 0, 0, .nilIface, rfl, ?_, ?_⟩, HB5w.out⟩
    · rw [HR.out]; exact .nil
    · rw [HR.out]; exact ⟨by decide, World.ownsRow_nil _ _ _ _⟩
  have h2B : (kd == 2) = false := by rw [beq_eq_false_iff_ne]; exact h2
  by_cases h3 : kd = 3
  · subst h3
    rw [if_pos (.inr rfl)] at hR
    have HR := Lib.hid hR
    clear hR h2
    go_wp2
    go_ret2
    refine ⟨⟨none, 0, 0, .nilIface, rfl, ?_, ?_⟩, HB5w.out⟩
    · rw [HR.out]; exact .nil
    · rw [HR.out]; exact ⟨by decide, World.ownsRow_nil _ _ _ _⟩
  have h3B : (kd == 3) = false := by rw [beq_eq_false_iff_ne]; exact h3
  rw [if_neg (by rintro (h | h); exact h2 h; exact h3 h)] at hR
  by_cases h5 : kd = 5
  · subst h5
    rw [if_pos rfl] at hR
    clear h2 h3
    by_cases h1 : (outsB b.p u).length = 1
    · rw [if_pos h1] at hR
      have HR := Lib.hid hR
      have h1B : (((outsB b.p u).length : Int) == 1) = true := by rw [beq_iff_eq]; omega
      have H1 := Lib.hid h1
      clear hR h1
      go_wp2
      go_ret2
      refine ⟨⟨X, _, ci, .nilIface, rfl, ?_, ?_⟩, HB5w.out⟩
      · rw [HR.out]; exact .nil
      · rw [HR.out]; exact HOY.out.lower HB.out.size
    · rw [if_neg h1] at hR
      have HR := Lib.hid hR
      have h1B : (((outsB b.p u).length : Int) == 1) = false := by rw [beq_eq_false_iff_ne]; omega
      clear hR h1
      go_wp2_with (go_at_call 112; refine (HCC.out 1).mono ?_; rintro e w7 ⟨⟨Y, kk, cc, ev, rfl, hs, ho⟩, hb7⟩; have HW := Lib.hid (WaysOut.after HB5w.out ⟨⟨Y, kk, cc, ev, rfl, hs, ho⟩, hb7⟩); clear hs ho hb7)
      go_ret2
      rw [HR.out]
      exact HW.out
  have h5B : (kd == 5) = false := by rw [beq_eq_false_iff_ne]; exact h5
  rw [if_neg h5] at hR
  by_cases h7 : kd = 7
  · subst h7
    rw [if_pos rfl] at hR
    have HR := Lib.hid hR
    clear h2 h3 h5 hR
    go_wp2_with (go_at_call 112; refine (HCC.out _).mono ?_; rintro e w7 ⟨⟨Y, kk, cc, ev, rfl, hs, ho⟩, hb7⟩; have HW := Lib.hid (WaysOut.after HB5w.out ⟨⟨Y, kk, cc, ev, rfl, hs, ho⟩, hb7⟩); clear hs ho hb7)
    go_ret2
    rw [HR.out]
    exact HW.out
  · have h7B : (kd == 7) = false := by rw [beq_eq_false_iff_ne]; exact h7
    rw [if_neg h7] at hR
    have HR := Lib.hid hR
    clear h2 h3 h5 h7 hR
    go_wp2
    go_ret2
    refine ⟨⟨X, _, ci, .nilIface, rfl, ?_, ?_⟩, HB5w.out⟩
    · rw [HR.out]; exact .nil
    · rw [HR.out]; exact HOY.out.lower HB.out.size
end Pr
end Go.Proofs.YtkffnfgdmcebdaaGreatDoor
