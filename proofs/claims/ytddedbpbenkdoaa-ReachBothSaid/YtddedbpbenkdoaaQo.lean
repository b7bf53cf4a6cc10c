/- Package reach: the chapter's example; ReachBoth: the walk. -/
import Derived.Test.YtddedbpbenkdoaaQn
import Derived.Test.YtddedbpbenkdoaaLm
import Derived.Test.YtddedbpbenkdoaaOs
namespace Go.Proofs.Ytddedbpbenkdoaa
open Go.RowKit
open Pr
theorem first_len : (Rc.ord 2 (nxt 2 [⟨0, 1, no⟩] 1)).length = 2 ∧ Rc.lg (nxt 2 [⟨0, 1, no⟩] 1) (Rc.ord 2 (nxt 2 [⟨0, 1, no⟩] 1)) = 1 := by decide +kernel
set_option maxHeartbeats 800000 in
theorem rfirst_any (w : World) : Calls Try.prog 7 #[] w fun e w' => e = .returned (.bool true) ∧ Below w.heap.size w w' := by
  obtain ⟨i0, hi0, hz0, hz1, hz2⟩ := info_parts info_node
  go_enter Try.func7, Try.ntmps7
  go_wp2_with (at_make; refine wpList_make_full _ rfl _ _ 22 rfl w.heap.size 53 i0 _ 8 Try.underlying22 hi0 hz0 hz1 .i64 .i64 _ _ 2 rfl rfl rfl rfl (by rw [hz2]; omega) (by unfold maxLen; omega) (Nat.le_refl _) ?_; intro w1 ho1 hg1)
  have HB1 := Lib.hid ((Below.refl w.heap.size w).grown hg1 (Nat.le_refl _) (fun k hk => by cases hk))
  have hba : Below w1.heap.size w1 (w1.alloc (.cells #[.int .i64 0, .int .i64 1, .string ⟨#[]⟩] 46)) := (Below.refl _ _).alloc (Nat.le_refl _) _
  have HBa := Lib.hid (HB1.out.trans (hba.mono HB1.out.size))
  have HR : Hid (KRow Fl.κ (w1.alloc (.cells #[.int .i64 0, .int .i64 1, .string ⟨#[]⟩] 46)) (w1.heap.size + 1) (some ⟨w1.heap.size, 0, none⟩) 1 [⟨0, 1, no⟩]) := Lib.hid (KRow.lit (κ := Fl.κ) w1 46 [⟨0, 1, no⟩] #[.int .i64 0, .int .i64 1, .string ⟨#[]⟩] rfl)
  have hsz : (w1.alloc (.cells #[.int .i64 0, .int .i64 1, .string ⟨#[]⟩] 46)).heap.size = w1.heap.size + 1 := by simp
  have HL := Lib.hid (rlongest_any ⟨#[]⟩ (some ⟨w.heap.size, 0, none⟩) 2 2 (some ⟨w1.heap.size, 0, none⟩) 1 1 [⟨0, 1, no⟩] (w1.alloc (.cells #[.int .i64 0, .int .i64 1, .string ⟨#[]⟩] 46)) (by rw [hsz]; exact HR.out) (by decide) (by decide))
  clear hba hsz ho1 hg1 HR
  refine HL.out.mono ?_
  rintro e w2 ⟨ho, hb⟩
  have HB2 := Lib.hid (HBa.out.trans (hb.mono HBa.out.size))
  rcases ho with ⟨_, rfl⟩ | ⟨h1, _⟩
  · rw [first_len.2]
    go_wp2
    go_ret
    exact ⟨rfl, HB2.out⟩
  · rw [first_len.1] at h1
    omega
theorem both_same {n : Nat} {fl : List Fl} {m : Nat} {a b : Nat} (ha : a < n) (hb : b < n) : Pr.Comes n (nxt n fl m) a b ↔ Pr.Comes n (bck n fl m) b a := by
  constructor
  · rintro ⟨a', e, _, h⟩
    obtain rfl : a = a' := by omega
    exact ⟨b, rfl, hb, h.turn fun x y h => nxt_bck.1 h⟩
  · rintro ⟨b', e, _, h⟩
    obtain rfl : b = b' := by omega
    exact ⟨a, rfl, ha, h.turn fun x y h => nxt_bck.2 h⟩
theorem comes_trans {n : Nat} {L : Nat → List Nat} {a b c : Nat} (h : Pr.Comes n L a b) (h2 : Pr.Comes n L b c) : Pr.Comes n L a c := by
  obtain ⟨a', e, h3, h4⟩ := h
  obtain ⟨b', e2, _, h6⟩ := h2
  obtain rfl : b = b' := by omega
  exact ⟨a', e, h3, h4.trans h6⟩
set_option maxHeartbeats 3200000 in
set_option maxRecDepth 10000 in
theorem reachBoth_walk (s : SeedV) (a b c : Int) (w : World) (hS : InSeed w s) (ha1 : -9223372036854775808 ≤ a) (ha2 : a ≤ 9223372036854775807) (hb1 : -9223372036854775808 ≤ b) (hb2 : b ≤ 9223372036854775807) (hc1 : -9223372036854775808 ≤ c) (hc2 : c ≤ 9223372036854775807) :
    Calls Try.prog 4 #[s.val, .int .i64 a, .int .i64 b, .int .i64 c] w fun e w' => e = .returned (.bool true) ∧ Below w.heap.size w w' := by
  have HSD := Lib.hid hS
  have HB0 := Lib.hid ((Below.refl w.heap.size w).alloc (Nat.le_refl _) (.cells #[.string s.name, .slice s.KA s.kn s.kc, .slice s.EA s.en s.ec, .slice s.MA s.mn s.mc] 28))
  have hq0 := Cel.lit w #[.string s.name, .slice s.KA s.kn s.kc, .slice s.EA s.en s.ec, .slice s.MA s.mn s.mc] 28
  have HL := Lib.hid (fun w => mlight_any s w)
  clear hS
  unfold SeedV.val
  go_enter Try.func4, Try.ntmps4
  go_wp2_with fail
  generalize hwa : w.alloc _ = wa at *
  refine (rfirst_any wa).mono ?_
  rintro e w1 ⟨rfl, hb1'⟩
  have HQ1 := Lib.hid (hq0.below hb1' (Nat.le_refl _))
  have HB1 := Lib.hid (HB0.out.trans (hb1'.mono HB0.out.size))
  clear hq0 hb1' HB0 hwa
  obtain ⟨q0, q1, q2, q3⟩ := quad_facts HQ1.out
  go_wp2_with fail
  unfold SeedV.val at HL
  refine (HL.out _).mono ?_
  rintro e w2 ⟨rfl, hb2'⟩
  have HQ2 := Lib.hid (HQ1.out.below hb2' (Nat.le_refl _))
  have HB2 := Lib.hid (HB1.out.trans (hb2'.mono HB1.out.size))
  clear hb2' HQ1 HB1 q0 q1 q2 q3 HL
  obtain ⟨lt, hlt⟩ : ∃ b, light s = b := ⟨_, rfl⟩
  rw [hlt]
  cases lt with
  | false =>
    go_wp2
    go_ret
    exact ⟨rfl, HB2.out⟩
  | true =>
    have hkn : s.kn ≤ 28 := by
      unfold light at hlt
      simp only [Bool.and_eq_true, decide_eq_true_eq] at hlt
      exact hlt.2.1
    clear hlt
    obtain ⟨z0, z1, z2, z3⟩ := quad_facts HQ2.out
    have hk2 := (HSD.out.k.row.below HB2.out (Nat.le_refl _)).mono HB2.out.size
    have hm2 := (HSD.out.m.row.below HB2.out (Nat.le_refl _)).mono HB2.out.size
    have HG := Lib.hid (mgood_any (w := w2) s.name s.KA s.kn s.kc s.EA s.en s.ec s.MA s.mn s.mc s.ks s.ms true hk2 hm2 HSD.out.kb HSD.out.mb (by omega))
    clear hk2 hm2
    go_wp2_with fail
    refine HG.out.mono ?_
    rintro e w3 ⟨⟨A, pn, cc, F, pm, d, rfl, hN, hF⟩, hb3⟩
    have HN := Lib.hid hN
    have HF := Lib.hid hF
    have HB3 := Lib.hid (HB2.out.trans (hb3.mono HB2.out.size))
    clear hN hF hb3 HG z0 z1 z2 z3 HQ2 HB2
    obtain ⟨_, h2n, hn27, hm52, hname⟩ := good_inv s.ks s.ms true
    generalize good s.ks s.ms true = p at *
    rw [← hname]
    have HPC := Lib.hid (Cel.lit w3 #[.string p.name, .slice A pn cc, .slice F pm d] 25)
    have hba : Below w3.heap.size w3 (w3.alloc (.cells #[.string p.name, .slice A pn cc, .slice F pm d] 25)) := (Below.refl _ _).alloc (Nat.le_refl _) _
    have HF4 := Lib.hid ((HF.out.below hba (Nat.le_refl _)).row)
    have HB4 := Lib.hid (HB3.out.trans (hba.mono HB3.out.size))
    obtain rfl : p.n = pn := HN.out.len
    obtain rfl : p.m = pm := HF.out.len
    clear hba HN HF HB3 hname
    go_upto_region 7 with (fail)
    generalize w3.alloc _ = w4 at *
    obtain ⟨⟨z0, z1, z2⟩, _⟩ := tri_facts HPC.out
    have hnp : (0 : Int) < (p.n : Int) := by omega
    obtain ⟨a', hae, hal⟩ := nmb_nat a (p.n : Int) hnp
    obtain ⟨b', hbe, hbl⟩ := nmb_nat b (p.n : Int) hnp
    obtain ⟨c', hce, hcl⟩ := nmb_nat c (p.n : Int) hnp
    have N1 := Lib.hid (mnumber_any a (p.n : Int) w4 hnp ha1 ha2 (by omega))
    have N2 := Lib.hid (mnumber_any b (p.n : Int) w4 hnp hb1 hb2 (by omega))
    have N3 := Lib.hid (mnumber_any c (p.n : Int) w4 hnp hc1 hc2 (by omega))
    rw [hae] at N1
    rw [hbe] at N2
    rw [hce] at N3
    have HAL := Lib.hid (show a' < p.n by omega)
    have HBL := Lib.hid (show b' < p.n by omega)
    have HCL := Lib.hid (show c' < p.n by omega)
    clear hae hbe hce ha1 ha2 hb1 hb2 hc1 hc2
    go_wp2_with fail
    refine N1.out.mono ?_
    rintro e wy ⟨rfl, rfl⟩
    go_wp2_with fail
    refine N2.out.mono ?_
    rintro e wy ⟨rfl, rfl⟩
    go_wp2_with fail
    refine N3.out.mono ?_
    rintro e wy ⟨rfl, rfl⟩
    have HF1 := Lib.hid (rfrom_any p.name A p.n cc F p.m d p.flows (a' : Int) w4 HF4.out (by omega) (by omega))
    clear N1 N2 N3
    go_wp2_with fail
    refine HF1.out.mono ?_
    rintro e w5 ⟨⟨g5, f5, rfl, hc5, hg5, hq5⟩, hb5⟩
    have HPC5 := Lib.hid (HPC.out.below hb5 (Nat.le_refl _))
    have HF5 := Lib.hid ((HF4.out.below hb5 (Nat.le_refl _)).mono hb5.size)
    have HB5 := Lib.hid (HB4.out.trans (hb5.mono HB4.out.size))
    have HC5 := Lib.hid hc5
    have HQ5 := Lib.hid hq5
    clear z0 z1 z2 hc5 hb5 hq5 hg5 HF1
    obtain ⟨⟨z0, z1, z2⟩, _⟩ := tri_facts HPC5.out
    have HF2 := Lib.hid (rfrom_any p.name A p.n cc F p.m d p.flows (b' : Int) w5 HF5.out (by omega) (by omega))
    go_wp2_with fail
    refine HF2.out.mono ?_
    rintro e w6 ⟨⟨g6, f6, rfl, hc6, hg6, hq6⟩, hb6⟩
    have HPC6 := Lib.hid (HPC5.out.below hb6 (Nat.le_refl _))
    have HF6 := Lib.hid ((HF5.out.below hb6 (Nat.le_refl _)).mono hb6.size)
    have HB6 := Lib.hid (HB5.out.trans (hb6.mono HB5.out.size))
    have HC56 := Lib.hid (HC5.out.below hb6 (Nat.le_refl _))
    have HC6 := Lib.hid hc6
    have HQ6 := Lib.hid hq6
    clear z0 z1 z2 hc6 hb6 hq6 hg6 HF2
    obtain ⟨⟨z0, z1, z2⟩, _⟩ := tri_facts HPC6.out
    have HF3 := Lib.hid (rto_any p.name A p.n cc F p.m d p.flows (b' : Int) w6 HF6.out (by omega) (by omega))
    go_wp2_with fail
    refine HF3.out.mono ?_
    rintro e w7 ⟨⟨g7, f7, rfl, hc7, hg7, hq7⟩, hb7⟩
    have HB7 := Lib.hid (HB6.out.trans (hb7.mono HB6.out.size))
    have x1 := (HC56.out.below hb7 (Nat.le_refl _)).cell b' _ (bv_at f5 HBL.out)
    have x2 := (HC56.out.below hb7 (Nat.le_refl _)).cell c' _ (bv_at f5 HCL.out)
    have x3 := (HC6.out.below hb7 (Nat.le_refl _)).cell c' _ (bv_at f6 HCL.out)
    have x4 := hc7.cell a' _ (bv_at f7 HAL.out)
    have e1 : f7 a' = f5 b' := by
      rw [Bool.eq_iff_iff, hq7 a' HAL.out, HQ5.out b' HBL.out]
      exact (both_same HAL.out HBL.out).symm
    have e2 : f5 b' = true → f6 c' = true → f5 c' = true := fun h1 h2 => (HQ5.out c' HCL.out).2 (comes_trans ((HQ5.out b' HBL.out).1 h1) ((HQ6.out c' HCL.out).1 h2))
    rw [e1] at x4
    have ia0 : (0 : Int) ≤ (a' : Int) := by omega
    have ib0 : (0 : Int) ≤ (b' : Int) := by omega
    have ic0 : (0 : Int) ≤ (c' : Int) := by omega
    generalize f5 b' = v1 at *
    generalize f6 c' = v2 at *
    generalize f5 c' = v3 at *
    clear z0 z1 z2 hc7 hb7 hq7 hg7 HF3 e1 HPC HPC5 HPC6 HF4 HF5 HF6 HB4 HB5 HB6 HC5 HC56 HC6 HQ5 HQ6 HAL HBL HCL
    cases v1 with
    | false =>
      clear e2
      go_wp2_with fail
      go_quiet (fail)
      go_wp2
      go_ret
      exact ⟨rfl, below_drewN HB7.out _⟩
    | true =>
      cases v2 with
      | false =>
        clear e2
        go_wp2_with fail
        go_quiet (fail)
        go_wp2
        go_ret
        exact ⟨rfl, below_drewN HB7.out _⟩
      | true =>
        obtain rfl := e2 rfl rfl
        clear e2
        go_wp2_with fail
        go_quiet (fail)
        go_wp2
        go_ret
        exact ⟨rfl, below_drewN HB7.out _⟩
end Go.Proofs.Ytddedbpbenkdoaa
