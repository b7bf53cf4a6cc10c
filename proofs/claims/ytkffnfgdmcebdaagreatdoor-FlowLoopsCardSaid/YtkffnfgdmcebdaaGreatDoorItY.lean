/- FlowLoops: the walk. -/
import Derived.Test.YtkffnfgdmcebdaaGreatDoorYJoint19
import Derived.Test.YtkffnfgdmcebdaaGreatDoorYJoint16
namespace Go.Proofs.YtkffnfgdmcebdaaGreatDoor
open Go.RowKit

namespace Pr
def nodesL0 : List Nd := [Nd.plain 1, Nd.plain 5, Nd.plain 5, Nd.plain 2]
def flowsL : List Fl := [⟨0, 1, no⟩, ⟨1, 2, trueL⟩, ⟨2, 1, no⟩, ⟨1, 3, no⟩]
theorem mvLp : ∀ (n k m : Nat), Mv2 ⟨bL false k, m, no⟩ n ⟨bL false (k + n), m + n, no⟩
  | 0, k, m => .zero _
  | n + 1, k, m => by
    obtain ⟨h1, h2⟩ := stepL false k (.inl rfl)
    have := mvLp n (k + 1) (m + 1)
    rw [show k + 1 + n = k + (n + 1) by omega, show m + 1 + n = m + (n + 1) by omega] at this
    exact Mv2.of h1 h2 this
theorem stopL (k : Nat) : (stops (bL false k)).toks = [{ tL k with stuck := true }] := by
  have hr : Rdy (bL false k) (0 : Nat) := (stepL false k (.inl rfl)).1.1
  have h1 := stops_at (bL false k) (k := 0) Nat.zero_lt_one
  rw [if_pos hr] at h1
  have h2 : (stops (bL false k)).toks.length = 1 := stops_len _
  obtain ⟨t, ht⟩ := List.length_eq_one_iff.1 h2
  rw [ht] at h1 ⊢
  exact congrArg (fun t => [t]) h1
/-- Where the ring with a Work stands ahead of a round. -/
def kL (i : Nat) : Nat := if i = 0 then 0 else 2 * i + 1
theorem kL_succ (i : Nat) : kL (i + 1) = 2 * i + 2 + 1 := by unfold kL; rw [if_neg (by omega)]; omega
theorem mvW (i m : Nat) : ∃ n m', n ≤ 2 ∧ m' ≤ m + 2 ∧ Mv2 ⟨bL true (kL i), m, no⟩ n ⟨bL true (2 * i + 2), m', no⟩ := by
  by_cases h0 : i = 0
  · subst h0
    obtain ⟨h1, h2⟩ := stepL true 0 (.inr (.inl rfl))
    obtain ⟨h3, h4⟩ := stepL true 1 (.inr (.inr rfl))
    exact ⟨2, m + 1 + 1, by omega, by omega, Mv2.of h1 h2 (Mv2.of h3 h4 (.zero _))⟩
  · have hk : kL i = 2 * i + 1 := if_neg h0
    obtain ⟨h1, h2⟩ := stepL true (2 * i + 1) (.inr (.inr (by omega)))
    rw [hk]
    exact ⟨1, m + 1, by omega, by omega, Mv2.of h1 h2 (.zero _)⟩
theorem envL {E : Int → Option Addr} {w0 : World} (h1 : ErrIn w0 E 116 2) (h2 : ErrIn w0 E 104 1) (hC : CoErrsE w0 E) (work : Bool) : Env E w0 (pL work) [] := by
  refine ⟨h1, h2, fun f => ?_⟩
  by_cases hf : f = 1
  · subst hf
    exact condAll_tx hC ⟨by decide, by simp⟩ Co.txT ⟨Co.txT_ok, rfl, rfl, by decide⟩
  · left
    rcases (show f = 0 ∨ f = 2 ∨ f = 3 ∨ 4 ≤ f by omega) with rfl | rfl | rfl | h
    · rfl
    · rfl
    · rfl
    · rw [getElem!_neg _ f (by show ¬ f < 4; omega)]
      rfl
theorem nodesL_set : (nodesL0.modify 1 fun x => { x with dflt := 3 }) = (pL false).nodes := rfl
theorem nodesL_set2 : ((pL false).nodes.modify 2 fun _ => wkS) = (pL true).nodes := rfl
set_option maxHeartbeats 6400000 in
set_option maxRecDepth 10000 in
theorem flowLoops_core (E : Int → Option Addr) (n : Int) (work : Bool) (w : World) (hn1 : -9223372036854775808 ≤ n) (hn2 : n ≤ 9223372036854775807) (hE : ErrIn w E 116 2) (hE2 : ErrIn w E 104 1) (hC : CoErrsE w E) :
    Calls Tryz.prog 7 #[.int .i64 n, .bool work] w fun e w' => e = .returned (.bool true) ∧ Below w.heap.size w w' := by
  obtain ⟨kv, hve, hvl⟩ := nmb_nat n 12 (by omega)
  have N0 := Lib.hid (fun w => mnumber_any n 12 w (by omega) hn1 hn2 (by omega))
  rw [hve] at N0
  obtain ⟨v, hv⟩ : ∃ v : Nat, v = kv + 1 := ⟨_, rfl⟩
  have HSUM : Hid (IntKind.i64.wrap ((kv : Int) + 1) = (v : Int)) := by
    refine Lib.hid ?_
    have h : IntKind.i64.wrap ((kv : Int) + 1) = (kv : Int) + 1 := by rw [IntKind.wrap_i64]; omega
    omega
  have HV := Lib.hid (show v < 13 by omega)
  have HV1 := Lib.hid (show 1 ≤ v by omega)
  have HENV := Lib.hid (fun work => envL hE hE2 hC work)
  clear hve hn1 hn2 hvl hv hE hE2 hC
  go_enter Tryz.func7, Tryz.ntmps7
  go_wp2_with fail
  refine (ffirst_any w).mono ?_
  rintro e w1 ⟨rfl, hb1⟩
  have HB1 := Lib.hid hb1
  clear hb1
  go_wp2_with fail
  refine (N0.out _).mono ?_
  rintro e wy ⟨rfl, rfl⟩
  have hs := HSUM.out
  go_upto_region 5 with (fail)
  try rw [hs]
  clear hs N0
  go_upto_region 6 with (fail)
  have hON := own_lit_kf (κ := Nd.κ) w1 44 nodesL0 #[.int .i64 1, .string ⟨#[]⟩, .int .i64 0, .int .i64 0, .int .i64 (-1), .string ⟨#[]⟩, .string ⟨#[]⟩, .int .i64 (-1), .int .i64 5, .string ⟨#[]⟩, .int .i64 0, .int .i64 0, .int .i64 (-1), .string ⟨#[]⟩, .string ⟨#[]⟩, .int .i64 (-1), .int .i64 5, .string ⟨#[]⟩, .int .i64 0, .int .i64 0, .int .i64 (-1), .string ⟨#[]⟩, .string ⟨#[]⟩, .int .i64 (-1), .int .i64 2, .string ⟨#[]⟩, .int .i64 0, .int .i64 0, .int .i64 (-1), .string ⟨#[]⟩, .string ⟨#[]⟩, .int .i64 (-1)] (by decide) rfl (by decide)
  have hbn : Below w1.heap.size w1 (w1.alloc (.cells #[.int .i64 1, .string ⟨#[]⟩, .int .i64 0, .int .i64 0, .int .i64 (-1), .string ⟨#[]⟩, .string ⟨#[]⟩, .int .i64 (-1), .int .i64 5, .string ⟨#[]⟩, .int .i64 0, .int .i64 0, .int .i64 (-1), .string ⟨#[]⟩, .string ⟨#[]⟩, .int .i64 (-1), .int .i64 5, .string ⟨#[]⟩, .int .i64 0, .int .i64 0, .int .i64 (-1), .string ⟨#[]⟩, .string ⟨#[]⟩, .int .i64 (-1), .int .i64 2, .string ⟨#[]⟩, .int .i64 0, .int .i64 0, .int .i64 (-1), .string ⟨#[]⟩, .string ⟨#[]⟩, .int .i64 (-1)] 44)) := (Below.refl _ _).alloc (Nat.le_refl _) _
  have hsn : (w1.alloc (.cells #[.int .i64 1, .string ⟨#[]⟩, .int .i64 0, .int .i64 0, .int .i64 (-1), .string ⟨#[]⟩, .string ⟨#[]⟩, .int .i64 (-1), .int .i64 5, .string ⟨#[]⟩, .int .i64 0, .int .i64 0, .int .i64 (-1), .string ⟨#[]⟩, .string ⟨#[]⟩, .int .i64 (-1), .int .i64 5, .string ⟨#[]⟩, .int .i64 0, .int .i64 0, .int .i64 (-1), .string ⟨#[]⟩, .string ⟨#[]⟩, .int .i64 (-1), .int .i64 2, .string ⟨#[]⟩, .int .i64 0, .int .i64 0, .int .i64 (-1), .string ⟨#[]⟩, .string ⟨#[]⟩, .int .i64 (-1)] 44)).heap.size = w1.heap.size + 1 := by simp
  generalize w1.alloc (.cells #[.int .i64 1, .string ⟨#[]⟩, .int .i64 0, .int .i64 0, .int .i64 (-1), .string ⟨#[]⟩, .string ⟨#[]⟩, .int .i64 (-1), .int .i64 5, .string ⟨#[]⟩, .int .i64 0, .int .i64 0, .int .i64 (-1), .string ⟨#[]⟩, .string ⟨#[]⟩, .int .i64 (-1), .int .i64 5, .string ⟨#[]⟩, .int .i64 0, .int .i64 0, .int .i64 (-1), .string ⟨#[]⟩, .string ⟨#[]⟩, .int .i64 (-1), .int .i64 2, .string ⟨#[]⟩, .int .i64 0, .int .i64 0, .int .i64 (-1), .string ⟨#[]⟩, .string ⟨#[]⟩, .int .i64 (-1)] 44) = wn at *
  have hOF := own_lit_kf (κ := Fl.κ) wn 82 flowsL #[.int .i64 0, .int .i64 1, .string ⟨#[]⟩, .int .i64 1, .int .i64 2, .string ⟨#[116, 114, 117, 101]⟩, .int .i64 2, .int .i64 1, .string ⟨#[]⟩, .int .i64 1, .int .i64 3, .string ⟨#[]⟩] (by decide) rfl (by decide)
  have hbf : Below wn.heap.size wn (wn.alloc (.cells #[.int .i64 0, .int .i64 1, .string ⟨#[]⟩, .int .i64 1, .int .i64 2, .string ⟨#[116, 114, 117, 101]⟩, .int .i64 2, .int .i64 1, .string ⟨#[]⟩, .int .i64 1, .int .i64 3, .string ⟨#[]⟩] 82)) := (Below.refl _ _).alloc (Nat.le_refl _) _
  have hsf : (wn.alloc (.cells #[.int .i64 0, .int .i64 1, .string ⟨#[]⟩, .int .i64 1, .int .i64 2, .string ⟨#[116, 114, 117, 101]⟩, .int .i64 2, .int .i64 1, .string ⟨#[]⟩, .int .i64 1, .int .i64 3, .string ⟨#[]⟩] 82)).heap.size = w1.heap.size + 2 := by simp; omega
  generalize wn.alloc (.cells #[.int .i64 0, .int .i64 1, .string ⟨#[]⟩, .int .i64 1, .int .i64 2, .string ⟨#[116, 114, 117, 101]⟩, .int .i64 2, .int .i64 1, .string ⟨#[]⟩, .int .i64 1, .int .i64 3, .string ⟨#[]⟩] 82) = wf at *
  have hOP := Cel.lit wf #[.string ⟨#[112]⟩, .slice (some ⟨w1.heap.size, 0, none⟩) 4 4, .slice (some ⟨w1.heap.size + 1, 0, none⟩) 4 4] 30
  have hbp : Below wf.heap.size wf (wf.alloc (.cells #[.string ⟨#[112]⟩, .slice (some ⟨w1.heap.size, 0, none⟩) 4 4, .slice (some ⟨w1.heap.size + 1, 0, none⟩) 4 4] 30)) := (Below.refl _ _).alloc (Nat.le_refl _) _
  generalize wf.alloc (.cells #[.string ⟨#[112]⟩, .slice (some ⟨w1.heap.size, 0, none⟩) 4 4, .slice (some ⟨w1.heap.size + 1, 0, none⟩) 4 4] 30) = wp at *
  rw [hsf] at hOP
  rw [hsn] at hOF
  have HON := Lib.hid ((hON.below hbf (by omega)).below hbp (by omega))
  have HOF := Lib.hid (hOF.below hbp (Nat.le_refl _))
  have HOP : Hid (Cel _ (w1.heap.size + 1 + 1) _) := Lib.hid hOP
  have HBP := Lib.hid (HB1.out.trans ((hbn.trans ((hbf.trans (hbp.mono hbf.size)).mono hbn.size)).mono HB1.out.size))
  have HQL := Lib.hid HB1.out.size
  clear hON hOF hOP hbn hbf hbp hsn hsf HB1
  generalize w1.heap.size = nb at *
  obtain ⟨⟨c0, c1, c2⟩, g0, g1, g2⟩ := tri_facts HOP.out
  have n4 : wp.cell? ⟨nb, 12, none⟩ = some (.int .i64 (-1)) := HON.out.row.of (by decide) (j := 1) (by decide) 4 _ rfl
  have f4 : wp.frozen? ⟨nb, 12, none⟩ = false := HON.out.frozen _
  go_upto_region 7 with (fail)
  clear c0 c1 c2 g0 g1 g2 n4 f4
  have hs1 : wp.grownBy (wp.setCell ⟨nb, 12, none⟩ (.int .i64 3)) (some nb) := grown_setCell wp ⟨nb, 12, none⟩ _
  have HON1 : Hid (OwnK Nd.κ (wp.setCell ⟨nb, 12, none⟩ (.int .i64 3)) nb 44 (some ⟨nb, 0, none⟩) 4 4 (pL false).nodes) := Lib.hid (HON.out.set (fun x : Nd => { x with dflt := 3 }) 4 (.int .i64 3) (by decide) (fun _ => rfl) (j := 1) (by decide))
  have HOF1 := Lib.hid (HOF.out.kept hs1 (fun a ha e => by have h2 : nb = a.block := Option.some.inj e; have h1 := (HOF.out.block ha).1; omega))
  have HOP1 := Lib.hid (HOP.out.kept hs1 (fun e => by have h2 : nb = nb + 1 + 1 := Option.some.inj e; omega))
  have HBP1 := Lib.hid (HBP.out.setCell (p := ⟨nb, 12, none⟩) (by show w.heap.size ≤ nb; exact HQL.out) (.int .i64 3))
  clear hs1 HON HOF HOP HBP
  generalize wp.setCell ⟨nb, 12, none⟩ (.int .i64 3) = wq at *
  obtain ⟨⟨c0, c1, c2⟩, g0, g1, g2⟩ := tri_facts HOP1.out
  cases work with
  | false =>
    have HNEW : Hid (Calls Tryz.prog 24 #[.agg #[.string ⟨#[112]⟩, .slice (some ⟨nb, 0, none⟩) 4 4, .slice (some ⟨nb + 1, 0, none⟩) 4 4], .slice none 0 0] wq fun e w' => (∃ (q : Nat) (x : BdV), e = .returned (.pointer (some ⟨q, 0, none⟩)) ∧ wq.heap.size ≤ q ∧ RnC w' q x (rn0 (pL false) [])) ∧ Below wq.heap.size wq w') := Lib.hid (fnew_any ⟨some ⟨nb, 0, none⟩, 4, 4, some ⟨nb + 1, 0, none⟩, 4, 4⟩ (pL false) none 0 0 [] wq ⟨HON1.out.row, HOF1.out.row, HON1.out.nn, HOF1.out.nn⟩ (KRow.nil _ _ _) (fun _ => ⟨rfl, rfl⟩) (by decide) (by decide) (by decide))
    go_upto_region 10 with (go_at_call 24; refine HNEW.out.mono ?_; rintro e w2 ⟨⟨q, x, rfl, hq, hr⟩, hb2⟩)
    clear c0 c1 c2 g0 g1 g2
    have HW2 := Lib.hid (HBP1.out.trans (hb2.mono HBP1.out.size))
    have hqw : w.heap.size ≤ q := Nat.le_trans HBP1.out.size hq
    have HR : Hid (RnC w2 q x ⟨bL false 0, 0, no⟩) := Lib.hid hr
    clear hr hb2 hq HNEW
    have HRUN := Lib.hid (frun_out E q x ⟨bL false 0, 0, no⟩ ⟨bL false 400, 400, no⟩ w w2 400 HR.out HW2.out hqw (HENV.out false) (okL false 0 (by decide) (by decide)) (by decide) (by have := mvLp 400 0 0; exact this) (fun h => h 0 (stepL false 400 (.inl rfl)).1.1))
    go_upto_region 14 with (go_at_call 27; refine HRUN.out.mono ?_; rintro e w3 ⟨rfl, ⟨x3, hr3⟩, hg3⟩)
    have HW3 := Lib.hid (below_grown HW2.out hg3 hqw)
    have HR3 := Lib.hid hr3
    have et : x3.nt = 1 := hr3.inn.ht.trans (stops_len _)
    have hokS : Ok (stops (bL false 400)) 5 := (okL false 400 (by decide) (by decide)).stops
    have hst : (⟨stops (bL false 400), 400, no⟩ : Rn).stuck.length = 1 := by
      unfold Rn.stuck
      rw [stopL]
      rfl
    have HSK := Lib.hid (fstuck_any q x3 ⟨stops (bL false 400), 400, no⟩ w3 hr3 hokS.t)
    unfold TksOut at HSK
    rw [hst] at HSK
    have HRUN2 := Lib.hid (fun (W : World) (hb : Below w3.heap.size w3 W) => frun_to E q x3 ⟨stops (bL false 400), 400, no⟩ ⟨stops (bL false 400), 400, no⟩ w W 5 0 (hr3.below hb) (HW3.out.trans (hb.mono HW3.out.size)) hqw (HENV.out false) hokS (by decide) (.zero _) (stops_rest _) (Nat.zero_le _))
    have HDN := Lib.hid (fun (W : World) (X : BdV) (h : RnC W q X ⟨stops (bL false 400), 400, no⟩) => (show Calls Tryz.prog 40 #[.pointer (some ⟨q, 0, none⟩)] W fun e w' => e = .returned (.bool false) ∧ w' = W from by
      have := fdone_any q X _ W h
      rwa [show decide ((⟨stops (bL false 400), 400, no⟩ : Rn).b.toks.length = 0) = false from by rw [stopL]; rfl] at this))
    obtain ⟨⟨z0, z1, z2, z3, z4, z5, z6, z7⟩, _⟩ := eight_facts hr3.cel
    rw [et] at z4
    have z6' : w3.cell? ⟨q, 6, none⟩ = some (.int .i64 400) := z6
    clear hr3 hg3 HRUN et hokS hst z6
    go_wp2_with (first
      | (go_at_call 41; refine HSK.out.mono ?_; rintro e w4 ⟨⟨Y, cc, rfl, _⟩, hb4⟩; have HB4 := Lib.hid hb4; clear z0 z1 z2 z3 z4 z5 z6' z7; obtain ⟨⟨z0, z1, z2, z3, z4, z5, z6, z7⟩, _⟩ := eight_facts (HR3.out.below hb4).cel; rw [show x3.nt = 1 from HR3.out.inn.ht.trans (stops_len _)] at z4; have HRN := Lib.hid (HRUN2.out w4 hb4); clear hb4)
      | (go_at_call 27; refine HRN.out.mono ?_; rintro e w5 ⟨rfl, ⟨x5, hr5⟩, hg5⟩; have HW5 := Lib.hid (below_grown (HW3.out.trans (HB4.out.mono HW3.out.size)) hg5 hqw); have HD5 := Lib.hid (HDN.out w5 x5 hr5); clear hr5 hg5)
      | (go_at_call 40; refine HD5.out.mono ?_; rintro e w6 ⟨rfl, rfl⟩))
    go_ret
    exact ⟨rfl, HW5.out⟩
  | true =>
    have n0 : wq.cell? ⟨nb, 16, none⟩ = some (.int .i64 5) := HON1.out.row.of (by decide) (j := 2) (by decide) 0 _ rfl
    have f0 : wq.frozen? ⟨nb, 16, none⟩ = false := HON1.out.frozen _
    have n1 : wq.cell? ⟨nb, 17, none⟩ = some (.string ⟨#[]⟩) := HON1.out.row.of (by decide) (j := 2) (by decide) 1 _ rfl
    have f1 : wq.frozen? ⟨nb, 17, none⟩ = false := HON1.out.frozen _
    have n2 : wq.cell? ⟨nb, 18, none⟩ = some (.int .i64 0) := HON1.out.row.of (by decide) (j := 2) (by decide) 2 _ rfl
    have f2 : wq.frozen? ⟨nb, 18, none⟩ = false := HON1.out.frozen _
    have n3 : wq.cell? ⟨nb, 19, none⟩ = some (.int .i64 0) := HON1.out.row.of (by decide) (j := 2) (by decide) 3 _ rfl
    have f3 : wq.frozen? ⟨nb, 19, none⟩ = false := HON1.out.frozen _
    have n4 : wq.cell? ⟨nb, 20, none⟩ = some (.int .i64 (-1)) := HON1.out.row.of (by decide) (j := 2) (by decide) 4 _ rfl
    have f4 : wq.frozen? ⟨nb, 20, none⟩ = false := HON1.out.frozen _
    have n5 : wq.cell? ⟨nb, 21, none⟩ = some (.string ⟨#[]⟩) := HON1.out.row.of (by decide) (j := 2) (by decide) 5 _ rfl
    have f5 : wq.frozen? ⟨nb, 21, none⟩ = false := HON1.out.frozen _
    have n6 : wq.cell? ⟨nb, 22, none⟩ = some (.string ⟨#[]⟩) := HON1.out.row.of (by decide) (j := 2) (by decide) 6 _ rfl
    have f6 : wq.frozen? ⟨nb, 22, none⟩ = false := HON1.out.frozen _
    have n7 : wq.cell? ⟨nb, 23, none⟩ = some (.int .i64 (-1)) := HON1.out.row.of (by decide) (j := 2) (by decide) 7 _ rfl
    have f7 : wq.frozen? ⟨nb, 23, none⟩ = false := HON1.out.frozen _
    go_upto_region 9 with (fail)
    clear c0 c1 c2 g0 g1 g2 n0 n1 n2 n3 n4 n5 n6 n7 f0 f1 f2 f3 f4 f5 f6 f7
    have hs1 := nd8_grown wq nb 16 wkS
    have HON2 : Hid (OwnK Nd.κ (nd8 wq nb 16 wkS) nb 44 (some ⟨nb, 0, none⟩) 4 4 (pL true).nodes) := Lib.hid (own_nd8 HON1.out (j := 2) (by decide) wkS)
    have HOF2 := Lib.hid (HOF1.out.kept hs1 (fun a ha e => by have h2 : nb = a.block := Option.some.inj e; have h1 := (HOF1.out.block ha).1; omega))
    have HOP2 := Lib.hid (HOP1.out.kept hs1 (fun e => by have h2 : nb = nb + 1 + 1 := Option.some.inj e; omega))
    have HBP2 := Lib.hid (nd8_below HBP1.out (b := nb) HQL.out 16 wkS)
    change Code.wp _ _ _ _ (nd8 wq nb 16 wkS)
    clear hs1 HON1 HOF1 HOP1 HBP1
    generalize nd8 wq nb 16 wkS = ww at *
    obtain ⟨⟨c0, c1, c2⟩, _⟩ := tri_facts HOP2.out
    have HNEW : Hid (Calls Tryz.prog 24 #[.agg #[.string ⟨#[112]⟩, .slice (some ⟨nb, 0, none⟩) 4 4, .slice (some ⟨nb + 1, 0, none⟩) 4 4], .slice none 0 0] ww fun e w' => (∃ (q : Nat) (x : BdV), e = .returned (.pointer (some ⟨q, 0, none⟩)) ∧ ww.heap.size ≤ q ∧ RnC w' q x (rn0 (pL true) [])) ∧ Below ww.heap.size ww w') := Lib.hid (fnew_any ⟨some ⟨nb, 0, none⟩, 4, 4, some ⟨nb + 1, 0, none⟩, 4, 4⟩ (pL true) none 0 0 [] ww ⟨HON2.out.row, HOF2.out.row, HON2.out.nn, HOF2.out.nn⟩ (KRow.nil _ _ _) (fun _ => ⟨rfl, rfl⟩) (by decide) (by decide) (by decide))
    go_upto_region 10 with (go_at_call 24; refine HNEW.out.mono ?_; rintro e w2 ⟨⟨q, x, rfl, hq, hr⟩, hb2⟩)
    clear c0 c1 c2
    have HW2 := Lib.hid (HBP2.out.trans (hb2.mono HBP2.out.size))
    have hqw : w.heap.size ≤ q := Nat.le_trans HBP2.out.size hq
    have HR : Hid (RnC w2 q x ⟨bL true (kL 0), 0, no⟩) := Lib.hid hr
    clear hr hb2 hq HNEW HON2 HOF2 HOP2 HBP2
    go_wp2_with fail
    go_loopw [9] (fun i wr => ∃ (j : Nat) (x : BdV) (m : Nat), j ≤ v ∧ i = .int .i64 j ∧ m ≤ 2 * j ∧ RnC wr q x ⟨bL true (kL j), m, no⟩ ∧ Below w.heap.size w wr) (fun i _ => v - (intOf i).toNat)
    case atStart => exact ⟨0, x, 0, Nat.zero_le _, rfl, Nat.le_refl _, HR.out, HW2.out⟩
    case round =>
      obtain ⟨j, x1, m, hj, rfl, hm, hrc, hbr⟩ := hrel
      have hv13 := HV.out
      have hwj : IntKind.i64.wrap ((j : Int) + 1) = (j : Int) + 1 := by rw [IntKind.wrap_i64]; omega
      by_cases hlt : j < v
      · have hI : (j : Int) < (v : Int) := by omega
        obtain ⟨nn, m2, hnn, hm2, hmv⟩ := mvW j m
        have hk9 : kL j ≤ 10000 := by unfold kL; split <;> omega
        have HRUN := Lib.hid (frun_to E q x1 ⟨bL true (kL j), m, no⟩ ⟨bL true (2 * j + 2), m2, no⟩ w wr 10 nn hrc hbr hqw (HENV.out true) (okL true (kL j) hk9 (by decide)) (show m ≤ 900000000 by omega) hmv (restL (by omega) (by omega)) (show nn ≤ 10 by omega))
        have HBR := Lib.hid hbr
        clear hrc hbr hmv
        go_upto_region 20 with (go_at_call 27; refine HRUN.out.mono ?_; rintro e w3 ⟨rfl, ⟨x3, hr3⟩, hg3⟩)
        have HW3 := Lib.hid (below_grown HBR.out hg3 hqw)
        have HR3 := Lib.hid hr3
        have hwt : (⟨bL true (2 * j + 2), m2, no⟩ : Rn).waits = [⟨((2 * j + 2 : Nat) : Int) + 1, 2, 1, false⟩] := waitsL (by omega) (by omega) m2 no
        have HWT := Lib.hid (fwaits_any q x3 ⟨bL true (2 * j + 2), m2, no⟩ w3 hr3 (show 1 ≤ 100000 by decide))
        unfold TksOut at HWT
        rw [hwt] at HWT
        clear hr3 hg3 HRUN hwt
        go_upto_region 21 with (go_at_call 39; refine HWT.out.mono ?_; rintro e w4 ⟨⟨Y, cc, rfl, hO⟩, hb4⟩)
        have HR4 := Lib.hid (HR3.out.below hb4)
        have HW4 := Lib.hid (HW3.out.trans (hb4.mono HW3.out.size))
        have hle : ([⟨((2 * j + 2 : Nat) : Int) + 1, 2, 1, false⟩] : List Tk).length = 1 := rfl
        rw [hle] at *
        obtain ⟨gy, hgy, _, _⟩ := hO.some_of (show 0 < 1 by decide)
        subst hgy
        obtain ⟨t0, t1, t2, t3⟩ := tk_at (j := 0) hO.row (show 0 < 1 by decide)
        have t0' : w4.cell? ⟨gy, 0, none⟩ = some (.int .i64 (((2 * j + 2 : Nat) : Int) + 1)) := t0
        have t1' : w4.cell? ⟨gy, 1, none⟩ = some (.int .i64 2) := t1
        have hgo := goL (k := 2 * j + 2) (by omega) (by omega)
        have hfew : (bL true (2 * j + 2)).Few := (okL true (2 * j + 2) (by omega) (Nat.zero_le _)).few
        have HGO := Lib.hid (fgo_any q x3 ⟨bL true (2 * j + 2), m2, no⟩ (((2 * j + 2 : Nat) : Int) + 1) 2 0 w4 HR4.out hfew (by
          show List.findIdx? _ [tL (2 * j + 2)] = some 0
          rw [List.findIdx?_cons]
          simp [tL]) (by
          show atW (pL true) (tL (2 * j + 2)) = true
          rw [workL (by omega) (by omega)]
          rfl))
        dsimp only at HGO
        rw [hgo] at HGO
        obtain ⟨idv, hidv⟩ : ∃ idv : Int, idv = ((2 * j + 2 : Nat) : Int) + 1 := ⟨_, rfl⟩
        rw [← hidv] at HGO t0'
        clear t0 t1 t2 t3 hgo hfew hO hb4 HWT hidv hle
        go_wp2_with (go_at_call 30; refine HGO.out.mono ?_; rintro e w5 ⟨⟨x5, he5, hr5⟩, hg5⟩; cases he5; have HR5 := Lib.hid hr5; have HW5 := Lib.hid (below_grown HW4.out hg5 hqw); clear hr5 hg5)
        go_roundw
        case measure => simp [intOf]; omega
        case rel => exact ⟨j + 1, x5, m2, by omega, by go_num, by omega, by rw [kL_succ]; exact HR5.out, HW5.out⟩
      · obtain rfl : j = v := by omega
        have hI : ¬ (j : Int) < (j : Int) := by omega
        have hv1 := HV1.out
        have HBR := Lib.hid hbr
        have et : x1.nt = 1 := hrc.inn.ht
        obtain ⟨⟨z0, z1, z2, z3, z4, z5, z6, z7⟩, _⟩ := eight_facts hrc.cel
        have hT := hrc.inn.toks
        rw [et] at z4 hT
        obtain ⟨gy, off, hgy, _, _⟩ := hT.2 (show 0 < 1 by decide)
        rw [hgy] at z4 hT
        obtain ⟨t0, t1, t2, t3⟩ := tk_at (j := 0) hT (show 0 < 1 by decide)
        have t1' : wr.cell? ⟨gy, off + 1, none⟩ = some (.int .i64 1) := by
          have h : (bL true (kL j)).toks[0]!.node = 1 := by
            show (nodeL (kL j) : Int) = 1
            unfold nodeL kL
            rw [if_neg (show ¬ j = 0 by omega), if_neg (by omega), if_pos (by omega)]
            rfl
          have t1 := t1
          rw [Nat.zero_mul, Nat.add_zero] at t1
          rw [t1]
          show some (Value.int .i64 (bL true (kL j)).toks[0]!.node) = _
          rw [h]
        clear t0 t1 t2 t3 hT hrc hbr et hgy
        go_wp2
        go_ret
        exact ⟨rfl, HBR.out⟩
end Pr
end Go.Proofs.YtkffnfgdmcebdaaGreatDoor
