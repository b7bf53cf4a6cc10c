/- FlowForks: the walk. -/
import Derived.Test.YtkffnfgdmcebdaaGreatDoorYJoint4
import Derived.Test.YtkffnfgdmcebdaaGreatDoorYJoint5
import Derived.Test.YtkffnfgdmcebdaaGreatDoorYJoint7
import Derived.Deep.RegionHeld3
namespace Go.Proofs.YtkffnfgdmcebdaaGreatDoor
open Go.RowKit

namespace Pr
set_option maxHeartbeats 12800000 in
set_option maxRecDepth 10000 in
theorem flowForks_true (E : Int → Option Addr) (n : Int) (TA : Option Addr) (tn tc : Nat) (tl : List Int) (w : World) (hn1 : -9223372036854775808 ≤ n) (hn2 : n ≤ 9223372036854775807) (ht : InRow w 1 TA tn tc (tl.map (Value.int .i64))) (htb : ∀ y ∈ tl, -9223372036854775808 ≤ y ∧ y ≤ 9223372036854775807) (hE : ErrIn w E 116 2) (hE2 : ErrIn w E 104 1) :
    Calls Tryz.prog 8 #[.int .i64 n, .slice TA tn tc, .bool true] w fun e w' => e = .returned (.bool true) ∧ Below w.heap.size w w' := by
  obtain ⟨i1, hi1, hy0, hy1, hy2⟩ := info_parts info_flow
  obtain ⟨i2, hi2, hx0, hx1, hx2⟩ := info_parts info_node
  obtain ⟨kv, hve, hvl⟩ := nmb_nat n 4 (by omega)
  have N0 := Lib.hid (fun w => mnumber_any n 4 w (by omega) hn1 hn2 (by omega))
  rw [hve] at N0
  obtain ⟨v, hv⟩ : ∃ v : Nat, v = kv + 2 := ⟨_, rfl⟩
  have HSUM : Hid (IntKind.i64.wrap ((kv : Int) + 2) = (v : Int)) := by
    refine Lib.hid ?_
    have h : IntKind.i64.wrap ((kv : Int) + 2) = (kv : Int) + 2 := by rw [IntKind.wrap_i64]; omega
    omega
  have HV := Lib.hid (show v < 6 by omega)
  have HV2 := Lib.hid (show 2 ≤ v by omega)
  have HENV : Hid (Env E w (pK true v) []) := Lib.hid (env_free hE hE2 (condK true v) [])
  have htl : tl.length = tn := by have := Row.len ht.row; simpa using this
  have HT := Lib.hid ht.row
  have HTM := Lib.hid ht.cap
  have HTX := Lib.hid ht.most
  have HTB := Lib.hid htb
  clear hve hn1 hn2 hvl hv hE hE2 ht htb
  go_enter Tryz.func8, Tryz.ntmps8
  go_wp2_with fail
  refine (ffirst_any w).mono ?_
  rintro e w1 ⟨rfl, hb1⟩
  have HB1 := Lib.hid hb1
  clear hb1
  go_wp2_with fail
  refine (N0.out _).mono ?_
  rintro e wy ⟨rfl, rfl⟩
  have hs := HSUM.out
  go_upto_region 5 with (fail)
  try rw [hs]
  clear hs N0
  go_upto_region 9 with (fail)
  have hON : OwnK Nd.κ (w1.alloc (.cells #[.int .i64 1, .string ⟨#[]⟩, .int .i64 0, .int .i64 0, .int .i64 (-1), .string ⟨#[]⟩, .string ⟨#[]⟩, .int .i64 (-1), .int .i64 7, .string ⟨#[]⟩, .int .i64 0, .int .i64 0, .int .i64 (-1), .string ⟨#[]⟩, .string ⟨#[]⟩, .int .i64 (-1), .int .i64 7, .string ⟨#[]⟩, .int .i64 0, .int .i64 0, .int .i64 (-1), .string ⟨#[]⟩, .string ⟨#[]⟩, .int .i64 (-1), .int .i64 2, .string ⟨#[]⟩, .int .i64 0, .int .i64 0, .int .i64 (-1), .string ⟨#[]⟩, .string ⟨#[]⟩, .int .i64 (-1)] 44)) w1.heap.size 44 (some ⟨w1.heap.size, 0, none⟩) 4 4 (nodesK true 0) := own_lit_kf (κ := Nd.κ) w1 44 (nodesK true 0) #[.int .i64 1, .string ⟨#[]⟩, .int .i64 0, .int .i64 0, .int .i64 (-1), .string ⟨#[]⟩, .string ⟨#[]⟩, .int .i64 (-1), .int .i64 7, .string ⟨#[]⟩, .int .i64 0, .int .i64 0, .int .i64 (-1), .string ⟨#[]⟩, .string ⟨#[]⟩, .int .i64 (-1), .int .i64 7, .string ⟨#[]⟩, .int .i64 0, .int .i64 0, .int .i64 (-1), .string ⟨#[]⟩, .string ⟨#[]⟩, .int .i64 (-1), .int .i64 2, .string ⟨#[]⟩, .int .i64 0, .int .i64 0, .int .i64 (-1), .string ⟨#[]⟩, .string ⟨#[]⟩, .int .i64 (-1)] (by decide) rfl (by decide)
  have hbn : Below w1.heap.size w1 (w1.alloc (.cells #[.int .i64 1, .string ⟨#[]⟩, .int .i64 0, .int .i64 0, .int .i64 (-1), .string ⟨#[]⟩, .string ⟨#[]⟩, .int .i64 (-1), .int .i64 7, .string ⟨#[]⟩, .int .i64 0, .int .i64 0, .int .i64 (-1), .string ⟨#[]⟩, .string ⟨#[]⟩, .int .i64 (-1), .int .i64 7, .string ⟨#[]⟩, .int .i64 0, .int .i64 0, .int .i64 (-1), .string ⟨#[]⟩, .string ⟨#[]⟩, .int .i64 (-1), .int .i64 2, .string ⟨#[]⟩, .int .i64 0, .int .i64 0, .int .i64 (-1), .string ⟨#[]⟩, .string ⟨#[]⟩, .int .i64 (-1)] 44)) := (Below.refl _ _).alloc (Nat.le_refl _) _
  have hsn : (w1.alloc (.cells #[.int .i64 1, .string ⟨#[]⟩, .int .i64 0, .int .i64 0, .int .i64 (-1), .string ⟨#[]⟩, .string ⟨#[]⟩, .int .i64 (-1), .int .i64 7, .string ⟨#[]⟩, .int .i64 0, .int .i64 0, .int .i64 (-1), .string ⟨#[]⟩, .string ⟨#[]⟩, .int .i64 (-1), .int .i64 7, .string ⟨#[]⟩, .int .i64 0, .int .i64 0, .int .i64 (-1), .string ⟨#[]⟩, .string ⟨#[]⟩, .int .i64 (-1), .int .i64 2, .string ⟨#[]⟩, .int .i64 0, .int .i64 0, .int .i64 (-1), .string ⟨#[]⟩, .string ⟨#[]⟩, .int .i64 (-1)] 44)).heap.size = w1.heap.size + 1 := by simp
  generalize w1.alloc (.cells #[.int .i64 1, .string ⟨#[]⟩, .int .i64 0, .int .i64 0, .int .i64 (-1), .string ⟨#[]⟩, .string ⟨#[]⟩, .int .i64 (-1), .int .i64 7, .string ⟨#[]⟩, .int .i64 0, .int .i64 0, .int .i64 (-1), .string ⟨#[]⟩, .string ⟨#[]⟩, .int .i64 (-1), .int .i64 7, .string ⟨#[]⟩, .int .i64 0, .int .i64 0, .int .i64 (-1), .string ⟨#[]⟩, .string ⟨#[]⟩, .int .i64 (-1), .int .i64 2, .string ⟨#[]⟩, .int .i64 0, .int .i64 0, .int .i64 (-1), .string ⟨#[]⟩, .string ⟨#[]⟩, .int .i64 (-1)] 44) = wn at *
  have hOF : OwnK Fl.κ (wn.alloc (.cells #[.int .i64 0, .int .i64 1, .string ⟨#[]⟩, .int .i64 2, .int .i64 3, .string ⟨#[]⟩] 82)) wn.heap.size 82 (some ⟨wn.heap.size, 0, none⟩) 2 2 (flowsK 0) := own_lit_kf (κ := Fl.κ) wn 82 (flowsK 0) #[.int .i64 0, .int .i64 1, .string ⟨#[]⟩, .int .i64 2, .int .i64 3, .string ⟨#[]⟩] (by decide) rfl (by decide)
  have hbf : Below wn.heap.size wn (wn.alloc (.cells #[.int .i64 0, .int .i64 1, .string ⟨#[]⟩, .int .i64 2, .int .i64 3, .string ⟨#[]⟩] 82)) := (Below.refl _ _).alloc (Nat.le_refl _) _
  have hsf : (wn.alloc (.cells #[.int .i64 0, .int .i64 1, .string ⟨#[]⟩, .int .i64 2, .int .i64 3, .string ⟨#[]⟩] 82)).heap.size = w1.heap.size + 2 := by simp; omega
  generalize wn.alloc (.cells #[.int .i64 0, .int .i64 1, .string ⟨#[]⟩, .int .i64 2, .int .i64 3, .string ⟨#[]⟩] 82) = wf at *
  have hOP := Cel.lit wf #[.string ⟨#[112]⟩, .slice (some ⟨w1.heap.size, 0, none⟩) 4 4, .slice (some ⟨w1.heap.size + 1, 0, none⟩) 2 2] 30
  have hbp : Below wf.heap.size wf (wf.alloc (.cells #[.string ⟨#[112]⟩, .slice (some ⟨w1.heap.size, 0, none⟩) 4 4, .slice (some ⟨w1.heap.size + 1, 0, none⟩) 2 2] 30)) := (Below.refl _ _).alloc (Nat.le_refl _) _
  have hOP : Cel _ (w1.heap.size + 1 + 1) _ := hsf ▸ hOP
  rw [hsn] at hOF
  have HC0 : Hid (C (wf.alloc (.cells #[.string ⟨#[112]⟩, .slice (some ⟨w1.heap.size, 0, none⟩) 4 4, .slice (some ⟨w1.heap.size + 1, 0, none⟩) 2 2] 30)) w1.heap.size (w1.heap.size + 1 + 1) ⟨⟨#[112]⟩, nodesK true 0, flowsK 0⟩) := Lib.hid ⟨⟨_, 4, 4, _, 2, 2, hOP, ((hON.below hbf (by omega)).below hbp (by omega)), ((hOF.below hbp (Nat.le_refl _)).lower (by omega)), (fun a ha e => by obtain rfl := Option.some.inj ha; have e : w1.heap.size = w1.heap.size + 2 := e; omega), (fun a ha e => by obtain rfl := Option.some.inj ha; have e : w1.heap.size + 1 = w1.heap.size + 2 := e; omega)⟩, by omega⟩
  have HBP := Lib.hid (HB1.out.trans ((hbn.trans ((hbf.trans (hbp.mono hbf.size)).mono hbn.size)).mono HB1.out.size))
  have HQL := Lib.hid HB1.out.size
  clear hON hOF hOP hbp hbn hbf hsn hsf HB1
  generalize wf.alloc _ = wp at *
  generalize w1.heap.size = nb at *
  go_wp2_with fail
  go_loopw [10] (fun i wr => ∃ j : Nat, j ≤ v ∧ i = .int .i64 j ∧ C wr nb (nb + 1 + 1) ⟨⟨#[112]⟩, nodesK true j, flowsK j⟩ ∧ Below w.heap.size w wr) (fun i _ => v - (intOf i).toNat)
  case atStart => exact ⟨0, Nat.zero_le _, rfl, HC0.out, HBP.out⟩
  case round =>
    obtain ⟨j, hj, rfl, hC, hbr⟩ := hrel
    have hj0 : (0 : Int) ≤ (j : Int) := by omega
    have hv5 := HV.out
    by_cases hlt : j < v
    · have hI : (j : Int) < (v : Int) := by omega
      have hw4 : IntKind.i64.wrap (4 + (j : Int)) = 4 + (j : Int) := by rw [IntKind.wrap_i64]; omega
      have hwj : IntKind.i64.wrap ((j : Int) + 1) = (j : Int) + 1 := by rw [IntKind.wrap_i64]; omega
      have HN0 := Lib.hid (nodesK_snoc true j)
      obtain ⟨A, n, c, F, m, d, hc, hn, hf, h1, h2⟩ := hC.ex
      have hlow := hC.low
      obtain rfl : j + 4 = n := (nodesK_len true j).symm.trans hn.len
      obtain rfl : 2 * j + 2 = m := (flowsK_len j).symm.trans hf.len
      have hba : Below wr.heap.size wr (wr.alloc (.cells #[.int .i64 4, .string ⟨#[116]⟩, .int .i64 0, .int .i64 1, .int .i64 (-1), .string ⟨#[]⟩, .string ⟨#[]⟩, .int .i64 (-1)] 44)) := (Below.refl _ _).alloc (Nat.le_refl _) _
      have HCa := Lib.hid (hc.below hba (Nat.le_refl _))
      have HNa := Lib.hid (hn.below hba (Nat.le_refl _))
      have HFa := Lib.hid (hf.below hba (Nat.le_refl _))
      have HBa := Lib.hid (hbr.trans (hba.mono hbr.size))
      have HR : Hid (KRow Nd.κ (wr.alloc (.cells #[.int .i64 4, .string ⟨#[116]⟩, .int .i64 0, .int .i64 1, .int .i64 (-1), .string ⟨#[]⟩, .string ⟨#[]⟩, .int .i64 (-1)] 44)) (wr.heap.size + 1) (some ⟨wr.heap.size, 0, none⟩) 1 [wkS]) := Lib.hid (KRow.lit (κ := Nd.κ) wr 44 [wkS] #[.int .i64 4, .string ⟨#[116]⟩, .int .i64 0, .int .i64 1, .int .i64 (-1), .string ⟨#[]⟩, .string ⟨#[]⟩, .int .i64 (-1)] rfl)
      have hql := hc.lt
      have hbw : nb ≤ (wr.alloc (.cells #[.int .i64 4, .string ⟨#[116]⟩, .int .i64 0, .int .i64 1, .int .i64 (-1), .string ⟨#[]⟩, .string ⟨#[]⟩, .int .i64 (-1)] 44)).heap.size := by have := hba.size; omega
      have hsm : (j + 4) ≤ 1000000 := by omega
      obtain ⟨⟨c0, c1, c2⟩, f0, f1, f2⟩ := tri_facts hc
      clear hc hn hf hba hC hbr
      go_upto_region 13 with (at_builtin; refine append_k (κ := Nd.κ) rfl (.tmp 39) (.tmp 41) 27 44 i2 _ 88 Tryz.underlying27 hi2 hx0 hx1 hx2 rfl rfl _ nb _ A (j + 4) c (nodesK true j) ⟨wr.heap.size, 0, none⟩ wkS rfl HNa.out rfl HR.out hsm (by decide) hbw ?_; intro A' c' w' ho hg; obtain ⟨⟨d0, d1, d2⟩, g0, g1, g2⟩ := tri_facts (cel_grew HCa.out hg h1); have HX1 := Lib.hid ho; have HX2 := Lib.hid hg; clear ho hg)
      have hC := C.nodes HCa.out HNa.out HFa.out h1 h2 hlow HX2.out HX1.out
      have hbr := (HBa.out.trans ((HX2.out.below HNa.out.2 hbw).mono (by have := HQL.out; omega))).setCell (p := ⟨nb + 1 + 1, 1, none⟩) (by show w.heap.size ≤ nb + 1 + 1; have := HQL.out; omega) (.slice A' ((j + 4) + 1) c')
      clear c0 c1 c2 f0 f1 f2 d0 d1 d2 g0 g1 g2 h1 h2 hlow hql hbw hsm HX1 HX2 HCa HNa HFa HBa HR
      generalize w'.setCell _ _ = wx at *
      obtain ⟨A, n, c, F, m, d, hc, hn, hf, h1, h2⟩ := hC.ex
      have hlow := hC.low
      obtain rfl : j + 4 + 1 = n := by have h3 := hn.len; have h4 := nodesK_len true j; simp only [List.length_append, List.length_singleton] at h3; omega
      obtain rfl : 2 * j + 2 = m := (flowsK_len j).symm.trans hf.len
      have hba : Below wx.heap.size wx (wx.alloc (.cells #[.int .i64 1, .int .i64 (4 + (j : Int)), .string ⟨#[]⟩, .int .i64 (4 + (j : Int)), .int .i64 2, .string ⟨#[]⟩] 82)) := (Below.refl _ _).alloc (Nat.le_refl _) _
      have HCa := Lib.hid (hc.below hba (Nat.le_refl _))
      have HNa := Lib.hid (hn.below hba (Nat.le_refl _))
      have HFa := Lib.hid (hf.below hba (Nat.le_refl _))
      have HBa := Lib.hid (hbr.trans (hba.mono hbr.size))
      have HR : Hid (KRow Fl.κ (wx.alloc (.cells #[.int .i64 1, .int .i64 (4 + (j : Int)), .string ⟨#[]⟩, .int .i64 (4 + (j : Int)), .int .i64 2, .string ⟨#[]⟩] 82)) (wx.heap.size + 1) (some ⟨wx.heap.size, 0, none⟩) 2 [⟨1, 4 + (j : Int), no⟩, ⟨4 + (j : Int), 2, no⟩]) := Lib.hid (KRow.lit (κ := Fl.κ) wx 82 [⟨1, 4 + (j : Int), no⟩, ⟨4 + (j : Int), 2, no⟩] #[.int .i64 1, .int .i64 (4 + (j : Int)), .string ⟨#[]⟩, .int .i64 (4 + (j : Int)), .int .i64 2, .string ⟨#[]⟩] rfl)
      have hql := hc.lt
      have hbw : nb ≤ (wx.alloc (.cells #[.int .i64 1, .int .i64 (4 + (j : Int)), .string ⟨#[]⟩, .int .i64 (4 + (j : Int)), .int .i64 2, .string ⟨#[]⟩] 82)).heap.size := by have := hba.size; omega
      have hsm : (2 * j + 2) ≤ 1000000 := by omega
      obtain ⟨⟨c0, c1, c2⟩, f0, f1, f2⟩ := tri_facts hc
      clear hc hn hf hba hC hbr
      go_wp2_with (at_builtin; refine append_kf (κ := Fl.κ) rfl (.tmp 45) (.tmp 52) 28 82 i1 _ 32 Tryz.underlying28 hi1 hy0 hy1 hy2 rfl rfl _ nb _ F (2 * j + 2) d (flowsK j) ⟨wx.heap.size, 0, none⟩ 2 [⟨1, 4 + (j : Int), no⟩, ⟨4 + (j : Int), 2, no⟩] rfl HFa.out rfl HR.out hsm (by decide) (by decide) hbw ?_; intro A' c' w' ho hg; obtain ⟨⟨d0, d1, d2⟩, g0, g1, g2⟩ := tri_facts (cel_grew HCa.out hg h2); have HX1 := Lib.hid ho; have HX2 := Lib.hid hg; clear ho hg)
      have hC := C.flows HCa.out HNa.out HFa.out h1 h2 hlow HX2.out HX1.out
      have hbr := (HBa.out.trans ((HX2.out.below HFa.out.2 hbw).mono (by have := HQL.out; omega))).setCell (p := ⟨nb + 1 + 1, 2, none⟩) (by show w.heap.size ≤ nb + 1 + 1; have := HQL.out; omega) (.slice A' ((2 * j + 2) + 2) c')
      have HCZ := Lib.hid hC
      have HBZ := Lib.hid hbr
      clear c0 c1 c2 f0 f1 f2 d0 d1 d2 g0 g1 g2 h1 h2 hlow hql hbw hsm HX1 HX2 HCa HNa HFa HBa HR hC hbr
      go_roundw
      case measure => simp [intOf]; omega
      case rel =>
        refine ⟨j + 1, by omega, by go_num, ?_, HBZ.out⟩
        have h := HCZ.out
        rw [← HN0.out] at h
        exact h
    · obtain rfl : j = v := by omega
      have hI : ¬ ((j : Int) < (j : Int)) := by omega
      obtain ⟨A, n, c, F, m, d, hc, hn, hf, h1, h2⟩ := hC.ex
      obtain ⟨⟨c0, c1, c2⟩, _⟩ := tri_facts hc
      have HBR := Lib.hid hbr
      have hpm : (pK true j).m ≤ 90000 := by rw [pK_m]; omega
      have hpn : (pK true j).n ≤ 100000 := by rw [pK_n]; omega
      have HNEW : Hid (Calls Tryz.prog 24 #[.agg #[.string ⟨#[112]⟩, .slice A n c, .slice F m d], .slice none 0 0] wr fun e w' => (∃ (q : Nat) (x : BdV), e = .returned (.pointer (some ⟨q, 0, none⟩)) ∧ wr.heap.size ≤ q ∧ RnC w' q x (rn0 (pK true j) [])) ∧ Below wr.heap.size wr w') := Lib.hid (fnew_any ⟨A, n, c, F, m, d⟩ (pK true j) none 0 0 [] wr ⟨hn.row, hf.row, hn.nn, hf.nn⟩ (KRow.nil _ _ _) (fun _ => ⟨rfl, rfl⟩) hpn hpm (by decide))
      clear hc hn hf hC hbr h1 h2 hlt hj0 hI hpm hpn
      go_upto_region 15 with (go_at_call 24; refine HNEW.out.mono ?_; rintro e w2 ⟨⟨q, x, rfl, hq, hr⟩, hb2⟩)
      clear c0 c1 c2
      have HW2 := Lib.hid (HBR.out.trans (hb2.mono HBR.out.size))
      have hqw : w.heap.size ≤ q := Nat.le_trans HBR.out.size hq
      have HR : Hid (RnC w2 q x ⟨b0K true j, 0, no⟩) := Lib.hid hr
      have HH0 := Lib.hid (HdK.zero true j HV.out)
      clear hr hb2 hq HNEW HBR HBP HC0
      go_wp2_with fail
      go_loopw [12] (fun s wr => ∃ (i : Nat) (x : BdV) (m : Nat) (b : Bd), i ≤ j ∧ s = .int .i64 i ∧ m ≤ 2 * i ∧ HdK true j i b ∧ RnC wr q x ⟨b, m, no⟩ ∧ Below w.heap.size w wr) (fun s _ => j - (intOf s).toNat)
      case atStart => exact ⟨0, x, 0, _, Nat.zero_le _, rfl, Nat.le_refl _, HH0.out, HR.out, HW2.out⟩
      case round =>
        obtain ⟨i, x1, m1, b, hij, rfl, hm1, hhd, hrc, hbr⟩ := hrel
        have hv5 := HV.out
        have hv2 := HV2.out
        have hi0 : (0 : Int) ≤ (i : Int) := by omega
        have hwi : IntKind.i64.wrap ((i : Int) + 1) = (i : Int) + 1 := by rw [IntKind.wrap_i64]; omega
        have hpb : b.p = pK true j ∧ b.vars = [] := by
          rcases hhd.2 with ⟨_, rfl⟩ | ⟨_, rem, don, rfl, _⟩ <;> exact ⟨rfl, rfl⟩
        by_cases hlt : i < j
        · have hI : (i : Int) < (j : Int) := by omega
          obtain ⟨nn, m2, rem, don, hnn, hm2, hmv, hkx, hdl, hrl, hrest, hok⟩ := hhd.run hv5 hv2 hlt m1
          have HRUN := Lib.hid (frun_to E q x1 ⟨b, m1, no⟩ ⟨bK true j rem don, m2, no⟩ w wr 20 nn hrc hbr hqw (by rw [hpb.1, hpb.2]; exact HENV.out) (hhd.1.less (show 20 ≤ 1000 - 30 * i by omega)) (show m1 ≤ 900000000 by omega) hmv hrest (show nn ≤ 20 by omega))
          have HBR := Lib.hid hbr
          have HKX := Lib.hid hkx
          have HOK := Lib.hid hok
          have hbl : (bK true j rem don).toks.length = j := by rw [bK_len]; have := hkx.len; omega
          have HBL := Lib.hid hbl
          have HRL := Lib.hid hrl
          have HDL := Lib.hid hdl
          clear hrl hdl
          clear hrc hbr hmv hkx hok hrest hhd hpb
          go_upto_region 22 with (first
            | (go_at_call 27; refine HRUN.out.mono ?_; rintro e w3 ⟨rfl, ⟨x3, hr3⟩, hg3⟩; have HR3 := Lib.hid hr3; have HW3 := Lib.hid (below_grown HBR.out hg3 hqw); clear hr3 hg3)
            | (go_at_call 40; refine (fdone_any q x3 ⟨bK true j rem don, m2, no⟩ w3 HR3.out).mono ?_; rintro e w4 ⟨rfl, hw4⟩; have hw4 := hw4.symm; subst hw4; rw [show decide ((⟨bK true j rem don, m2, no⟩ : Rn).b.toks.length = 0) = false from decide_eq_false (by show ¬ (bK true j rem don).toks.length = 0; rw [hbl]; omega)]))
          have hwt : (⟨bK true j rem don, m2, no⟩ : Rn).waits = rem.map wtK := waitsK HKX.out m2 no
          have HWT := Lib.hid (fwaits_any q x3 ⟨bK true j rem don, m2, no⟩ w3 HR3.out (show (bK true j rem don).toks.length ≤ 100000 by rw [hbl]; omega))
          unfold TksOut at HWT
          rw [hwt, List.length_map] at HWT
          clear hwt HRUN
          go_upto_region 23 with (go_at_call 39; refine HWT.out.mono ?_; rintro e w4 ⟨⟨Y, cc, rfl, hO⟩, hb4⟩)
          have HR4 := Lib.hid (HR3.out.below hb4)
          have HW4 := Lib.hid (HW3.out.trans (hb4.mono HW3.out.size))
          have HOW := Lib.hid hO
          have et : x3.nt = j := HR4.out.inn.ht.trans hbl
          obtain ⟨⟨z0, z1, z2, z3, z4, z5, z6, z7⟩, _⟩ := eight_facts HR4.out.cel
          rw [et] at z4
          have hsub : IntKind.i64.wrap ((j : Int) - (i : Int)) = (rem.length : Int) := by have := HRL.out; rw [IntKind.wrap_i64]; omega
          clear hO hb4 HWT et
          go_upto_region 26 with (fail)
          clear z0 z1 z2 z3 z4 z5 z6 z7 hsub
          go_upto_if 92 with (fail)
          have hrp : 0 < rem.length := by have := HRL.out; omega
          go_cut [14] from 59 to 115 (fun s wx => ∃ k : Nat, k < rem.length ∧ s = .int .i64 (k : Int) ∧ wx = w4)
          case first =>
            by_cases hit : i < tn
            · have hit' : (i : Int) < (tn : Int) := by omega
              obtain ⟨tb, toff, rfl, _, htc⟩ := Row.at_ ((HT.out : Row w w.heap.size TA tn (tl.map (Value.int .i64))).below HW4.out (Nat.le_refl _)) hit
              rw [List.getElem_map] at htc
              have hmem : tl[i]'(by rw [htl]; exact hit) ∈ tl := List.getElem_mem _
              have hbd := HTB.out _ hmem
              generalize tl[i]'(by rw [htl]; exact hit) = tv at *
              obtain ⟨kk, hke, hkl⟩ := nmb_nat tv (rem.length : Int) (by omega)
              have HNN := Lib.hid (fun w => mnumber_any tv (rem.length : Int) w (by omega) hbd.1 hbd.2 (by have := HRL.out; omega))
              rw [hke] at HNN
              clear hmem hbd hke
              go_wp2_with (go_at_call 15; refine (HNN.out _).mono ?_; rintro e wz ⟨rfl, rfl⟩)
              go_meet
              exact ⟨kk, by omega, rfl, rfl⟩
            · have hit' : ¬ (i : Int) < (tn : Int) := by omega
              go_wp2
              go_meet
              exact ⟨0, hrp, rfl, rfl⟩
          case rest =>
            obtain ⟨k, hk, rfl, rfl⟩ := hcut
            have HHD := Lib.hid (HdK.go HV.out HV2.out HKX.out HDL.out HOK.out hlt hk)
            have hgo := (goK (inc := true) HV.out HV2.out HKX.out hk).1
            have hrk : rem[k]! < j := HKX.out.lt (.inl (mem! hk))
            obtain ⟨gy, hgy, hgl1, hgl2⟩ := HOW.out.some_of hrp
            have hgq : gy ≠ q := by have := HR3.out.cel.lt; omega
            subst hgy
            have hmk : (rem.map wtK)[k]! = wtK rem[k]! := by
              rw [getElem!_pos (rem.map wtK) k (by simpa using hk), List.getElem_map, getElem!_pos rem k hk]
            obtain ⟨t0, t1, t2, t3⟩ := tk_at (j := k) HOW.out.row hk
            rw [hmk] at t0 t1
            have hidx : (bK true j rem don).toks.findIdx? (fun t => t.id == 3 + (rem[k]! : Int)) = some k := idxK HKX.out hk
            have hatw : atW (bK true j rem don).p (bK true j rem don).toks[k]! = true := by
              rw [bK_rem true j rem don hk]
              exact atW_rem HKX.out (mem! hk)
            have HGO := Lib.hid (fgo_any q x3 ⟨bK true j rem don, m2, no⟩ (3 + (rem[k]! : Int)) (3 + 2 * (rem[k]! : Int)) k wc.drew (HR4.out.below (Below.refl wc.heap.size wc).drew) HOK.out.few hidx hatw)
            dsimp only at HGO
            rw [hgo] at HGO
            generalize don ++ [rem[k]!] = don2 at *
            generalize rem.eraseIdx k = rem2 at *
            generalize rem[k]! = rk at *
            have t0' : wc.cell? ⟨gy, k * 4, none⟩ = some (.int .i64 (3 + (rk : Int))) := by rw [Nat.zero_add] at t0; exact t0
            have t1' : wc.cell? ⟨gy, k * 4 + 1, none⟩ = some (.int .i64 (4 + (rk : Int))) := by rw [Nat.zero_add] at t1; exact t1
            have hk0 : (0 : Int) ≤ (k : Int) := by omega
            have hkI : (k : Int) < (rem.length : Int) := by omega
            have e1 : IntKind.i64.wrap (4 + (rk : Int) - 4) = (rk : Int) := by rw [IntKind.wrap_i64]; omega
            have e2 : IntKind.i64.wrap (2 * (rk : Int)) = 2 * (rk : Int) := by rw [IntKind.wrap_i64]; omega
            have e3 : IntKind.i64.wrap (3 + 2 * (rk : Int)) = 3 + 2 * (rk : Int) := by rw [IntKind.wrap_i64]; omega
            have u0 : wc.drew.cell? ⟨gy, k * 4, none⟩ = some (.int .i64 (3 + (rk : Int))) := t0'
            have u1 : wc.drew.cell? ⟨gy, k * 4 + 1, none⟩ = some (.int .i64 (4 + (rk : Int))) := t1'
            clear t0 t1 t2 t3 hgo hmk hidx hatw HOW HKX HOK HBL hbl HRL HDL
            go_wp2_with fail
            go_region_held3 (fun w' => w'.cell? ⟨gy, k * 4, none⟩ = some (.int .i64 (3 + (rk : Int))) ∧ w'.cell? ⟨gy, k * 4 + 1, none⟩ = some (.int .i64 (4 + (rk : Int)))) (first | exact ⟨v0, v1⟩ | exact ⟨u0, u1⟩) (first
              | (go_at_call 30; refine HGO.out.mono ?_; rintro e w5 ⟨⟨x5, he5, hr5⟩, hg5⟩; cases he5; have HR5 := Lib.hid hr5; have HW5 := Lib.hid (below_grown HW4.out.drew hg5 hqw); have hbk := hg5.block gy hgl2 (fun e => hgq (Option.some.inj e)); have v0 := (World.cell?_of_block (a := ⟨gy, k * 4, none⟩) hbk).trans u0; have v1 := (World.cell?_of_block (a := ⟨gy, k * 4 + 1, none⟩) hbk).trans u1; clear hr5 hg5 hbk))
            go_wp2_with fail
            go_roundw
            case measure => simp [intOf]; omega
            case rel => exact ⟨i + 1, x5, m2, _, by omega, by go_num, by omega, HHD.out, HR5.out, HW5.out⟩
        · obtain rfl : i = j := by omega
          have hI : ¬ (i : Int) < (i : Int) := by omega
          obtain ⟨hmv, hok⟩ := hhd.fin hv5 hv2 m1
          have HRUN := Lib.hid (frun_to E q x1 ⟨b, m1, no⟩ ⟨b4K true i, m1 + 1 + 1, no⟩ w wr 20 2 hrc hbr hqw (by rw [hpb.1, hpb.2]; exact HENV.out) (show Ok b (lim 20) from hok) (show m1 ≤ 900000000 by omega) hmv (rest_nil rfl) (show 2 ≤ 20 by decide))
          have HBR := Lib.hid hbr
          have HLI := Lib.hid (fun W => mlight_any ⟨⟨#[]⟩, none, 0, 0, none, 0, 0, none, 0, 0, [], [], []⟩ W)
          have hli : light ⟨⟨#[]⟩, none, 0, 0, none, 0, 0, none, 0, 0, [], [], []⟩ = true := by decide
          rw [hli] at HLI
          unfold SeedV.val at HLI
          dsimp only at HLI
          clear hrc hbr hmv hok hhd hpb hli
          go_wp2_with (first
            | (go_at_call 27; refine HRUN.out.mono ?_; rintro e w3 ⟨rfl, ⟨x3, hr3⟩, hg3⟩; have HR3 := Lib.hid hr3; have HW3 := Lib.hid (below_grown HBR.out hg3 hqw); clear hr3 hg3)
            | (go_at_call 40; refine (fdone_any q x3 ⟨b4K true i, m1 + 1 + 1, no⟩ w3 HR3.out).mono ?_; rintro e w4 ⟨rfl, hw4⟩; have hw4 := hw4.symm; subst hw4; rw [show decide ((⟨b4K true i, m1 + 1 + 1, no⟩ : Rn).b.toks.length = 0) = true from rfl])
            | (go_at_call 41; refine (fstuck_any q x3 ⟨b4K true i, m1 + 1 + 1, no⟩ w3 HR3.out (show 0 ≤ 100000 by decide)).mono ?_; rintro e w5 ⟨⟨Y, cc, rfl, _⟩, hb5⟩; rw [show (⟨b4K true i, m1 + 1 + 1, no⟩ : Rn).stuck.length = 0 from rfl]; have HB5 := Lib.hid (HW3.out.trans (hb5.mono HW3.out.size)); clear hb5)
            | (go_at_call 10; refine (HLI.out _).mono ?_; rintro e w6 ⟨rfl, hb6⟩; have HB6 := Lib.hid (HB5.out.trans (hb6.mono HB5.out.size)); clear hb6))
          go_ret
          exact ⟨rfl, HB6.out⟩
set_option maxHeartbeats 12800000 in
set_option maxRecDepth 10000 in
theorem flowForks_false (E : Int → Option Addr) (n : Int) (TA : Option Addr) (tn tc : Nat) (tl : List Int) (w : World) (hn1 : -9223372036854775808 ≤ n) (hn2 : n ≤ 9223372036854775807) (ht : InRow w 1 TA tn tc (tl.map (Value.int .i64))) (htb : ∀ y ∈ tl, -9223372036854775808 ≤ y ∧ y ≤ 9223372036854775807) (hE : ErrIn w E 116 2) (hE2 : ErrIn w E 104 1) :
    Calls Tryz.prog 8 #[.int .i64 n, .slice TA tn tc, .bool false] w fun e w' => e = .returned (.bool true) ∧ Below w.heap.size w w' := by
  obtain ⟨i1, hi1, hy0, hy1, hy2⟩ := info_parts info_flow
  obtain ⟨i2, hi2, hx0, hx1, hx2⟩ := info_parts info_node
  obtain ⟨kv, hve, hvl⟩ := nmb_nat n 4 (by omega)
  have N0 := Lib.hid (fun w => mnumber_any n 4 w (by omega) hn1 hn2 (by omega))
  rw [hve] at N0
  obtain ⟨v, hv⟩ : ∃ v : Nat, v = kv + 2 := ⟨_, rfl⟩
  have HSUM : Hid (IntKind.i64.wrap ((kv : Int) + 2) = (v : Int)) := by
    refine Lib.hid ?_
    have h : IntKind.i64.wrap ((kv : Int) + 2) = (kv : Int) + 2 := by rw [IntKind.wrap_i64]; omega
    omega
  have HV := Lib.hid (show v < 6 by omega)
  have HV2 := Lib.hid (show 2 ≤ v by omega)
  have HENV : Hid (Env E w (pK false v) []) := Lib.hid (env_free hE hE2 (condK false v) [])
  have htl : tl.length = tn := by have := Row.len ht.row; simpa using this
  have HT := Lib.hid ht.row
  have HTM := Lib.hid ht.cap
  have HTX := Lib.hid ht.most
  have HTB := Lib.hid htb
  clear hve hn1 hn2 hvl hv hE hE2 ht htb
  go_enter Tryz.func8, Tryz.ntmps8
  go_wp2_with fail
  refine (ffirst_any w).mono ?_
  rintro e w1 ⟨rfl, hb1⟩
  have HB1 := Lib.hid hb1
  clear hb1
  go_wp2_with fail
  refine (N0.out _).mono ?_
  rintro e wy ⟨rfl, rfl⟩
  have hs := HSUM.out
  go_upto_region 5 with (fail)
  try rw [hs]
  clear hs N0
  go_upto_region 9 with (fail)
  have hON : OwnK Nd.κ (w1.alloc (.cells #[.int .i64 1, .string ⟨#[]⟩, .int .i64 0, .int .i64 0, .int .i64 (-1), .string ⟨#[]⟩, .string ⟨#[]⟩, .int .i64 (-1), .int .i64 6, .string ⟨#[]⟩, .int .i64 0, .int .i64 0, .int .i64 (-1), .string ⟨#[]⟩, .string ⟨#[]⟩, .int .i64 (-1), .int .i64 6, .string ⟨#[]⟩, .int .i64 0, .int .i64 0, .int .i64 (-1), .string ⟨#[]⟩, .string ⟨#[]⟩, .int .i64 (-1), .int .i64 2, .string ⟨#[]⟩, .int .i64 0, .int .i64 0, .int .i64 (-1), .string ⟨#[]⟩, .string ⟨#[]⟩, .int .i64 (-1)] 44)) w1.heap.size 44 (some ⟨w1.heap.size, 0, none⟩) 4 4 (nodesK false 0) := own_lit_kf (κ := Nd.κ) w1 44 (nodesK false 0) #[.int .i64 1, .string ⟨#[]⟩, .int .i64 0, .int .i64 0, .int .i64 (-1), .string ⟨#[]⟩, .string ⟨#[]⟩, .int .i64 (-1), .int .i64 6, .string ⟨#[]⟩, .int .i64 0, .int .i64 0, .int .i64 (-1), .string ⟨#[]⟩, .string ⟨#[]⟩, .int .i64 (-1), .int .i64 6, .string ⟨#[]⟩, .int .i64 0, .int .i64 0, .int .i64 (-1), .string ⟨#[]⟩, .string ⟨#[]⟩, .int .i64 (-1), .int .i64 2, .string ⟨#[]⟩, .int .i64 0, .int .i64 0, .int .i64 (-1), .string ⟨#[]⟩, .string ⟨#[]⟩, .int .i64 (-1)] (by decide) rfl (by decide)
  have hbn : Below w1.heap.size w1 (w1.alloc (.cells #[.int .i64 1, .string ⟨#[]⟩, .int .i64 0, .int .i64 0, .int .i64 (-1), .string ⟨#[]⟩, .string ⟨#[]⟩, .int .i64 (-1), .int .i64 6, .string ⟨#[]⟩, .int .i64 0, .int .i64 0, .int .i64 (-1), .string ⟨#[]⟩, .string ⟨#[]⟩, .int .i64 (-1), .int .i64 6, .string ⟨#[]⟩, .int .i64 0, .int .i64 0, .int .i64 (-1), .string ⟨#[]⟩, .string ⟨#[]⟩, .int .i64 (-1), .int .i64 2, .string ⟨#[]⟩, .int .i64 0, .int .i64 0, .int .i64 (-1), .string ⟨#[]⟩, .string ⟨#[]⟩, .int .i64 (-1)] 44)) := (Below.refl _ _).alloc (Nat.le_refl _) _
  have hsn : (w1.alloc (.cells #[.int .i64 1, .string ⟨#[]⟩, .int .i64 0, .int .i64 0, .int .i64 (-1), .string ⟨#[]⟩, .string ⟨#[]⟩, .int .i64 (-1), .int .i64 6, .string ⟨#[]⟩, .int .i64 0, .int .i64 0, .int .i64 (-1), .string ⟨#[]⟩, .string ⟨#[]⟩, .int .i64 (-1), .int .i64 6, .string ⟨#[]⟩, .int .i64 0, .int .i64 0, .int .i64 (-1), .string ⟨#[]⟩, .string ⟨#[]⟩, .int .i64 (-1), .int .i64 2, .string ⟨#[]⟩, .int .i64 0, .int .i64 0, .int .i64 (-1), .string ⟨#[]⟩, .string ⟨#[]⟩, .int .i64 (-1)] 44)).heap.size = w1.heap.size + 1 := by simp
  generalize w1.alloc (.cells #[.int .i64 1, .string ⟨#[]⟩, .int .i64 0, .int .i64 0, .int .i64 (-1), .string ⟨#[]⟩, .string ⟨#[]⟩, .int .i64 (-1), .int .i64 6, .string ⟨#[]⟩, .int .i64 0, .int .i64 0, .int .i64 (-1), .string ⟨#[]⟩, .string ⟨#[]⟩, .int .i64 (-1), .int .i64 6, .string ⟨#[]⟩, .int .i64 0, .int .i64 0, .int .i64 (-1), .string ⟨#[]⟩, .string ⟨#[]⟩, .int .i64 (-1), .int .i64 2, .string ⟨#[]⟩, .int .i64 0, .int .i64 0, .int .i64 (-1), .string ⟨#[]⟩, .string ⟨#[]⟩, .int .i64 (-1)] 44) = wn at *
  have hOF : OwnK Fl.κ (wn.alloc (.cells #[.int .i64 0, .int .i64 1, .string ⟨#[]⟩, .int .i64 2, .int .i64 3, .string ⟨#[]⟩] 82)) wn.heap.size 82 (some ⟨wn.heap.size, 0, none⟩) 2 2 (flowsK 0) := own_lit_kf (κ := Fl.κ) wn 82 (flowsK 0) #[.int .i64 0, .int .i64 1, .string ⟨#[]⟩, .int .i64 2, .int .i64 3, .string ⟨#[]⟩] (by decide) rfl (by decide)
  have hbf : Below wn.heap.size wn (wn.alloc (.cells #[.int .i64 0, .int .i64 1, .string ⟨#[]⟩, .int .i64 2, .int .i64 3, .string ⟨#[]⟩] 82)) := (Below.refl _ _).alloc (Nat.le_refl _) _
  have hsf : (wn.alloc (.cells #[.int .i64 0, .int .i64 1, .string ⟨#[]⟩, .int .i64 2, .int .i64 3, .string ⟨#[]⟩] 82)).heap.size = w1.heap.size + 2 := by simp; omega
  generalize wn.alloc (.cells #[.int .i64 0, .int .i64 1, .string ⟨#[]⟩, .int .i64 2, .int .i64 3, .string ⟨#[]⟩] 82) = wf at *
  have hOP := Cel.lit wf #[.string ⟨#[112]⟩, .slice (some ⟨w1.heap.size, 0, none⟩) 4 4, .slice (some ⟨w1.heap.size + 1, 0, none⟩) 2 2] 30
  have hbp : Below wf.heap.size wf (wf.alloc (.cells #[.string ⟨#[112]⟩, .slice (some ⟨w1.heap.size, 0, none⟩) 4 4, .slice (some ⟨w1.heap.size + 1, 0, none⟩) 2 2] 30)) := (Below.refl _ _).alloc (Nat.le_refl _) _
  have hOP : Cel _ (w1.heap.size + 1 + 1) _ := hsf ▸ hOP
  rw [hsn] at hOF
  have HC0 : Hid (C (wf.alloc (.cells #[.string ⟨#[112]⟩, .slice (some ⟨w1.heap.size, 0, none⟩) 4 4, .slice (some ⟨w1.heap.size + 1, 0, none⟩) 2 2] 30)) w1.heap.size (w1.heap.size + 1 + 1) ⟨⟨#[112]⟩, nodesK false 0, flowsK 0⟩) := Lib.hid ⟨⟨_, 4, 4, _, 2, 2, hOP, ((hON.below hbf (by omega)).below hbp (by omega)), ((hOF.below hbp (Nat.le_refl _)).lower (by omega)), (fun a ha e => by obtain rfl := Option.some.inj ha; have e : w1.heap.size = w1.heap.size + 2 := e; omega), (fun a ha e => by obtain rfl := Option.some.inj ha; have e : w1.heap.size + 1 = w1.heap.size + 2 := e; omega)⟩, by omega⟩
  have HBP := Lib.hid (HB1.out.trans ((hbn.trans ((hbf.trans (hbp.mono hbf.size)).mono hbn.size)).mono HB1.out.size))
  have HQL := Lib.hid HB1.out.size
  clear hON hOF hOP hbp hbn hbf hsn hsf HB1
  generalize wf.alloc _ = wp at *
  generalize w1.heap.size = nb at *
  go_wp2_with fail
  go_loopw [10] (fun i wr => ∃ j : Nat, j ≤ v ∧ i = .int .i64 j ∧ C wr nb (nb + 1 + 1) ⟨⟨#[112]⟩, nodesK false j, flowsK j⟩ ∧ Below w.heap.size w wr) (fun i _ => v - (intOf i).toNat)
  case atStart => exact ⟨0, Nat.zero_le _, rfl, HC0.out, HBP.out⟩
  case round =>
    obtain ⟨j, hj, rfl, hC, hbr⟩ := hrel
    have hj0 : (0 : Int) ≤ (j : Int) := by omega
    have hv5 := HV.out
    by_cases hlt : j < v
    · have hI : (j : Int) < (v : Int) := by omega
      have hw4 : IntKind.i64.wrap (4 + (j : Int)) = 4 + (j : Int) := by rw [IntKind.wrap_i64]; omega
      have hwj : IntKind.i64.wrap ((j : Int) + 1) = (j : Int) + 1 := by rw [IntKind.wrap_i64]; omega
      have HN0 := Lib.hid (nodesK_snoc false j)
      obtain ⟨A, n, c, F, m, d, hc, hn, hf, h1, h2⟩ := hC.ex
      have hlow := hC.low
      obtain rfl : j + 4 = n := (nodesK_len false j).symm.trans hn.len
      obtain rfl : 2 * j + 2 = m := (flowsK_len j).symm.trans hf.len
      have hba : Below wr.heap.size wr (wr.alloc (.cells #[.int .i64 4, .string ⟨#[116]⟩, .int .i64 0, .int .i64 1, .int .i64 (-1), .string ⟨#[]⟩, .string ⟨#[]⟩, .int .i64 (-1)] 44)) := (Below.refl _ _).alloc (Nat.le_refl _) _
      have HCa := Lib.hid (hc.below hba (Nat.le_refl _))
      have HNa := Lib.hid (hn.below hba (Nat.le_refl _))
      have HFa := Lib.hid (hf.below hba (Nat.le_refl _))
      have HBa := Lib.hid (hbr.trans (hba.mono hbr.size))
      have HR : Hid (KRow Nd.κ (wr.alloc (.cells #[.int .i64 4, .string ⟨#[116]⟩, .int .i64 0, .int .i64 1, .int .i64 (-1), .string ⟨#[]⟩, .string ⟨#[]⟩, .int .i64 (-1)] 44)) (wr.heap.size + 1) (some ⟨wr.heap.size, 0, none⟩) 1 [wkS]) := Lib.hid (KRow.lit (κ := Nd.κ) wr 44 [wkS] #[.int .i64 4, .string ⟨#[116]⟩, .int .i64 0, .int .i64 1, .int .i64 (-1), .string ⟨#[]⟩, .string ⟨#[]⟩, .int .i64 (-1)] rfl)
      have hql := hc.lt
      have hbw : nb ≤ (wr.alloc (.cells #[.int .i64 4, .string ⟨#[116]⟩, .int .i64 0, .int .i64 1, .int .i64 (-1), .string ⟨#[]⟩, .string ⟨#[]⟩, .int .i64 (-1)] 44)).heap.size := by have := hba.size; omega
      have hsm : (j + 4) ≤ 1000000 := by omega
      obtain ⟨⟨c0, c1, c2⟩, f0, f1, f2⟩ := tri_facts hc
      clear hc hn hf hba hC hbr
      go_upto_region 13 with (at_builtin; refine append_k (κ := Nd.κ) rfl (.tmp 39) (.tmp 41) 27 44 i2 _ 88 Tryz.underlying27 hi2 hx0 hx1 hx2 rfl rfl _ nb _ A (j + 4) c (nodesK false j) ⟨wr.heap.size, 0, none⟩ wkS rfl HNa.out rfl HR.out hsm (by decide) hbw ?_; intro A' c' w' ho hg; obtain ⟨⟨d0, d1, d2⟩, g0, g1, g2⟩ := tri_facts (cel_grew HCa.out hg h1); have HX1 := Lib.hid ho; have HX2 := Lib.hid hg; clear ho hg)
      have hC := C.nodes HCa.out HNa.out HFa.out h1 h2 hlow HX2.out HX1.out
      have hbr := (HBa.out.trans ((HX2.out.below HNa.out.2 hbw).mono (by have := HQL.out; omega))).setCell (p := ⟨nb + 1 + 1, 1, none⟩) (by show w.heap.size ≤ nb + 1 + 1; have := HQL.out; omega) (.slice A' ((j + 4) + 1) c')
      clear c0 c1 c2 f0 f1 f2 d0 d1 d2 g0 g1 g2 h1 h2 hlow hql hbw hsm HX1 HX2 HCa HNa HFa HBa HR
      generalize w'.setCell _ _ = wx at *
      obtain ⟨A, n, c, F, m, d, hc, hn, hf, h1, h2⟩ := hC.ex
      have hlow := hC.low
      obtain rfl : j + 4 + 1 = n := by have h3 := hn.len; have h4 := nodesK_len false j; simp only [List.length_append, List.length_singleton] at h3; omega
      obtain rfl : 2 * j + 2 = m := (flowsK_len j).symm.trans hf.len
      have hba : Below wx.heap.size wx (wx.alloc (.cells #[.int .i64 1, .int .i64 (4 + (j : Int)), .string ⟨#[]⟩, .int .i64 (4 + (j : Int)), .int .i64 2, .string ⟨#[]⟩] 82)) := (Below.refl _ _).alloc (Nat.le_refl _) _
      have HCa := Lib.hid (hc.below hba (Nat.le_refl _))
      have HNa := Lib.hid (hn.below hba (Nat.le_refl _))
      have HFa := Lib.hid (hf.below hba (Nat.le_refl _))
      have HBa := Lib.hid (hbr.trans (hba.mono hbr.size))
      have HR : Hid (KRow Fl.κ (wx.alloc (.cells #[.int .i64 1, .int .i64 (4 + (j : Int)), .string ⟨#[]⟩, .int .i64 (4 + (j : Int)), .int .i64 2, .string ⟨#[]⟩] 82)) (wx.heap.size + 1) (some ⟨wx.heap.size, 0, none⟩) 2 [⟨1, 4 + (j : Int), no⟩, ⟨4 + (j : Int), 2, no⟩]) := Lib.hid (KRow.lit (κ := Fl.κ) wx 82 [⟨1, 4 + (j : Int), no⟩, ⟨4 + (j : Int), 2, no⟩] #[.int .i64 1, .int .i64 (4 + (j : Int)), .string ⟨#[]⟩, .int .i64 (4 + (j : Int)), .int .i64 2, .string ⟨#[]⟩] rfl)
      have hql := hc.lt
      have hbw : nb ≤ (wx.alloc (.cells #[.int .i64 1, .int .i64 (4 + (j : Int)), .string ⟨#[]⟩, .int .i64 (4 + (j : Int)), .int .i64 2, .string ⟨#[]⟩] 82)).heap.size := by have := hba.size; omega
      have hsm : (2 * j + 2) ≤ 1000000 := by omega
      obtain ⟨⟨c0, c1, c2⟩, f0, f1, f2⟩ := tri_facts hc
      clear hc hn hf hba hC hbr
      go_wp2_with (at_builtin; refine append_kf (κ := Fl.κ) rfl (.tmp 45) (.tmp 52) 28 82 i1 _ 32 Tryz.underlying28 hi1 hy0 hy1 hy2 rfl rfl _ nb _ F (2 * j + 2) d (flowsK j) ⟨wx.heap.size, 0, none⟩ 2 [⟨1, 4 + (j : Int), no⟩, ⟨4 + (j : Int), 2, no⟩] rfl HFa.out rfl HR.out hsm (by decide) (by decide) hbw ?_; intro A' c' w' ho hg; obtain ⟨⟨d0, d1, d2⟩, g0, g1, g2⟩ := tri_facts (cel_grew HCa.out hg h2); have HX1 := Lib.hid ho; have HX2 := Lib.hid hg; clear ho hg)
      have hC := C.flows HCa.out HNa.out HFa.out h1 h2 hlow HX2.out HX1.out
      have hbr := (HBa.out.trans ((HX2.out.below HFa.out.2 hbw).mono (by have := HQL.out; omega))).setCell (p := ⟨nb + 1 + 1, 2, none⟩) (by show w.heap.size ≤ nb + 1 + 1; have := HQL.out; omega) (.slice A' ((2 * j + 2) + 2) c')
      have HCZ := Lib.hid hC
      have HBZ := Lib.hid hbr
      clear c0 c1 c2 f0 f1 f2 d0 d1 d2 g0 g1 g2 h1 h2 hlow hql hbw hsm HX1 HX2 HCa HNa HFa HBa HR hC hbr
      go_roundw
      case measure => simp [intOf]; omega
      case rel =>
        refine ⟨j + 1, by omega, by go_num, ?_, HBZ.out⟩
        have h := HCZ.out
        rw [← HN0.out] at h
        exact h
    · obtain rfl : j = v := by omega
      have hI : ¬ ((j : Int) < (j : Int)) := by omega
      obtain ⟨A, n, c, F, m, d, hc, hn, hf, h1, h2⟩ := hC.ex
      obtain ⟨⟨c0, c1, c2⟩, _⟩ := tri_facts hc
      have HBR := Lib.hid hbr
      have hpm : (pK false j).m ≤ 90000 := by rw [pK_m]; omega
      have hpn : (pK false j).n ≤ 100000 := by rw [pK_n]; omega
      have HNEW : Hid (Calls Tryz.prog 24 #[.agg #[.string ⟨#[112]⟩, .slice A n c, .slice F m d], .slice none 0 0] wr fun e w' => (∃ (q : Nat) (x : BdV), e = .returned (.pointer (some ⟨q, 0, none⟩)) ∧ wr.heap.size ≤ q ∧ RnC w' q x (rn0 (pK false j) [])) ∧ Below wr.heap.size wr w') := Lib.hid (fnew_any ⟨A, n, c, F, m, d⟩ (pK false j) none 0 0 [] wr ⟨hn.row, hf.row, hn.nn, hf.nn⟩ (KRow.nil _ _ _) (fun _ => ⟨rfl, rfl⟩) hpn hpm (by decide))
      clear hc hn hf hC hbr h1 h2 hlt hj0 hI hpm hpn
      go_upto_region 15 with (go_at_call 24; refine HNEW.out.mono ?_; rintro e w2 ⟨⟨q, x, rfl, hq, hr⟩, hb2⟩)
      clear c0 c1 c2
      have HW2 := Lib.hid (HBR.out.trans (hb2.mono HBR.out.size))
      have hqw : w.heap.size ≤ q := Nat.le_trans HBR.out.size hq
      have HR : Hid (RnC w2 q x ⟨b0K false j, 0, no⟩) := Lib.hid hr
      have HH0 := Lib.hid (HdK.zero false j HV.out)
      clear hr hb2 hq HNEW HBR HBP HC0
      go_wp2_with fail
      go_loopw [12] (fun s wr => ∃ (i : Nat) (x : BdV) (m : Nat) (b : Bd), i ≤ j ∧ s = .int .i64 i ∧ m ≤ 2 * i ∧ HdK false j i b ∧ RnC wr q x ⟨b, m, no⟩ ∧ Below w.heap.size w wr) (fun s _ => j - (intOf s).toNat)
      case atStart => exact ⟨0, x, 0, _, Nat.zero_le _, rfl, Nat.le_refl _, HH0.out, HR.out, HW2.out⟩
      case round =>
        obtain ⟨i, x1, m1, b, hij, rfl, hm1, hhd, hrc, hbr⟩ := hrel
        have hv5 := HV.out
        have hv2 := HV2.out
        have hi0 : (0 : Int) ≤ (i : Int) := by omega
        have hwi : IntKind.i64.wrap ((i : Int) + 1) = (i : Int) + 1 := by rw [IntKind.wrap_i64]; omega
        have hpb : b.p = pK false j ∧ b.vars = [] := by
          rcases hhd.2 with ⟨_, rfl⟩ | ⟨_, rem, don, rfl, _⟩ <;> exact ⟨rfl, rfl⟩
        by_cases hlt : i < j
        · have hI : (i : Int) < (j : Int) := by omega
          obtain ⟨nn, m2, rem, don, hnn, hm2, hmv, hkx, hdl, hrl, hrest, hok⟩ := hhd.run hv5 hv2 hlt m1
          have HRUN := Lib.hid (frun_to E q x1 ⟨b, m1, no⟩ ⟨bK false j rem don, m2, no⟩ w wr 20 nn hrc hbr hqw (by rw [hpb.1, hpb.2]; exact HENV.out) (hhd.1.less (show 20 ≤ 1000 - 30 * i by omega)) (show m1 ≤ 900000000 by omega) hmv hrest (show nn ≤ 20 by omega))
          have HBR := Lib.hid hbr
          have HKX := Lib.hid hkx
          have HOK := Lib.hid hok
          have hbl : (bK false j rem don).toks.length = j := by rw [bK_len]; have := hkx.len; omega
          have HBL := Lib.hid hbl
          have HRL := Lib.hid hrl
          have HDL := Lib.hid hdl
          clear hrl hdl
          clear hrc hbr hmv hkx hok hrest hhd hpb
          go_upto_region 22 with (first
            | (go_at_call 27; refine HRUN.out.mono ?_; rintro e w3 ⟨rfl, ⟨x3, hr3⟩, hg3⟩; have HR3 := Lib.hid hr3; have HW3 := Lib.hid (below_grown HBR.out hg3 hqw); clear hr3 hg3)
            | (go_at_call 40; refine (fdone_any q x3 ⟨bK false j rem don, m2, no⟩ w3 HR3.out).mono ?_; rintro e w4 ⟨rfl, hw4⟩; have hw4 := hw4.symm; subst hw4; rw [show decide ((⟨bK false j rem don, m2, no⟩ : Rn).b.toks.length = 0) = false from decide_eq_false (by show ¬ (bK false j rem don).toks.length = 0; rw [hbl]; omega)]))
          have hwt : (⟨bK false j rem don, m2, no⟩ : Rn).waits = rem.map wtK := waitsK HKX.out m2 no
          have HWT := Lib.hid (fwaits_any q x3 ⟨bK false j rem don, m2, no⟩ w3 HR3.out (show (bK false j rem don).toks.length ≤ 100000 by rw [hbl]; omega))
          unfold TksOut at HWT
          rw [hwt, List.length_map] at HWT
          clear hwt HRUN
          go_upto_region 23 with (go_at_call 39; refine HWT.out.mono ?_; rintro e w4 ⟨⟨Y, cc, rfl, hO⟩, hb4⟩)
          have HR4 := Lib.hid (HR3.out.below hb4)
          have HW4 := Lib.hid (HW3.out.trans (hb4.mono HW3.out.size))
          have HOW := Lib.hid hO
          have et : x3.nt = j := HR4.out.inn.ht.trans hbl
          obtain ⟨⟨z0, z1, z2, z3, z4, z5, z6, z7⟩, _⟩ := eight_facts HR4.out.cel
          rw [et] at z4
          have hsub : IntKind.i64.wrap ((j : Int) - (i : Int)) = (rem.length : Int) := by have := HRL.out; rw [IntKind.wrap_i64]; omega
          clear hO hb4 HWT et
          go_upto_region 26 with (fail)
          clear z0 z1 z2 z3 z4 z5 z6 z7 hsub
          go_upto_if 92 with (fail)
          have hrp : 0 < rem.length := by have := HRL.out; omega
          go_cut [14] from 59 to 115 (fun s wx => ∃ k : Nat, k < rem.length ∧ s = .int .i64 (k : Int) ∧ wx = w4)
          case first =>
            by_cases hit : i < tn
            · have hit' : (i : Int) < (tn : Int) := by omega
              obtain ⟨tb, toff, rfl, _, htc⟩ := Row.at_ ((HT.out : Row w w.heap.size TA tn (tl.map (Value.int .i64))).below HW4.out (Nat.le_refl _)) hit
              rw [List.getElem_map] at htc
              have hmem : tl[i]'(by rw [htl]; exact hit) ∈ tl := List.getElem_mem _
              have hbd := HTB.out _ hmem
              generalize tl[i]'(by rw [htl]; exact hit) = tv at *
              obtain ⟨kk, hke, hkl⟩ := nmb_nat tv (rem.length : Int) (by omega)
              have HNN := Lib.hid (fun w => mnumber_any tv (rem.length : Int) w (by omega) hbd.1 hbd.2 (by have := HRL.out; omega))
              rw [hke] at HNN
              clear hmem hbd hke
              go_wp2_with (go_at_call 15; refine (HNN.out _).mono ?_; rintro e wz ⟨rfl, rfl⟩)
              go_meet
              exact ⟨kk, by omega, rfl, rfl⟩
            · have hit' : ¬ (i : Int) < (tn : Int) := by omega
              go_wp2
              go_meet
              exact ⟨0, hrp, rfl, rfl⟩
          case rest =>
            obtain ⟨k, hk, rfl, rfl⟩ := hcut
            have HHD := Lib.hid (HdK.go HV.out HV2.out HKX.out HDL.out HOK.out hlt hk)
            have hgo := (goK (inc := false) HV.out HV2.out HKX.out hk).1
            have hrk : rem[k]! < j := HKX.out.lt (.inl (mem! hk))
            obtain ⟨gy, hgy, hgl1, hgl2⟩ := HOW.out.some_of hrp
            have hgq : gy ≠ q := by have := HR3.out.cel.lt; omega
            subst hgy
            have hmk : (rem.map wtK)[k]! = wtK rem[k]! := by
              rw [getElem!_pos (rem.map wtK) k (by simpa using hk), List.getElem_map, getElem!_pos rem k hk]
            obtain ⟨t0, t1, t2, t3⟩ := tk_at (j := k) HOW.out.row hk
            rw [hmk] at t0 t1
            have hidx : (bK false j rem don).toks.findIdx? (fun t => t.id == 3 + (rem[k]! : Int)) = some k := idxK HKX.out hk
            have hatw : atW (bK false j rem don).p (bK false j rem don).toks[k]! = true := by
              rw [bK_rem false j rem don hk]
              exact atW_rem HKX.out (mem! hk)
            have HGO := Lib.hid (fgo_any q x3 ⟨bK false j rem don, m2, no⟩ (3 + (rem[k]! : Int)) (3 + 2 * (rem[k]! : Int)) k wc.drew (HR4.out.below (Below.refl wc.heap.size wc).drew) HOK.out.few hidx hatw)
            dsimp only at HGO
            rw [hgo] at HGO
            generalize don ++ [rem[k]!] = don2 at *
            generalize rem.eraseIdx k = rem2 at *
            generalize rem[k]! = rk at *
            have t0' : wc.cell? ⟨gy, k * 4, none⟩ = some (.int .i64 (3 + (rk : Int))) := by rw [Nat.zero_add] at t0; exact t0
            have t1' : wc.cell? ⟨gy, k * 4 + 1, none⟩ = some (.int .i64 (4 + (rk : Int))) := by rw [Nat.zero_add] at t1; exact t1
            have hk0 : (0 : Int) ≤ (k : Int) := by omega
            have hkI : (k : Int) < (rem.length : Int) := by omega
            have e1 : IntKind.i64.wrap (4 + (rk : Int) - 4) = (rk : Int) := by rw [IntKind.wrap_i64]; omega
            have e2 : IntKind.i64.wrap (2 * (rk : Int)) = 2 * (rk : Int) := by rw [IntKind.wrap_i64]; omega
            have e3 : IntKind.i64.wrap (3 + 2 * (rk : Int)) = 3 + 2 * (rk : Int) := by rw [IntKind.wrap_i64]; omega
            have u0 : wc.drew.cell? ⟨gy, k * 4, none⟩ = some (.int .i64 (3 + (rk : Int))) := t0'
            have u1 : wc.drew.cell? ⟨gy, k * 4 + 1, none⟩ = some (.int .i64 (4 + (rk : Int))) := t1'
            clear t0 t1 t2 t3 hgo hmk hidx hatw HOW HKX HOK HBL hbl HRL HDL
            go_wp2_with fail
            go_region_held3 (fun w' => w'.cell? ⟨gy, k * 4, none⟩ = some (.int .i64 (3 + (rk : Int))) ∧ w'.cell? ⟨gy, k * 4 + 1, none⟩ = some (.int .i64 (4 + (rk : Int)))) (first | exact ⟨v0, v1⟩ | exact ⟨u0, u1⟩) (first
              | (go_at_call 30; refine HGO.out.mono ?_; rintro e w5 ⟨⟨x5, he5, hr5⟩, hg5⟩; cases he5; have HR5 := Lib.hid hr5; have HW5 := Lib.hid (below_grown HW4.out.drew hg5 hqw); have hbk := hg5.block gy hgl2 (fun e => hgq (Option.some.inj e)); have v0 := (World.cell?_of_block (a := ⟨gy, k * 4, none⟩) hbk).trans u0; have v1 := (World.cell?_of_block (a := ⟨gy, k * 4 + 1, none⟩) hbk).trans u1; clear hr5 hg5 hbk))
            go_wp2_with fail
            go_roundw
            case measure => simp [intOf]; omega
            case rel => exact ⟨i + 1, x5, m2, _, by omega, by go_num, by omega, HHD.out, HR5.out, HW5.out⟩
        · obtain rfl : i = j := by omega
          have hI : ¬ (i : Int) < (i : Int) := by omega
          obtain ⟨hmv, hok⟩ := hhd.fin hv5 hv2 m1
          have HRUN := Lib.hid (frun_to E q x1 ⟨b, m1, no⟩ ⟨b4K false i, m1 + 1 + 1, no⟩ w wr 20 2 hrc hbr hqw (by rw [hpb.1, hpb.2]; exact HENV.out) (show Ok b (lim 20) from hok) (show m1 ≤ 900000000 by omega) hmv (rest_nil rfl) (show 2 ≤ 20 by decide))
          have HBR := Lib.hid hbr
          have HLI := Lib.hid (fun W => mlight_any ⟨⟨#[]⟩, none, 0, 0, none, 0, 0, none, 0, 0, [], [], []⟩ W)
          have hli : light ⟨⟨#[]⟩, none, 0, 0, none, 0, 0, none, 0, 0, [], [], []⟩ = true := by decide
          rw [hli] at HLI
          unfold SeedV.val at HLI
          dsimp only at HLI
          clear hrc hbr hmv hok hhd hpb hli
          go_wp2_with (first
            | (go_at_call 27; refine HRUN.out.mono ?_; rintro e w3 ⟨rfl, ⟨x3, hr3⟩, hg3⟩; have HR3 := Lib.hid hr3; have HW3 := Lib.hid (below_grown HBR.out hg3 hqw); clear hr3 hg3)
            | (go_at_call 40; refine (fdone_any q x3 ⟨b4K false i, m1 + 1 + 1, no⟩ w3 HR3.out).mono ?_; rintro e w4 ⟨rfl, hw4⟩; have hw4 := hw4.symm; subst hw4; rw [show decide ((⟨b4K false i, m1 + 1 + 1, no⟩ : Rn).b.toks.length = 0) = true from rfl])
            | (go_at_call 41; refine (fstuck_any q x3 ⟨b4K false i, m1 + 1 + 1, no⟩ w3 HR3.out (show 0 ≤ 100000 by decide)).mono ?_; rintro e w5 ⟨⟨Y, cc, rfl, _⟩, hb5⟩; rw [show (⟨b4K false i, m1 + 1 + 1, no⟩ : Rn).stuck.length = 0 from rfl]; have HB5 := Lib.hid (HW3.out.trans (hb5.mono HW3.out.size)); clear hb5)
            | (go_at_call 10; refine (HLI.out _).mono ?_; rintro e w6 ⟨rfl, hb6⟩; have HB6 := Lib.hid (HB5.out.trans (hb6.mono HB5.out.size)); clear hb6))
          go_ret
          exact ⟨rfl, HB6.out⟩
end Pr
end Go.Proofs.YtkffnfgdmcebdaaGreatDoor
