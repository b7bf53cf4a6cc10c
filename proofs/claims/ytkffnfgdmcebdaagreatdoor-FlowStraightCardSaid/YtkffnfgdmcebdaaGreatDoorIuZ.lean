/- FlowStraight: the walk. -/
import Derived.Test.YtkffnfgdmcebdaaGreatDoorIzZ
import Derived.Test.YtkffnfgdmcebdaaGreatDoorYJoint19
import Derived.Test.YtkffnfgdmcebdaaGreatDoorYJoint18
import Derived.Deep.RegionHeld3
namespace Go.Proofs.YtkffnfgdmcebdaaGreatDoor
open Go.RowKit

namespace Pr
/-- Where it stands ahead of a round. -/
def stS (i : Nat) : Nat := if i = 0 then 0 else i + 1
theorem stS_succ (i : Nat) : stS (i + 1) = i + 2 := rfl
theorem mvS (v : Nat) (vars : List Vr.V) (hv : v < 21) (i m : Nat) : ∃ n m', n ≤ 1 ∧ m' ≤ m + 1 ∧ Mv2 ⟨bS v vars (stS i), m, no⟩ n ⟨bS v vars (i + 1), m', no⟩ := by
  by_cases h0 : i = 0
  · subst h0
    exact ⟨1, m + 1, by omega, by omega, Mv2.of (startS v vars hv).1 (startS v vars hv).2 (.zero _)⟩
  · have hk : stS i = i + 1 := if_neg h0
    rw [hk]
    exact ⟨0, m, by omega, by omega, .zero _⟩
theorem field_inst (s : ByteArray) (V T : Option Addr) (a b c d : Nat) (k : Int) (w : World) : (Instr.field 70 (.agg #[.int .i64 0, .int .i64 0, .int .i64 2, .string s, .slice V a b, .slice T c d, .int .i64 k]) 2).run Tryz.prog w = .ok (.int .i64 2) w := by kernel_rfl
/-- Another flow than that one. -/
theorem modS {v i : Nat} (hi : i < v) : ∃ f : Int, ((i : Int) + 1 + 1).tmod ((v : Int) + 1) = f ∧ f ≠ ((i + 1 : Nat) : Int) := by
  refine ⟨_, rfl, ?_⟩
  by_cases h : i + 1 < v
  · rw [Int.tmod_eq_of_lt (by omega) (by omega)]
    omega
  · rw [show (i : Int) + 1 + 1 = (v : Int) + 1 by omega, Int.tmod_self]
    omega
set_option maxHeartbeats 12800000 in
set_option maxRecDepth 10000 in
theorem flowStraight_core (E : Int → Option Addr) (n : Int) (VA : Option Addr) (vn vc : Nat) (vl : List Vr.V) (w : World) (hn1 : -9223372036854775808 ≤ n) (hn2 : n ≤ 9223372036854775807) (hin : InRow w 4 VA vn vc (vl.flatMap Vr.V.cells)) (hE : ErrIn w E 116 2) (hE2 : ErrIn w E 104 1) :
    Calls Tryz.prog 6 #[.int .i64 n, .slice VA vn vc] w fun e w' => e = .returned (.bool true) ∧ Below w.heap.size w w' := by
  obtain ⟨i1, hi1, hy0, hy1, hy2⟩ := info_parts info_flow
  obtain ⟨i2, hi2, hx0, hx1, hx2⟩ := info_parts info_node
  obtain ⟨kv, hve, hvl⟩ := nmb_nat n 20 (by omega)
  have N0 := Lib.hid (fun w => mnumber_any n 20 w (by omega) hn1 hn2 (by omega))
  rw [hve] at N0
  obtain ⟨v, hv⟩ : ∃ v : Nat, v = kv + 1 := ⟨_, rfl⟩
  have HSUM : Hid (IntKind.i64.wrap ((kv : Int) + 1) = (v : Int)) := by
    refine Lib.hid ?_
    have h : IntKind.i64.wrap ((kv : Int) + 1) = (kv : Int) + 1 := by rw [IntKind.wrap_i64]; omega
    omega
  have HV := Lib.hid (show v < 21 by omega)
  have HV1 := Lib.hid (show 1 ≤ v by omega)
  have HENV : Hid (Env E w (pS v) vl) := Lib.hid (env_free hE hE2 (condS v) vl)
  have hvr : KRow Vκ w w.heap.size VA vn vl := hin.row
  have HVR := Lib.hid hvr
  have HVN : Hid (nilOk VA vn vc) := Lib.hid hin.nn
  have HVL := Lib.hid (hvr.len (by decide))
  clear hve hn1 hn2 hvl hv hE hE2 hin hvr
  go_enter Tryz.func6, Tryz.ntmps6
  go_wp2_with fail
  refine (ffirst_any w).mono ?_
  rintro e w1 ⟨rfl, hb1⟩
  have HB1 := Lib.hid hb1
  clear hb1
  go_wp2_with fail
  refine (N0.out _).mono ?_
  rintro e wy ⟨rfl, rfl⟩
  have hs := HSUM.out
  go_upto_region 5 with (fail)
  try rw [hs]
  clear hs N0
  by_cases h5 : 5 < vn
  · have h5' : (vn : Int) > 5 := by omega
    go_wp2
    go_ret
    exact ⟨rfl, HB1.out⟩
  have h5' : ¬ (vn : Int) > 5 := by omega
  have HV5 := Lib.hid (show vl.length ≤ 5 by have := HVL.out; omega)
  go_upto_region 8 with (fail)
  have hON : OwnK Nd.κ (w1.alloc (.cells #[.int .i64 1, .string ⟨#[]⟩, .int .i64 0, .int .i64 0, .int .i64 (-1), .string ⟨#[]⟩, .string ⟨#[]⟩, .int .i64 (-1)] 44)) w1.heap.size 44 (some ⟨w1.heap.size, 0, none⟩) 1 1 (nodesS0 0) := own_lit_kf (κ := Nd.κ) w1 44 (nodesS0 0) #[.int .i64 1, .string ⟨#[]⟩, .int .i64 0, .int .i64 0, .int .i64 (-1), .string ⟨#[]⟩, .string ⟨#[]⟩, .int .i64 (-1)] (by decide) rfl (by decide)
  have hbn : Below w1.heap.size w1 (w1.alloc (.cells #[.int .i64 1, .string ⟨#[]⟩, .int .i64 0, .int .i64 0, .int .i64 (-1), .string ⟨#[]⟩, .string ⟨#[]⟩, .int .i64 (-1)] 44)) := (Below.refl _ _).alloc (Nat.le_refl _) _
  have hsn : (w1.alloc (.cells #[.int .i64 1, .string ⟨#[]⟩, .int .i64 0, .int .i64 0, .int .i64 (-1), .string ⟨#[]⟩, .string ⟨#[]⟩, .int .i64 (-1)] 44)).heap.size = w1.heap.size + 1 := by simp
  generalize w1.alloc (.cells #[.int .i64 1, .string ⟨#[]⟩, .int .i64 0, .int .i64 0, .int .i64 (-1), .string ⟨#[]⟩, .string ⟨#[]⟩, .int .i64 (-1)] 44) = wn at *
  have hOP := Cel.lit wn #[.string ⟨#[112]⟩, .slice (some ⟨w1.heap.size, 0, none⟩) 1 1, .slice none 0 0] 30
  have hbp : Below wn.heap.size wn (wn.alloc (.cells #[.string ⟨#[112]⟩, .slice (some ⟨w1.heap.size, 0, none⟩) 1 1, .slice none 0 0] 30)) := (Below.refl _ _).alloc (Nat.le_refl _) _
  have hOP : Cel _ (w1.heap.size + 1) _ := hsn ▸ hOP
  have HC0 : Hid (C (wn.alloc (.cells #[.string ⟨#[112]⟩, .slice (some ⟨w1.heap.size, 0, none⟩) 1 1, .slice none 0 0] 30)) w1.heap.size (w1.heap.size + 1) ⟨⟨#[112]⟩, nodesS0 0, flowsS0 0⟩) := Lib.hid ⟨⟨_, 1, 1, none, 0, 0, hOP, (hON.below hbp (by omega)), ⟨by decide, World.ownsRow_nil _ _ _ _⟩, (fun a ha e => by obtain rfl := Option.some.inj ha; have e : w1.heap.size = w1.heap.size + 1 := e; omega), (fun a ha => nomatch ha)⟩, by omega⟩
  have HBP := Lib.hid (HB1.out.trans ((hbn.trans (hbp.mono hbn.size)).mono HB1.out.size))
  have HQL := Lib.hid HB1.out.size
  clear hON hOP hbp hbn hsn HB1 h5 h5'
  generalize wn.alloc _ = wp at *
  generalize w1.heap.size = nb at *
  go_wp2_with fail
  go_loopw [7] (fun i wr => ∃ j : Nat, j ≤ v ∧ i = .int .i64 ((j : Int) + 1) ∧ C wr nb (nb + 1) ⟨⟨#[112]⟩, nodesS0 j, flowsS0 j⟩ ∧ Below w.heap.size w wr) (fun i _ => v + 1 - (intOf i).toNat)
  case atStart => exact ⟨0, Nat.zero_le _, rfl, HC0.out, HBP.out⟩
  case round =>
    obtain ⟨j, hj, rfl, hC, hbr⟩ := hrel
    have hj0 : (0 : Int) ≤ (j : Int) := by omega
    have hv5 := HV.out
    by_cases hlt : j < v
    · have hI : (j : Int) + 1 ≤ (v : Int) := by omega
      have hw4 : IntKind.i64.wrap ((j : Int) + 1 - 1) = (j : Int) := by rw [IntKind.wrap_i64]; omega
      have hwj : IntKind.i64.wrap ((j : Int) + 1 + 1) = (j : Int) + 1 + 1 := by rw [IntKind.wrap_i64]; omega
      have HN0 := Lib.hid (nodesS0_snoc j)
      have HF0 := Lib.hid (flowsS0_snoc j)
      obtain ⟨A, n, c, F, m, d, hc, hn, hf, h1, h2⟩ := hC.ex
      have hlow := hC.low
      obtain rfl : j + 1 = n := (nodesS0_len j).symm.trans hn.len
      obtain rfl : j = m := (flowsS0_len j).symm.trans hf.len
      have hba : Below wr.heap.size wr (wr.alloc (.cells #[.int .i64 4, .string ⟨#[116]⟩, .int .i64 0, .int .i64 1, .int .i64 (-1), .string ⟨#[]⟩, .string ⟨#[]⟩, .int .i64 (-1)] 44)) := (Below.refl _ _).alloc (Nat.le_refl _) _
      have HCa := Lib.hid (hc.below hba (Nat.le_refl _))
      have HNa := Lib.hid (hn.below hba (Nat.le_refl _))
      have HFa := Lib.hid (hf.below hba (Nat.le_refl _))
      have HBa := Lib.hid (hbr.trans (hba.mono hbr.size))
      have HR : Hid (KRow Nd.κ (wr.alloc (.cells #[.int .i64 4, .string ⟨#[116]⟩, .int .i64 0, .int .i64 1, .int .i64 (-1), .string ⟨#[]⟩, .string ⟨#[]⟩, .int .i64 (-1)] 44)) (wr.heap.size + 1) (some ⟨wr.heap.size, 0, none⟩) 1 [wkS]) := Lib.hid (KRow.lit (κ := Nd.κ) wr 44 [wkS] #[.int .i64 4, .string ⟨#[116]⟩, .int .i64 0, .int .i64 1, .int .i64 (-1), .string ⟨#[]⟩, .string ⟨#[]⟩, .int .i64 (-1)] rfl)
      have hql := hc.lt
      have hbw : nb ≤ (wr.alloc (.cells #[.int .i64 4, .string ⟨#[116]⟩, .int .i64 0, .int .i64 1, .int .i64 (-1), .string ⟨#[]⟩, .string ⟨#[]⟩, .int .i64 (-1)] 44)).heap.size := by have := hba.size; omega
      have hsm : (j + 1) ≤ 1000000 := by omega
      obtain ⟨⟨c0, c1, c2⟩, f0, f1, f2⟩ := tri_facts hc
      clear hc hn hf hba hC hbr
      go_upto_region 12 with (at_builtin; refine append_k (κ := Nd.κ) rfl (.tmp 30) (.tmp 32) 27 44 i2 _ 88 Tryz.underlying27 hi2 hx0 hx1 hx2 rfl rfl _ nb _ A (j + 1) c (nodesS0 j) ⟨wr.heap.size, 0, none⟩ wkS rfl HNa.out rfl HR.out hsm (by decide) hbw ?_; intro A' c' w' ho hg; obtain ⟨⟨d0, d1, d2⟩, g0, g1, g2⟩ := tri_facts (cel_grew HCa.out hg h1); have HX1 := Lib.hid ho; have HX2 := Lib.hid hg; clear ho hg)
      have HCZ := Lib.hid (C.nodes HCa.out HNa.out HFa.out h1 h2 hlow HX2.out HX1.out)
      have HBZ := Lib.hid ((HBa.out.trans ((HX2.out.below HNa.out.2 hbw).mono (by have := HQL.out; omega))).setCell (p := ⟨nb + 1, 1, none⟩) (by show w.heap.size ≤ nb + 1; have := HQL.out; omega) (.slice A' ((j + 1) + 1) c'))
      clear c0 c1 c2 f0 f1 f2 d0 d1 d2 g0 g1 g2 h1 h2 hlow hql hbw hsm HX1 HX2 HCa HNa HFa HBa HR
      have hC := HCZ.out
      have hbr := HBZ.out
      clear HCZ HBZ
      generalize w'.setCell _ _ = wx at *
      have hln : (nodesS0 j ++ [wkS]).length = j + 1 + 1 := by rw [List.length_append, nodesS0_len]; rfl
      obtain ⟨A, n, c, F, m, d, hc, hn, hf, h1, h2⟩ := hC.ex
      have hlow := hC.low
      obtain rfl : j + 1 + 1 = n := (hln).symm.trans hn.len
      obtain rfl : j = m := (flowsS0_len j).symm.trans hf.len
      have hba : Below wx.heap.size wx (wx.alloc (.cells #[.int .i64 (j : Int), .int .i64 ((j : Int) + 1), .string ⟨#[]⟩] 82)) := (Below.refl _ _).alloc (Nat.le_refl _) _
      have HCa := Lib.hid (hc.below hba (Nat.le_refl _))
      have HNa := Lib.hid (hn.below hba (Nat.le_refl _))
      have HFa := Lib.hid (hf.below hba (Nat.le_refl _))
      have HBa := Lib.hid (hbr.trans (hba.mono hbr.size))
      have HR : Hid (KRow Fl.κ (wx.alloc (.cells #[.int .i64 (j : Int), .int .i64 ((j : Int) + 1), .string ⟨#[]⟩] 82)) (wx.heap.size + 1) (some ⟨wx.heap.size, 0, none⟩) 1 [⟨(j : Int), (j : Int) + 1, no⟩]) := Lib.hid (KRow.lit (κ := Fl.κ) wx 82 [⟨(j : Int), (j : Int) + 1, no⟩] #[.int .i64 (j : Int), .int .i64 ((j : Int) + 1), .string ⟨#[]⟩] rfl)
      have hql := hc.lt
      have hbw : nb ≤ (wx.alloc (.cells #[.int .i64 (j : Int), .int .i64 ((j : Int) + 1), .string ⟨#[]⟩] 82)).heap.size := by have := hba.size; omega
      have hsm : (j) ≤ 1000000 := by omega
      obtain ⟨⟨c0, c1, c2⟩, f0, f1, f2⟩ := tri_facts hc
      clear hc hn hf hba hC hbr
      go_wp2_with (at_builtin; refine append_k (κ := Fl.κ) rfl (.tmp 36) (.tmp 41) 28 82 i1 _ 32 Tryz.underlying28 hi1 hy0 hy1 hy2 rfl rfl _ nb _ F (j) d (flowsS0 j) ⟨wx.heap.size, 0, none⟩ ⟨(j : Int), (j : Int) + 1, no⟩ rfl HFa.out rfl HR.out hsm (by decide) hbw ?_; intro A' c' w' ho hg; obtain ⟨⟨d0, d1, d2⟩, g0, g1, g2⟩ := tri_facts (cel_grew HCa.out hg h2); have HX1 := Lib.hid ho; have HX2 := Lib.hid hg; clear ho hg)
      have HCZ := Lib.hid (C.flows HCa.out HNa.out HFa.out h1 h2 hlow HX2.out HX1.out)
      have HBZ := Lib.hid ((HBa.out.trans ((HX2.out.below HFa.out.2 hbw).mono (by have := HQL.out; omega))).setCell (p := ⟨nb + 1, 2, none⟩) (by show w.heap.size ≤ nb + 1; have := HQL.out; omega) (.slice A' ((j) + 1) c'))
      clear c0 c1 c2 f0 f1 f2 d0 d1 d2 g0 g1 g2 h1 h2 hlow hql hbw hsm HX1 HX2 HCa HNa HFa HBa HR
      go_roundw
      case measure => simp [intOf]; omega
      case rel =>
        refine ⟨j + 1, by omega, by go_num, ?_, HBZ.out⟩
        have h := HCZ.out
        rw [← HN0.out, ← HF0.out] at h
        exact h
    · obtain rfl : j = v := by omega
      have hI : ¬ ((j : Int) + 1 ≤ (j : Int)) := by omega
      have hw1 : IntKind.i64.wrap ((j : Int) + 1) = (j : Int) + 1 := by rw [IntKind.wrap_i64]; omega
      obtain ⟨A, n, c, F, m, d, hc, hn, hf, h1, h2⟩ := hC.ex
      have hlow := hC.low
      obtain rfl : j + 1 = n := (nodesS0_len j).symm.trans hn.len
      obtain rfl : j = m := (flowsS0_len j).symm.trans hf.len
      have hba : Below wr.heap.size wr (wr.alloc (.cells #[.int .i64 2, .string ⟨#[]⟩, .int .i64 0, .int .i64 0, .int .i64 (-1), .string ⟨#[]⟩, .string ⟨#[]⟩, .int .i64 (-1)] 44)) := (Below.refl _ _).alloc (Nat.le_refl _) _
      have HCa := Lib.hid (hc.below hba (Nat.le_refl _))
      have HNa := Lib.hid (hn.below hba (Nat.le_refl _))
      have HFa := Lib.hid (hf.below hba (Nat.le_refl _))
      have HBa := Lib.hid (hbr.trans (hba.mono hbr.size))
      have HR : Hid (KRow Nd.κ (wr.alloc (.cells #[.int .i64 2, .string ⟨#[]⟩, .int .i64 0, .int .i64 0, .int .i64 (-1), .string ⟨#[]⟩, .string ⟨#[]⟩, .int .i64 (-1)] 44)) (wr.heap.size + 1) (some ⟨wr.heap.size, 0, none⟩) 1 [(Nd.plain 2)]) := Lib.hid (KRow.lit (κ := Nd.κ) wr 44 [(Nd.plain 2)] #[.int .i64 2, .string ⟨#[]⟩, .int .i64 0, .int .i64 0, .int .i64 (-1), .string ⟨#[]⟩, .string ⟨#[]⟩, .int .i64 (-1)] rfl)
      have hql := hc.lt
      have hbw : nb ≤ (wr.alloc (.cells #[.int .i64 2, .string ⟨#[]⟩, .int .i64 0, .int .i64 0, .int .i64 (-1), .string ⟨#[]⟩, .string ⟨#[]⟩, .int .i64 (-1)] 44)).heap.size := by have := hba.size; omega
      have hsm : (j + 1) ≤ 1000000 := by omega
      obtain ⟨⟨c0, c1, c2⟩, f0, f1, f2⟩ := tri_facts hc
      clear hc hn hf hba hC hbr
      go_upto_region 14 with (at_builtin; refine append_k (κ := Nd.κ) rfl (.tmp 45) (.tmp 47) 27 44 i2 _ 88 Tryz.underlying27 hi2 hx0 hx1 hx2 rfl rfl _ nb _ A (j + 1) c (nodesS0 j) ⟨wr.heap.size, 0, none⟩ (Nd.plain 2) rfl HNa.out rfl HR.out hsm (by decide) hbw ?_; intro A' c' w' ho hg; obtain ⟨⟨d0, d1, d2⟩, g0, g1, g2⟩ := tri_facts (cel_grew HCa.out hg h1); have HX1 := Lib.hid ho; have HX2 := Lib.hid hg; clear ho hg)
      have HCZ := Lib.hid (C.nodes HCa.out HNa.out HFa.out h1 h2 hlow HX2.out HX1.out)
      have HBZ := Lib.hid ((HBa.out.trans ((HX2.out.below HNa.out.2 hbw).mono (by have := HQL.out; omega))).setCell (p := ⟨nb + 1, 1, none⟩) (by show w.heap.size ≤ nb + 1; have := HQL.out; omega) (.slice A' ((j + 1) + 1) c'))
      clear c0 c1 c2 f0 f1 f2 d0 d1 d2 g0 g1 g2 h1 h2 hlow hql hbw hsm HX1 HX2 HCa HNa HFa HBa HR
      have hC := HCZ.out
      have hbr := HBZ.out
      clear HCZ HBZ
      generalize w'.setCell _ _ = wx at *
      have hln : (nodesS0 j ++ [Nd.plain 2]).length = j + 1 + 1 := by rw [List.length_append, nodesS0_len]; rfl
      obtain ⟨A, n, c, F, m, d, hc, hn, hf, h1, h2⟩ := hC.ex
      have hlow := hC.low
      obtain rfl : j + 1 + 1 = n := (hln).symm.trans hn.len
      obtain rfl : j = m := (flowsS0_len j).symm.trans hf.len
      have hba : Below wx.heap.size wx (wx.alloc (.cells #[.int .i64 (j : Int), .int .i64 ((j : Int) + 1), .string ⟨#[]⟩] 82)) := (Below.refl _ _).alloc (Nat.le_refl _) _
      have HCa := Lib.hid (hc.below hba (Nat.le_refl _))
      have HNa := Lib.hid (hn.below hba (Nat.le_refl _))
      have HFa := Lib.hid (hf.below hba (Nat.le_refl _))
      have HBa := Lib.hid (hbr.trans (hba.mono hbr.size))
      have HR : Hid (KRow Fl.κ (wx.alloc (.cells #[.int .i64 (j : Int), .int .i64 ((j : Int) + 1), .string ⟨#[]⟩] 82)) (wx.heap.size + 1) (some ⟨wx.heap.size, 0, none⟩) 1 [⟨(j : Int), (j : Int) + 1, no⟩]) := Lib.hid (KRow.lit (κ := Fl.κ) wx 82 [⟨(j : Int), (j : Int) + 1, no⟩] #[.int .i64 (j : Int), .int .i64 ((j : Int) + 1), .string ⟨#[]⟩] rfl)
      have hql := hc.lt
      have hbw : nb ≤ (wx.alloc (.cells #[.int .i64 (j : Int), .int .i64 ((j : Int) + 1), .string ⟨#[]⟩] 82)).heap.size := by have := hba.size; omega
      have hsm : (j) ≤ 1000000 := by omega
      obtain ⟨⟨c0, c1, c2⟩, f0, f1, f2⟩ := tri_facts hc
      clear hc hn hf hba hC hbr
      go_upto_region 15 with (at_builtin; refine append_k (κ := Fl.κ) rfl (.tmp 51) (.tmp 56) 28 82 i1 _ 32 Tryz.underlying28 hi1 hy0 hy1 hy2 rfl rfl _ nb _ F (j) d (flowsS0 j) ⟨wx.heap.size, 0, none⟩ ⟨(j : Int), (j : Int) + 1, no⟩ rfl HFa.out rfl HR.out hsm (by decide) hbw ?_; intro A' c' w' ho hg; obtain ⟨⟨d0, d1, d2⟩, g0, g1, g2⟩ := tri_facts (cel_grew HCa.out hg h2); have HX1 := Lib.hid ho; have HX2 := Lib.hid hg; clear ho hg)
      have HCZ := Lib.hid (C.flows HCa.out HNa.out HFa.out h1 h2 hlow HX2.out HX1.out)
      have HBZ := Lib.hid ((HBa.out.trans ((HX2.out.below HFa.out.2 hbw).mono (by have := HQL.out; omega))).setCell (p := ⟨nb + 1, 2, none⟩) (by show w.heap.size ≤ nb + 1; have := HQL.out; omega) (.slice A' ((j) + 1) c'))
      clear c0 c1 c2 f0 f1 f2 d0 d1 d2 g0 g1 g2 h1 h2 hlow hql hbw hsm HX1 HX2 HCa HNa HFa HBa HR
      have hC := HCZ.out
      rw [← flowsS0_snoc j] at hC
      have hbr := HBZ.out
      clear HCZ HBZ
      generalize w'.setCell _ _ = wz at *
      have hC : C wz nb (nb + 1) (pS j) := hC
      obtain ⟨A, n, c, F, m, d, hc, hn, hf, h1, h2⟩ := hC.ex
      obtain ⟨⟨c0, c1, c2⟩, _⟩ := tri_facts hc
      have HBR := Lib.hid hbr
      have hpm : (pS j).m ≤ 90000 := by rw [pS_m]; omega
      have hpn : (pS j).n ≤ 100000 := by rw [pS_n]; omega
      have hvw := (HVR.out.below hbr (Nat.le_refl _)).mono hbr.size
      have HNEW : Hid (Calls Tryz.prog 24 #[.agg #[.string ⟨#[112]⟩, .slice A n c, .slice F m d], .slice VA vn vc] wz fun e w' => (∃ (q : Nat) (x : BdV), e = .returned (.pointer (some ⟨q, 0, none⟩)) ∧ wz.heap.size ≤ q ∧ RnC w' q x (rn0 (pS j) vl)) ∧ Below wz.heap.size wz w') := Lib.hid (fnew_any ⟨A, n, c, F, m, d⟩ (pS j) VA vn vc vl wz ⟨hn.row, hf.row, hn.nn, hf.nn⟩ hvw HVN.out hpn hpm (by have := HV5.out; omega))
      have c0 : wz.cell? ⟨nb + 1, 0, none⟩ = some (.string ⟨#[112]⟩) := c0
      clear hc hn hf hC hbr h1 h2 hlt hj0 hI hpm hpn hvw hw1
      go_upto_region 16 with (go_at_call 24; refine HNEW.out.mono ?_; rintro e w2 ⟨⟨q, x, rfl, hq, hr⟩, hb2⟩)
      clear c0 c1 c2
      have HW2 := Lib.hid (HBR.out.trans (hb2.mono HBR.out.size))
      have hqw : w.heap.size ≤ q := Nat.le_trans HBR.out.size hq
      have HR : Hid (RnC w2 q x ⟨bS j vl (stS 0), 0, no⟩) := Lib.hid hr
      clear hr hb2 hq HNEW HBR HBP HC0
      go_wp2_with fail
      go_loopw [9] (fun s wr => ∃ (i : Nat) (x : BdV) (m : Nat), i ≤ j ∧ s = .int .i64 ((i : Int) + 1) ∧ m ≤ 2 * i ∧ RnC wr q x ⟨bS j vl (stS i), m, no⟩ ∧ Below w.heap.size w wr) (fun s _ => j + 1 - (intOf s).toNat)
      case atStart => exact ⟨0, x, 0, Nat.zero_le _, rfl, Nat.le_refl _, HR.out, HW2.out⟩
      case round =>
        obtain ⟨i, x1, m1, hij, rfl, hm1, hrc, hbr⟩ := hrel
        have hv5 := HV.out
        have hv1 := HV1.out
        have hwi : IntKind.i64.wrap ((i : Int) + 1 + 1) = (i : Int) + 1 + 1 := by rw [IntKind.wrap_i64]; omega
        have hwv : IntKind.i64.wrap ((j : Int) + 1) = (j : Int) + 1 := by rw [IntKind.wrap_i64]; omega
        have hvl5 : vl.length ≤ 100000 := by have := HV5.out; omega
        have hsi : stS i ≤ j + 1 := by unfold stS; split <;> omega
        by_cases hlt : i < j
        · have hI : (i : Int) + 1 ≤ (j : Int) := by omega
          obtain ⟨nn, m2, hnn, hm2, hmv⟩ := mvS j vl hv5 i m1
          have HRUN := Lib.hid (frun_to E q x1 ⟨bS j vl (stS i), m1, no⟩ ⟨bS j vl (i + 1), m2, no⟩ w wr 10 nn hrc hbr hqw HENV.out (okS j vl hv5 hvl5 hsi (show lim 10 ≤ 1000 by decide)) (show m1 ≤ 900000000 by omega) hmv (restS j vl hv5 (by omega) (by omega)) (show nn ≤ 10 by omega))
          have HBR := Lib.hid hbr
          have HFEW : Hid (bS j vl (i + 1)).Few := Lib.hid (okS j vl hv5 hvl5 (show i + 1 ≤ j + 1 by omega) (Nat.zero_le _)).few
          have HM2 := Lib.hid hm2
          clear hrc hbr hmv hm2
          go_upto_region 23 with (first
            | (go_at_call 27; refine HRUN.out.mono ?_; rintro e w3 ⟨rfl, ⟨x3, hr3⟩, hg3⟩; have HR3 := Lib.hid hr3; have HW3 := Lib.hid (below_grown HBR.out hg3 hqw); clear hr3 hg3)
            | (go_at_call 40; refine (fdone_any q x3 ⟨bS j vl (i + 1), m2, no⟩ w3 HR3.out).mono ?_; rintro e w4 ⟨rfl, hw4⟩; have hw4 := hw4.symm; subst hw4; rw [show decide ((⟨bS j vl (i + 1), m2, no⟩ : Rn).b.toks.length = 0) = false from rfl]))
          have hwt : (⟨bS j vl (i + 1), m2, no⟩ : Rn).waits = [⟨((i + 1 : Nat) : Int) + 1, ((i + 1 : Nat) : Int), ((i + 1 : Nat) : Int) - 1, false⟩] := waitsS j vl hv5 (by omega) (by omega) m2 no
          have HWT := Lib.hid (fwaits_any q x3 ⟨bS j vl (i + 1), m2, no⟩ w3 HR3.out (show 1 ≤ 100000 by decide))
          unfold TksOut at HWT
          rw [hwt] at HWT
          clear hwt HRUN
          go_upto_region 24 with (go_at_call 39; refine HWT.out.mono ?_; rintro e w4 ⟨⟨Y, cc, rfl, hO⟩, hb4⟩)
          have HR4 := Lib.hid (HR3.out.below hb4)
          have HW4 := Lib.hid (HW3.out.trans (hb4.mono HW3.out.size))
          have hle : ([⟨((i + 1 : Nat) : Int) + 1, ((i + 1 : Nat) : Int), ((i + 1 : Nat) : Int) - 1, false⟩] : List Tk).length = 1 := rfl
          rw [hle] at *
          obtain ⟨gy, hgy, hgl1, hgl2⟩ := hO.some_of (show 0 < 1 by decide)
          have hgq : gy ≠ q := by have := HR3.out.cel.lt; omega
          subst hgy
          obtain ⟨t0, t1, t2, t3⟩ := tk_at (j := 0) hO.row (show 0 < 1 by decide)
          have u0 : w4.drew.cell? ⟨gy, 0, none⟩ = some (.int .i64 (((i + 1 : Nat) : Int) + 1)) := t0
          have u1 : w4.drew.cell? ⟨gy, 1, none⟩ = some (.int .i64 ((i : Int) + 1)) := by
            have h : w4.drew.cell? ⟨gy, 1, none⟩ = some (.int .i64 ((i + 1 : Nat) : Int)) := t1
            rw [h]
            have e : ((i + 1 : Nat) : Int) = (i : Int) + 1 := by omega
            rw [e]
          obtain ⟨fl, hfl, hfn⟩ := modS (v := j) (i := i) hlt
          have hb0 : (((j : Int) + 1) == 0) = false := by rw [beq_eq_false_iff_ne]; omega
          have hidx : (bS j vl (i + 1)).toks.findIdx? (fun t => t.id == ((i + 1 : Nat) : Int) + 1) = some 0 := by
            show List.findIdx? _ [_] = _
            rw [List.findIdx?_cons]
            simp
          have hatw : atW (bS j vl (i + 1)).p (bS j vl (i + 1)).toks[0]! = true := workS j hv5 (by omega) (by omega)
          have hgo1 := goS_no j vl hv5 (i := i + 1) (by omega) hfn
          have hgo2 := goS j vl hv5 (i := i + 1) (by omega) (by omega)
          have HG1 := Lib.hid (fgo_any q x3 ⟨bS j vl (i + 1), m2, no⟩ (((i + 1 : Nat) : Int) + 1) fl 0 w4.drew (HR4.out.below (Below.refl w4.heap.size w4).drew) HFEW.out hidx hatw)
          have HG2 := Lib.hid (fun (W : World) (X : BdV) (h : RnC W q X ⟨bS j vl (i + 1), m2, no⟩) => fgo_any q X ⟨bS j vl (i + 1), m2, no⟩ (((i + 1 : Nat) : Int) + 1) ((i + 1 : Nat) : Int) 0 W h HFEW.out hidx hatw)
          dsimp only at HG1 HG2
          rw [hgo1] at HG1
          rw [hgo2] at HG2
          rw [show ((i + 1 : Nat) : Int) = (i : Int) + 1 by omega] at HG1 HG2 u0
          obtain ⟨idv, hidv⟩ : ∃ idv : Int, idv = (i : Int) + 1 + 1 := ⟨_, rfl⟩
          rw [← hidv] at HG1 HG2 u0
          have hb1 : ¬ (j : Int) + 1 = 0 := by omega
          have hfl2 : ((i : Int) + 1 + 1) % ((j : Int) + 1) = fl := by rw [← Int.tmod_eq_emod_of_nonneg (by omega)]; exact hfl
          clear t0 t1 t2 t3 hO hb4 HWT hle hidx hatw hgo1 hgo2 hidv hfn
          go_region_held3 (fun w' => w'.cell? ⟨gy, 0, none⟩ = some (.int .i64 idv) ∧ w'.cell? ⟨gy, 1, none⟩ = some (.int .i64 ((i : Int) + 1))) (first | exact ⟨s0, s1⟩ | exact ⟨v0, v1⟩ | exact ⟨u0, u1⟩) (first
            | (go_at_call 30; (with_reducible refine HG1.out.mono ?_); rintro e w5 ⟨⟨x5, he5, hr5⟩, hg5⟩; cases he5; have HR5 := Lib.hid hr5; have HW5 := Lib.hid (below_grown HW4.out.drew hg5 hqw); have hbk := hg5.block gy hgl2 (fun e => hgq (Option.some.inj e)); have v0 := (World.cell?_of_block (a := ⟨gy, 0, none⟩) hbk).trans u0; have v1 := (World.cell?_of_block (a := ⟨gy, 1, none⟩) hbk).trans u1; have HG3 := Lib.hid (HG2.out w5 x5 hr5); have hgl5 : gy < w5.heap.size := Nat.lt_of_lt_of_le hgl2 hg5.size; clear hr5 hg5 hbk)
            | (go_at_call 30; (with_reducible refine HG3.out.mono ?_); rintro e w6 ⟨⟨x6, he6, hr6⟩, hg6⟩; cases he6; have HR6 := Lib.hid hr6; have HW6 := Lib.hid (below_grown HW5.out hg6 hqw); have hbk := hg6.block gy hgl5 (fun e => hgq (Option.some.inj e)); have s0 := (World.cell?_of_block (a := ⟨gy, 0, none⟩) hbk).trans v0; have s1 := (World.cell?_of_block (a := ⟨gy, 1, none⟩) hbk).trans v1; clear hr6 hg6 hbk))
          go_wp2_with fail
          go_roundw
          case measure => simp [intOf]; omega
          case rel => exact ⟨i + 1, x6, m2, by omega, by go_num, by have := HM2.out; omega, HR6.out, HW6.out⟩
        · obtain rfl : i = j := by omega
          have hI : ¬ (i : Int) + 1 ≤ (i : Int) := by omega
          have hst : stS i = i + 1 := if_neg (by omega)
          rw [hst] at hrc
          have hmv : Mv2 ⟨bS i vl (i + 1), m1, no⟩ 1 ⟨bE i vl, m1 + 1, no⟩ := Mv2.of (endS i vl hv5).1 (endS i vl hv5).2 (.zero _)
          have HRUN := Lib.hid (frun_to E q x1 ⟨bS i vl (i + 1), m1, no⟩ ⟨bE i vl, m1 + 1, no⟩ w wr 10 1 hrc hbr hqw HENV.out (okS i vl hv5 hvl5 (Nat.le_refl _) (show lim 10 ≤ 1000 by decide)) (show m1 ≤ 900000000 by omega) hmv (rest_nil rfl) (show 1 ≤ 10 by decide))
          have HBR := Lib.hid hbr
          have HFEW : Hid (bE i vl).Few := Lib.hid ⟨by show (pS i).n ≤ 100000; rw [pS_n]; omega, by show (pS i).m ≤ 100000; rw [pS_m]; omega, hvl5, by show 0 ≤ 100000; decide, by show (-1000000000 : Int) ≤ (i : Int) + 3; omega, by show (i : Int) + 3 ≤ (1000000000 : Int); omega⟩
          clear hrc hbr hmv
          go_wp2_with (first
            | (go_at_call 27; refine HRUN.out.mono ?_; rintro e w3 ⟨rfl, ⟨x3, hr3⟩, hg3⟩; have HR3 := Lib.hid hr3; have HW3 := Lib.hid (below_grown HBR.out hg3 hqw); have z7 := hr3.cel.cell 7 _ rfl; have z7 : w3.cell? ⟨q, 7, none⟩ = some (.string ⟨#[]⟩) := z7; clear hr3 hg3)
            | (go_at_call 40; refine (fdone_any q x3 ⟨bE i vl, m1 + 1, no⟩ w3 HR3.out).mono ?_; rintro e w4 ⟨rfl, hw4⟩; have hw4 := hw4.symm; subst hw4; rw [show decide ((⟨bE i vl, m1 + 1, no⟩ : Rn).b.toks.length = 0) = true from rfl])
            | (go_at_call 32; refine (finst_any q x3 ⟨bE i vl, m1 + 1, no⟩ 0 0 0 0 ⟨#[]⟩ none 0 0 none 0 0 w3 HR3.out HFEW.out).mono ?_; rintro e w5 ⟨⟨V', vc', T', tc', rfl⟩, hb5⟩; rw [show stI ⟨bE i vl, m1 + 1, no⟩ = 2 from rfl]; have hfi1 := field_inst ByteArray.empty V' T' (bE i vl).vars.length vc' (bE i vl).toks.length tc' (bE i vl).next; have hfi2 := field_inst no V' T' (bE i vl).vars.length vc' (bE i vl).toks.length tc' (bE i vl).next; have hfi3 := field_inst ⟨#[]⟩ V' T' (bE i vl).vars.length vc' (bE i vl).toks.length tc' (bE i vl).next; have HB5 := Lib.hid (HW3.out.trans (hb5.mono HW3.out.size)); clear hb5))
          go_ret
          exact ⟨rfl, HB5.out⟩
end Pr
end Go.Proofs.YtkffnfgdmcebdaaGreatDoor
