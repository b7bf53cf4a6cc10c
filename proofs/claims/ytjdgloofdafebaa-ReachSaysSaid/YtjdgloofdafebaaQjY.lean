/- container/heap over places: down, Push, Pop. -/
import Derived.Test.YtjdgloofdafebaaQiY
import Derived.Deep.CutRange
namespace Go.Proofs.Ytjdgloofdafebaa
open Go.RowKit

namespace Pr
section
variable {w w' w1 w2 : World} {base q n c : Nat} {A A' A1 A2 : Option Addr} {l l' : List Nat}
def Downed (base q : Nat) (A : Option Addr) (n c nn : Nat) (l : List Nat) (w : World) (e : Ending) (w' : World) : Prop := (∃ b, e = .returned (.bool b)) ∧ ∃ l', PL w' base q A n c l' ∧ (∀ k, 0 < k → k < nn → l'[(k - 1) / 2]! ≤ l'[k]!) ∧ l'.Perm l ∧ l'[nn]! = l[nn]! ∧ Mv w w' q A A
set_option maxHeartbeats 1600000 in
set_option maxRecDepth 10000 in
theorem down_any (h : PL w base q A n c l) (hn : n ≤ 1000000) (nn : Nat) (hnn : nn < n) (hd : Rc.Dn l nn 0) :
    Calls Try.prog 41 #[.iface 69 (.pointer (some ⟨q, 0, none⟩)), .int .i64 0, .int .i64 (nn : Int)] w (Downed base q A n c nn l w) := by
  have HP := Lib.hid h
  have HU := Lib.hid hd
  clear h hd
  go_enter Try.func41, Try.ntmps41
  go_wp2_with fail
  go_loopw [7] (fun s wr => ∃ (i : Nat) (l' : List Nat), (i < nn ∨ i = 0) ∧ s = .int .i64 i ∧ PL wr base q A n c l' ∧ Rc.Dn l' nn i ∧ l'.Perm l ∧ l'[nn]! = l[nn]! ∧ Mv w wr q A A) (fun s _ => nn - (intOf s).toNat)
  case atStart => exact ⟨0, l, .inr rfl, rfl, HP.out, HU.out, .refl _, rfl, Mv.refl _ _ _⟩
  case round =>
    obtain ⟨i, l', hi, rfl, hp, hu, hpm, hla, hmv⟩ := hrel
    have HPr := Lib.hid hp
    have HUr := Lib.hid hu
    have HPM := Lib.hid hpm
    have HMV := Lib.hid hmv
    have HLA := Lib.hid hla
    have HL := Lib.hid hp.len
    clear hp hu hpm hmv HP HU hla
    have hi0 : (0 : Int) ≤ (i : Int) := by omega
    have hi1 : (i : Int) ≤ 1000000 := by omega
    by_cases hj1 : 2 * i + 1 < nn
    · have hj1I : 2 * (i : Int) + 1 < (nn : Int) := by omega
      have hnI : ¬ (nn : Int) ≤ 2 * (i : Int) + 1 := by omega
      have hnI2 : ¬ 2 * (i : Int) + 1 < 0 := by omega
      have hnn1 : (nn : Int) ≤ 1000000 := by omega
      obtain ⟨b, hb⟩ : ∃ b : Bool, (decide (2 * i + 2 < nn) && decide (l'[2 * i + 2]! < l'[2 * i + 1]!)) = b := ⟨_, rfl⟩
      have HBB := Lib.hid hb
      go_upto_region 6 with (fail)
      go_cut [33] from 25 to 32 (fun s wx => s = .bool b ∧ ∃ d, wx = wr.drewN d)
      case first =>
        by_cases hj2 : 2 * i + 2 < nn
        · have hj2I : 2 * (i : Int) + 1 + 1 < (nn : Int) := by omega
          have ml := mLess (HPr.out.cel.cell 0 _ rfl)
          have HLE := Lib.hid (less_any HPr.out (2 * i + 2) (2 * i + 1) (by omega) (by omega))
          rw [show ((2 * i + 2 : Nat) : Int) = 2 * (i : Int) + 1 + 1 from by omega, show ((2 * i + 1 : Nat) : Int) = 2 * (i : Int) + 1 from by omega] at HLE
          rw [decide_eq_true hj2, Bool.true_and] at hb
          rw [hb] at HLE
          clear hb
          go_wp2_with fail
          refine HLE.out.mono ?_
          rintro e w3 ⟨rfl, k, rfl⟩
          clear ml HLE
          go_wp2_with fail
          go_meet
          exact ⟨rfl, k, rfl⟩
        · have hj2I : ¬ 2 * (i : Int) + 1 + 1 < (nn : Int) := by omega
          rw [decide_eq_false hj2, Bool.false_and] at hb
          subst hb
          go_wp2_with fail
          go_meet
          exact ⟨rfl, 0, rfl⟩
      case rest =>
        obtain ⟨rfl, d, rfl⟩ := hcut
        have HPd := Lib.hid (HPr.out.drewN d)
        have HMd := Lib.hid (HMV.out.trans (Mv.below (below_drewN (Below.refl _ _) d)))
        clear hb
        generalize wr.drewN d = w4 at *
        go_upto_if 33 with (fail)
        go_cut [9] from 34 to 34 (fun s wx => ∃ j : Nat, s = .int .i64 j ∧ (j = 2 * i + 1 ∨ j = 2 * i + 2) ∧ j < nn ∧ (∀ k, 0 < k → k < nn → (k - 1) / 2 = i → l'[j]! ≤ l'[k]!) ∧ wx = w4)
        case first =>
          cases b with
          | true =>
            go_wp2_with fail
            go_meet
            have hb := HBB.out
            simp only [Bool.and_eq_true, decide_eq_true_eq] at hb
            refine ⟨2 * i + 2, by go_num, .inr rfl, hb.1, fun x h0 hx he => ?_, rfl⟩
            rcases (show x = 2 * i + 1 ∨ x = 2 * i + 2 by omega) with rfl | rfl
            · omega
            · exact Nat.le_refl _
          | false =>
            go_wp2_with fail
            go_meet
            have hb := HBB.out
            simp only [Bool.and_eq_false_iff, decide_eq_false_iff_not] at hb
            refine ⟨2 * i + 1, by go_num, .inl rfl, hj1, fun x h0 hx he => ?_, rfl⟩
            rcases (show x = 2 * i + 1 ∨ x = 2 * i + 2 by omega) with rfl | rfl
            · exact Nat.le_refl _
            · omega
        case rest =>
        obtain ⟨j, rfl, hjo, hjn, hmin, rfl⟩ := hcut
        have HMIN := Lib.hid hmin
        clear hmin hj1I hnI hnI2
        generalize wc = w4 at *
        have ml := mLess (HPd.out.cel.cell 0 _ rfl)
        have HLE := Lib.hid (less_any HPd.out j i (by omega) (by omega))
        go_wp2_with fail
        refine HLE.out.mono ?_
        rintro e w5 ⟨rfl, k, rfl⟩
        have HPe := Lib.hid (HPd.out.drewN k)
        have HMe := Lib.hid (HMd.out.trans (Mv.below (below_drewN (Below.refl _ _) k)))
        clear ml HLE
        by_cases hlt : l'[j]! < l'[i]!
        · rw [decide_eq_true hlt]
          have HST := Lib.hid (HUr.out.step (by rw [HL.out]; omega) hjn (by omega) (by omega) hlt HMIN.out)
          have HSP := Lib.hid ((Rc.swap_perm (l := l') (i := i) (j := j) (by rw [HL.out]; omega) (by rw [HL.out]; omega)).trans HPM.out)
          have HLN : Hid ((Rc.swap l' i j)[nn]! = l[nn]!) := Lib.hid (by
            rw [Rc.swap_get (by rw [HL.out]; omega), if_neg (by omega), if_neg (by omega)]
            exact HLA.out)
          have ms2 := mSwap (HPe.out.cel.cell 0 _ rfl)
          have HSW := Lib.hid (swap_any HPe.out i j (by omega) (by omega))
          clear hlt
          go_wp2_with fail
          refine HSW.out.mono ?_
          rintro e w6 ⟨rfl, hp4, hm4⟩
          have HM4 := Lib.hid (HMe.out.trans hm4)
          have HP4 := Lib.hid hp4
          clear hm4 hp4 ms2
          go_wp2_with fail
          go_roundw
          case measure => simp [intOf]; omega
          case rel => exact ⟨j, _, .inl hjn, rfl, HP4.out, HST.out, HSP.out, HLN.out, HM4.out⟩
        · rw [decide_eq_false hlt]
          have HF := Lib.hid (fun b => (⟨⟨b, rfl⟩, l', HPe.out, HUr.out.fin (fun x h0 hx he => Nat.le_trans (Nat.le_of_not_lt hlt) (HMIN.out x h0 hx he)), HPM.out, HLA.out, HMe.out⟩ : Downed base q A n c nn l w (.returned (.bool b)) (w4.drewN k)))
          clear hlt
          go_wp2
          go_ret
          exact HF.out _
    · have hnI : (nn : Int) ≤ 2 * (i : Int) + 1 := by omega
      have HF := Lib.hid (fun b => (⟨⟨b, rfl⟩, l', HPr.out, HUr.out.fin (fun x h0 hx he => by omega), HPM.out, HLA.out, HMV.out⟩ : Downed base q A n c nn l w (.returned (.bool b)) wr))
      go_wp2
      go_ret
      exact HF.out _
end
end Pr
end Go.Proofs.Ytjdgloofdafebaa
