/- Walks of leaseholdmake: a gateway, two or three ways, a gateway again. -/
import Derived.Test.YtjdgloofdafebaaGxY
namespace Go.Proofs.Ytjdgloofdafebaa
open Go.RowKit

namespace Pr
/-- What a way is made of. -/
def wayC (m open_ : Int) (i : Nat) : ByteArray := if open_ = 6 then no else bs (conds (wrap64 (m.tdiv 3 + i)))
def wayQ (b : Nat) (m : Int) (i : Nat) (p : P) : P := if nmb (m / 2 ^ i) 2 = 0 then (p.node (Nd.work (bs (topics (wrap64 (m + i)))) i 2)).join p.n b no else p
def wayT (b : Nat) (m : Int) (i : Nat) (p : P) : Nat := if nmb (m / 2 ^ i) 2 = 0 then p.n else b
theorem way_eq (a b : Nat) (m open_ : Int) (i : Nat) (p : P) : way a b m open_ i p = if open_ ≠ 6 ∧ i = 0 ∧ 0 < nmb (m.tdiv 11) 4 then ((wayQ b m i p).join a (wayT b m i p) (wayC m open_ i)).set a (fun x => { x with dflt := (wayQ b m i p).m }) else (wayQ b m i p).join a (wayT b m i p) (wayC m open_ i) := rfl
theorem wayQ_size (b : Nat) (m : Int) (i : Nat) (p : P) : p.n ≤ (wayQ b m i p).n ∧ (wayQ b m i p).n ≤ p.n + 1 ∧ (wayQ b m i p).m ≤ p.m + 1 := by
  unfold wayQ
  split
  · rw [join_n, node_n, join_m, node_m]; omega
  · omega
theorem way_size (a b : Nat) (m open_ : Int) (i : Nat) (p : P) : p.n ≤ (way a b m open_ i p).n ∧ (way a b m open_ i p).n ≤ p.n + 1 ∧ (way a b m open_ i p).m ≤ p.m + 2 := by
  have h := wayQ_size b m i p
  rw [way_eq]
  split
  · rw [set_n, set_m, join_n, join_m]; omega
  · rw [join_n, join_m]; omega
theorem ways_size (a b : Nat) (m open_ : Int) (p : P) : ∀ i, p.n ≤ (ways a b m open_ i p).n ∧ (ways a b m open_ i p).n ≤ p.n + i ∧ (ways a b m open_ i p).m ≤ p.m + 2 * i
  | 0 => ⟨Nat.le_refl _, Nat.le_refl _, Nat.le_refl _⟩
  | i + 1 => by
    have h1 := ways_size a b m open_ p i
    have h2 := way_size a b m open_ i (ways a b m open_ i p)
    have e : ways a b m open_ (i + 1) p = way a b m open_ i (ways a b m open_ i p) := rfl
    rw [e]; omega
section
variable {w : World} {base q : Nat} {p : P}
set_option maxHeartbeats 3200000 in
set_option maxRecDepth 10000 in
theorem mparts_any (at_ : Nat) (m open_ shut : Int) (h : C w base q p) (hn : p.n ≤ 1000) (hm : p.m ≤ 1000) (m1 : -9223372036854775808 ≤ m) (m2 : m ≤ 9223372036854775807) :
    Calls Try.prog 25 #[.pointer (some ⟨q, 0, none⟩), .int .i64 at_, .int .i64 m, .int .i64 open_, .int .i64 shut] w fun e w' => e = .returned (.int .i64 (parts p at_ m open_ shut).2) ∧ C w' base q (parts p at_ m open_ shut).1 ∧ Below base w w' := by
  have hlow := h.low
  have hlt := h.lt
  have hbase : base ≤ w.heap.size := by omega
  have HM := Lib.hid (And.intro m1 m2)
  have NB := Lib.hid (fun W => mnumber_any m 2 W (by decide) m1 m2 (by decide))
  obtain ⟨k2, hk2, hk2'⟩ := nmb_nat m 2 (by decide)
  rw [hk2] at NB
  obtain ⟨R, hw⟩ : ∃ R, R = parts p at_ m open_ shut := ⟨_, rfl⟩
  rw [← hw]
  unfold parts at hw
  simp only [] at hw
  rw [hk2] at hw
  have HW := Lib.hid hw
  have HC := Lib.hid h
  have ew : IntKind.i64.wrap (2 + (k2 : Int)) = 2 + (k2 : Int) := by rw [IntKind.wrap_i64]; omega
  clear hw h m1 m2 hk2
  go_enter Try.func25, Try.ntmps25
  go_wp2_with fail
  refine (mplain_any open_ HC.out (by omega)).mono ?_
  rintro e w1 ⟨rfl, hc1, hb1⟩
  have HB1 := Lib.hid hb1
  have HC1 := Lib.hid hc1
  clear hc1 hb1 HC
  go_wp2_with fail
  refine (mjoin_any (at_ : Int) (p.n : Int) no HC1.out (by show p.m ≤ 100000; omega)).mono ?_
  rintro e w2 ⟨rfl, hc2, hb2, -⟩
  have HB2 := Lib.hid (HB1.out.trans hb2)
  have n1 : ((p.node (Nd.plain open_)).join at_ p.n no).n = p.n + 1 := by rw [join_n, node_n]
  have m1 : ((p.node (Nd.plain open_)).join at_ p.n no).m = p.m + 1 := by rw [join_m, node_m]
  have hW1 := HW.out
  generalize (p.node (Nd.plain open_)).join at_ p.n no = p1 at *
  have HC2 := Lib.hid hc2
  clear hc2 hb2 HC1 HB1 HW
  go_wp2_with fail
  refine (mplain_any shut HC2.out (by omega)).mono ?_
  rintro e w3 ⟨rfl, hc3, hb3⟩
  have HB3 := Lib.hid (HB2.out.trans hb3)
  have n2 : (p1.node (Nd.plain shut)).n = p.n + 2 := by rw [node_n, n1]
  have m2 : (p1.node (Nd.plain shut)).m = p.m + 1 := by rw [node_m, m1]
  have N1 : ((p1.n : Nat) : Int) = (p.n : Int) + 1 := by omega
  rw [N1]
  clear N1 n1 m1
  generalize p1.node (Nd.plain shut) = p2 at *
  have HC3 := Lib.hid hc3
  have HW1 := Lib.hid hW1
  clear hc3 hb3 HC2 HB2 hW1
  go_wp2_with fail
  refine (NB.out _).mono ?_
  rintro e w4 ⟨rfl, rfl⟩
  go_wp2_with fail
  go_loopw [14] (fun i wr => ∃ j : Nat, j ≤ 2 + k2 ∧ i = .int .i64 j ∧ C wr base q (ways p.n (p.n + 1) m open_ j p2) ∧ Below base w wr) (fun i _ => 2 + k2 - (intOf i).toNat)
  case atStart => exact ⟨0, Nat.zero_le _, rfl, HC3.out, HB3.out⟩
  case round =>
    obtain ⟨j, hj, rfl, hcr, hbr⟩ := hrel
    clear HC3 HB3
    by_cases hlt2 : j < 2 + k2
    · have hsz := ways_size p.n (p.n + 1) m open_ p2 j
      have e1 : ways p.n (p.n + 1) m open_ (j + 1) p2 = way p.n (p.n + 1) m open_ j (ways p.n (p.n + 1) m open_ j p2) := rfl
      generalize ways p.n (p.n + 1) m open_ j p2 = pj at *
      have hjI : (j : Int) < 2 + (k2 : Int) := by omega
      have HE1 := Lib.hid e1
      have HSZ := Lib.hid hsz
      have HCR := Lib.hid hcr
      have HBR := Lib.hid hbr
      clear e1 hsz hcr hbr
      go_upto_if 39 with (fail)
      go_cut [15] from 33 to 88 (fun s wx => s = .string (wayC m open_ j) ∧ Below wr.heap.size wr wx)
      case first =>
        obtain ⟨d1, d2⟩ := tdiv_in 3 HM.out.1 HM.out.2 (by decide)
        obtain ⟨X, hX⟩ : ∃ X, IntKind.i64.wrap (m.tdiv 3 + (j : Int)) = X := ⟨_, rfl⟩
        have hX' : wrap64 (m.tdiv 3 + (j : Int)) = X := by unfold wrap64; rw [← hX, IntKind.wrap_i64]
        have hXb : -9223372036854775808 ≤ X ∧ X ≤ 9223372036854775807 := by rw [← hX, IntKind.wrap_i64]; omega
        have e3 : IntKind.i64.wrap (m.tdiv 3) = m.tdiv 3 := by rw [IntKind.wrap_i64]; omega
        have HK := Lib.hid (fun W => mconds_any X W hXb.1 hXb.2)
        have HX := Lib.hid hX'
        clear hX' hXb d1 d2 HM HCR HBR HE1 HSZ HW1
        by_cases h6 : open_ = 6
        · subst h6
          go_wp2_with fail
          go_meet
          exact ⟨by unfold wayC; rw [if_pos rfl]; rfl, Below.refl _ _⟩
        · have h6B : (open_ == 6) = false := by rw [beq_eq_false_iff_ne]; exact h6
          go_wp2_with fail
          refine (HK.out _).mono ?_
          rintro e wx ⟨rfl, hbx⟩
          go_wp2_with fail
          go_meet
          exact ⟨by unfold wayC; rw [if_neg h6, HX.out], hbx⟩
      case rest =>
        obtain ⟨rfl, hbx⟩ := hcut
        obtain ⟨K, hKK⟩ : ∃ K, wayC m open_ j = K := ⟨_, rfl⟩
        rw [hKK]
        have HKK := Lib.hid hKK
        clear hKK
        have hj2 : j ≤ 2 := by omega
        have hs : -9223372036854775808 ≤ m / 2 ^ j ∧ m / 2 ^ j ≤ 9223372036854775807 := by
          obtain ⟨m1, m2⟩ := HM.out
          have e : j = 0 ∨ j = 1 ∨ j = 2 := by omega
          rcases e with rfl | rfl | rfl
          · rw [show (2 : Int) ^ 0 = 1 from rfl]; omega
          · rw [show (2 : Int) ^ 1 = 2 from rfl]; omega
          · rw [show (2 : Int) ^ 2 = 4 from rfl]; omega
        have NS := Lib.hid (fun W => mnumber_any (m / 2 ^ j) 2 W (by decide) hs.1 hs.2 (by decide))
        obtain ⟨k5, hk5, hk5'⟩ := nmb_nat (m / 2 ^ j) 2 (by decide)
        rw [hk5] at NS
        have HK5 := Lib.hid hk5
        have HBX := Lib.hid hbx
        clear hk5 hs hbx
        go_wp2_with fail
        refine (NS.out _).mono ?_
        rintro e wd ⟨rfl, rfl⟩
        go_upto_if 51 with (fail)
        go_cut [16] from 33 to 88 (fun s wx => s = .int .i64 (wayT (p.n + 1) m j pj) ∧ C wx base q (wayQ (p.n + 1) m j pj) ∧ Below base wr wx)
        case first =>
          obtain ⟨m1, m2⟩ := HM.out
          have hbw : base ≤ wr.heap.size := Nat.le_trans hbase HBR.out.size
          have hbx' := HBX.out.mono hbw
          have hcx := HCR.out.below HBX.out (Nat.le_refl _)
          obtain ⟨X, hX⟩ : ∃ X, IntKind.i64.wrap (m + (j : Int)) = X := ⟨_, rfl⟩
          have hX' : wrap64 (m + (j : Int)) = X := by unfold wrap64; rw [← hX, IntKind.wrap_i64]
          have hXb : -9223372036854775808 ≤ X ∧ X ≤ 9223372036854775807 := by rw [← hX, IntKind.wrap_i64]; omega
          have HX := Lib.hid hX'
          have HT := Lib.hid (fun W => mtopics_any X W hXb.1 hXb.2)
          have HCX := Lib.hid hcx
          have HBXX := Lib.hid hbx'
          have hpn : pj.n ≤ 90000 := by have := HSZ.out; omega
          have hpm : pj.m ≤ 90000 := by have := HSZ.out; omega
          clear m1 m2 hX' hXb hcx hbx' HBX HCR HBR HE1 HSZ HW1 NS HM
          by_cases h0 : k5 = 0
          · subst h0
            have hz : nmb (m / 2 ^ j) 2 = 0 := HK5.out
            have HQ : Hid (wayQ (p.n + 1) m j pj = (pj.node (Nd.work (bs (topics X)) j 2)).join pj.n (p.n + 1 : Nat) no) := Lib.hid (by unfold wayQ; rw [if_pos hz, HX.out])
            have HTT : Hid (wayT (p.n + 1) m j pj = pj.n) := Lib.hid (by unfold wayT; rw [if_pos hz])
            clear hz
            generalize bs (topics X) = T at *
            go_wp2_with fail
            refine (HT.out _).mono ?_
            rintro e w5 ⟨rfl, hb5⟩
            have HB5 := Lib.hid (HBXX.out.trans (hb5.mono (Nat.le_trans hbw HBXX.out.size)))
            have HC5 := Lib.hid (HCX.out.below hb5 (Nat.le_refl _))
            clear hb5 HBXX HCX HT
            go_wp2_with fail
            refine (mworknode_any T (j : Int) 2 HC5.out (by omega)).mono ?_
            rintro e w6 ⟨rfl, hc6, hb6⟩
            have HB6 := Lib.hid (HB5.out.trans hb6)
            have HC6 := Lib.hid hc6
            clear hc6 hb6 HB5 HC5
            go_wp2_with fail
            have hj6 := mjoin_any (pj.n : Int) ((p.n : Int) + 1) no HC6.out (by rw [node_m]; omega)
            refine hj6.mono ?_
            rintro e w7 ⟨rfl, hc7, hb7, -⟩
            have HB7 := Lib.hid (HB6.out.trans hb7)
            have HC7 := Lib.hid hc7
            clear hj6 hc7 hb7 HB6 HC6
            go_wp2_with fail
            go_meet
            refine ⟨by rw [HTT.out], ?_, HB7.out⟩
            rw [HQ.out]
            exact HC7.out
          · have hkB : ((k5 : Int) == 0) = false := by rw [beq_eq_false_iff_ne]; omega
            have hz : ¬ nmb (m / 2 ^ j) 2 = 0 := by rw [HK5.out]; omega
            have HQ : Hid (wayQ (p.n + 1) m j pj = pj) := Lib.hid (by unfold wayQ; rw [if_neg hz])
            have HTT : Hid (wayT (p.n + 1) m j pj = p.n + 1) := Lib.hid (by unfold wayT; rw [if_neg hz])
            clear hz h0
            go_wp2_with fail
            go_meet
            refine ⟨by rw [HTT.out]; rfl, ?_, HBXX.out⟩
            rw [HQ.out]
            exact HCX.out
        case rest =>
          obtain ⟨rfl, hcq, hbq⟩ := hcut
          have hqs := wayQ_size (p.n + 1) m j pj
          have hE2 := HE1.out.trans (way_eq p.n (p.n + 1) m open_ j pj)
          generalize wayT (p.n + 1) m j pj = tt at *
          generalize wayQ (p.n + 1) m j pj = QQ at *
          rw [HKK.out] at hE2
          have hbc := HBR.out.trans hbq
          have hQn : p.n < QQ.n := by have := HSZ.out; omega
          have hQm : QQ.m ≤ 90000 := by have := HSZ.out; omega
          have HCQ := Lib.hid hcq
          have HBC := Lib.hid hbc
          clear hcq hbq hbc hqs HE1 HBX NS HCR HBR HKK HK5
          go_wp2_with fail
          refine (mjoin_any (p.n : Int) (tt : Int) K HCQ.out (by omega)).mono ?_
          rintro e w7 ⟨rfl, hc7, hb7, -⟩
          have HB7 := Lib.hid (HBC.out.trans hb7)
          have HC7 := Lib.hid hc7
          clear hc7 hb7 HCQ HBC
          by_cases h6 : open_ = 6
          · subst h6
            rw [if_neg (by simp)] at hE2
            have HE2 := Lib.hid hE2
            clear hE2
            go_wp2_with fail
            go_roundw
            case measure => first | (simp [intOf]; done) | (simp [intOf]; omega)
            case rel => exact ⟨j + 1, by omega, by go_num, by rw [HE2.out]; exact HC7.out, HB7.out⟩
          · have h6B : (open_ == 6) = false := by rw [beq_eq_false_iff_ne]; exact h6
            by_cases hj0 : j = 0
            · subst hj0
              obtain ⟨d1, d2⟩ := tdiv_in 11 HM.out.1 HM.out.2 (by decide)
              have e11 : IntKind.i64.wrap (m.tdiv 11) = m.tdiv 11 := by rw [IntKind.wrap_i64]; omega
              have N11 := Lib.hid (fun W => mnumber_any (m.tdiv 11) 4 W (by decide) d1 d2 (by decide))
              obtain ⟨k6, hk6, hk6'⟩ := nmb_nat (m.tdiv 11) 4 (by decide)
              rw [hk6] at N11 hE2
              have H6 := Lib.hid h6
              clear hk6 d1 d2 h6
              by_cases hk0 : k6 = 0
              · subst hk0
                rw [if_neg (by simp)] at hE2
                have HE2 := Lib.hid hE2
                clear hE2
                go_wp2_with fail
                refine (N11.out _).mono ?_
                rintro e wd ⟨rfl, rfl⟩
                go_wp2_with fail
                go_roundw
                case measure => first | (simp [intOf]; done) | (simp [intOf]; omega)
                case rel => exact ⟨1, by omega, by go_num, by rw [HE2.out]; exact HC7.out, HB7.out⟩
              · have hkp : (0 : Int) < (k6 : Int) := by omega
                have hkn : 0 < k6 := by omega
                have hkn2 : ¬ k6 = 0 := hk0
                rw [if_pos ⟨H6.out, rfl, hkp⟩] at hE2
                have HE2 := Lib.hid hE2
                clear hE2
                go_wp2_with fail
                refine (N11.out _).mono ?_
                rintro e wd ⟨rfl, rfl⟩
                obtain ⟨g1, c1, r1, r2, r3, r4, r5, r6, r7⟩ := HC7.out.row (k := p.n) (by rw [join_n]; omega)
                rw [join_n] at r1
                have x7 := r5 4 _ rfl
                have fz := r6 (p.n * 8 + 4)
                have hqI : (p.n : Int) < (QQ.n : Int) := by omega
                have hp0 : (0 : Int) ≤ (p.n : Int) := by omega
                have HFIN := Lib.hid (r7 4 (.int .i64 (QQ.m : Int)) (fun x => { x with dflt := (QQ.m : Int) }) (by decide) (fun _ => rfl))
                have HBF := Lib.hid (HB7.out.setCell (p := ⟨g1, p.n * 8 + 4, none⟩) r2 (.int .i64 (QQ.m : Int)))
                clear r2 r3 r4 r5 r6 r7
                go_wp2_with fail
                go_roundw
                case measure => first | (simp [intOf]; done) | (simp [intOf]; omega)
                case rel => exact ⟨1, by omega, by go_num, by rw [HE2.out]; exact HFIN.out, HBF.out⟩
            · have hjB : ((j : Int) == 0) = false := by rw [beq_eq_false_iff_ne]; omega
              rw [if_neg (by intro hh; exact hj0 hh.2.1)] at hE2
              have HE2 := Lib.hid hE2
              clear hE2 hj0
              go_wp2_with fail
              go_roundw
              case measure => first | (simp [intOf]; done) | (simp [intOf]; omega)
              case rel => exact ⟨j + 1, by omega, by go_num, by rw [HE2.out]; exact HC7.out, HB7.out⟩
    · obtain rfl : j = 2 + k2 := by omega
      have HCR := Lib.hid hcr
      have HBR := Lib.hid hbr
      clear hcr hbr
      have hjI : ¬ ((2 + k2 : Nat) : Int) < 2 + (k2 : Int) := by omega
      go_wp2
      go_ret
      have hW2 := HW1.out
      subst hW2
      exact ⟨ret_int (by simp), HCR.out, HBR.out⟩
end
end Pr
end Go.Proofs.Ytjdgloofdafebaa
