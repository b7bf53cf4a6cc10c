/- QueueTopics: the walk. -/
import Derived.Test.YtlcchjpelfjheaaLq
namespace Go.Proofs.Ytlcchjpelfjheaa
open Go.RowKit
open Qu
open Ls (T)
set_option maxRecDepth 100000 in
set_option maxHeartbeats 6400000 in
theorem queueTopics_walk (A : Option Addr) (n c : Nat) (l : List Int) (most : Int) (w : World) (hin : InRow w 1 A n c (l.map (Value.int .i64))) (_ : ∀ y ∈ l, -9223372036854775808 ≤ y ∧ y ≤ 9223372036854775807) (hm1 : -9223372036854775808 ≤ most) (hm2 : most ≤ 9223372036854775807) :
    Calls Try.prog 7 #[.slice A n c, .int .i64 most] w fun e w' => e = .returned (.bool true) ∧ Below w.heap.size w w' := by
  have r0 : KRow nκ w w.heap.size A n l := nrow hin.row
  have hmost := hin.most
  have hcap := hin.cap
  unfold maxLen at hmost
  have HF := Lib.hid (first_any w)
  have HR := Lib.hid r0
  have hn1 : (n : Int) ≤ 9223372036854775807 := by omega
  have N1 := Lib.hid (fun w => number_any most 25 w (by decide) hm1 hm2 (by decide))
  clear hin r0 hmost hcap hm1 hm2
  by_cases h20 : 20 < n
  · have hI : (20 : Int) < (n : Int) := by omega
    go_enter Try.func7, Try.ntmps7
    go_wp2_with fail
    refine HF.out.mono ?_
    rintro e w1 ⟨rfl, hb1⟩
    go_wp2
    go_ret
    exact ⟨rfl, hb1⟩
  · have hI : ¬ (20 : Int) < (n : Int) := by omega
    have hn20 : n ≤ 20 := by omega
    go_enter Try.func7, Try.ntmps7
    go_wp2_with fail
    refine HF.out.mono ?_
    rintro e w1 ⟨rfl, hb1⟩
    have HB1 := Lib.hid hb1
    have hs1 := hb1.size
    clear hb1 HF
    go_wp2_with fail
    refine (N1.out _).mono ?_
    rintro e wy ⟨⟨k, rfl, hk⟩, rfl⟩
    clear N1
    have HQ := Lib.hid (QAt.start hs1 26)
    have HBQ := Lib.hid (HB1.out.trans (((Below.refl w1.heap.size w1).alloc (Nat.le_refl _) (.cells #[.map none] 26)).mono hs1))
    go_wp2_with fail
    go_loopw [7, 8] (fun s7 s8 wr => ∃ (j a : Nat) (L : List T), s7 = .int .i64 a ∧ s8 = .int .i64 j ∧ j ≤ n ∧ TInv L j a ∧ QAt w.heap.size wr w1.heap.size L ∧ Below w.heap.size w wr) (fun _ s8 _ => n - (intOf s8).toNat)
    case atStart => exact ⟨0, 0, [], rfl, rfl, Nat.zero_le _, TInv.start, HQ.out, HBQ.out⟩
    case round =>
      obtain ⟨j, a, L, rfl, rfl, hj, hinv, hq, hb⟩ := hrel
      have HINV := Lib.hid hinv
      have HQR := Lib.hid hq
      have HBR := Lib.hid hb
      have hj0 : (0 : Int) ≤ (j : Int) := by omega
      have ha0 : (0 : Int) ≤ (a : Int) := by omega
      have haj := hinv.le
      have hLl : L.length ≤ 1000 := by rw [hinv.len]; omega
      have hsr := hb.size
      clear hinv hq hb HQ HBQ
      by_cases hlt : j < n
      · have hlI : (j : Int) < (n : Int) := by omega
        have hZ := HR.out.below HBR.out (Nat.le_refl _)
        obtain ⟨bz, oz, rfl, _, _⟩ := hZ.2 (by omega)
        have t0 := n_at hZ hlt
        clear hZ
        obtain ⟨kb, hkb, hbit⟩ := and1 l[j]!
        generalize l[j]! = y at *
        rcases (show kb = 0 ∨ kb = 1 by omega) with rfl | rfl
        · have HP := Lib.hid (put1_at (tmk j sa) wr HQR.out hsr (by show -9223372036854775808 ≤ (j : Int) + 1; omega) (by show (j : Int) + 1 ≤ 9223372036854775807; omega) (by show sa.size ≤ 1000; decide) hLl)
          have HS := Lib.hid (HINV.out.step (tp := sa) (.inl rfl))
          rw [if_pos rfl] at HS
          generalize ins (tmk j sa) L = L2 at *
          unfold tmk sa T.cells at HP
          dsimp only at HP
          go_wp2_with fail
          refine HP.out.mono ?_
          rintro e w2 ⟨rfl, hq2, hb2⟩
          go_wp2_with fail
          go_roundw
          case rel => exact ⟨j + 1, a + 1, L2, by go_num, by go_num, by omega, HS.out, hq2, HBR.out.trans hb2⟩
          case measure =>
            simp only [intOf]
            omega
        · have HP := Lib.hid (put1_at (tmk j sb) wr HQR.out hsr (by show -9223372036854775808 ≤ (j : Int) + 1; omega) (by show (j : Int) + 1 ≤ 9223372036854775807; omega) (by show sb.size ≤ 1000; decide) hLl)
          have HS := Lib.hid (HINV.out.step (tp := sb) (.inr rfl))
          rw [if_neg (by decide)] at HS
          generalize ins (tmk j sb) L = L2 at *
          unfold tmk sb T.cells at HP
          dsimp only at HP
          go_wp2_with fail
          refine HP.out.mono ?_
          rintro e w2 ⟨rfl, hq2, hb2⟩
          go_wp2_with fail
          go_roundw
          case rel => exact ⟨j + 1, a, L2, rfl, by go_num, by omega, HS.out, hq2, HBR.out.trans hb2⟩
          case measure =>
            simp only [intOf]
            omega
      · obtain rfl : j = n := by omega
        have hlI : ¬ (j : Int) < (j : Int) := by omega
        have P1 := Lib.hid (pickn_any 0 k [sa] wr HQR.out (by decide) (by decide) hLl #[.string ⟨#[97]⟩] rfl 1)
        go_wp2_with fail
        refine P1.out.mono ?_
        rintro e w2 ⟨⟨A1, n1, c1, r1, rfl, hp1, hw1, _⟩, hb2⟩
        have e1 : n1 = min k a := by rw [← hw1.len (by decide), hp1.len, HINV.out.ca]; omega
        have HQ2 := Lib.hid (HQR.out.below hb2)
        have HB2 := Lib.hid (HBR.out.trans (hb2.mono hsr))
        clear hp1 hw1 hb2 P1 HQR HBR
        have P2 := Lib.hid (pickn_any 0 k [sb] w2 HQ2.out (by decide) (by decide) hLl #[.string ⟨#[98]⟩] rfl 1)
        go_wp2_with fail
        refine P2.out.mono ?_
        rintro e w3 ⟨⟨A2, n2, c2, r2, rfl, hp2, hw2, _⟩, hb3⟩
        have e2 : n2 = min k (j - a) := by rw [← hw2.len (by decide), hp2.len, HINV.out.cb]; omega
        have HQ3 := Lib.hid (HQ2.out.below hb3)
        have HB3 := Lib.hid (HB2.out.trans (hb3.mono HB2.out.size))
        clear hp2 hw2 hb3 P2 HQ2 HB2
        have P3 := Lib.hid (pickn_any 0 k [sa, sb] w3 HQ3.out (by decide) (by decide) hLl #[.string ⟨#[97]⟩, .string ⟨#[98]⟩] rfl 2)
        go_wp2_with fail
        refine P3.out.mono ?_
        rintro e w4 ⟨⟨A3, n3, c3, r3, rfl, hp3, hw3, _⟩, hb4⟩
        have e3 : n3 = min k j := by rw [← hw3.len (by decide), hp3.len, HINV.out.cab]; omega
        have HQ4 := Lib.hid (HQ3.out.below hb4)
        have HB4 := Lib.hid (HB3.out.trans (hb4.mono HB3.out.size))
        clear hp3 hw3 hb4 P3 HQ3 HB3
        have P4 := Lib.hid (pick0_any 0 5 w4 HQ4.out hLl)
        have q1 : ((n1 : Int) == min (a : Int) (k : Int)) = true := by rw [beq_iff_eq]; omega
        have q2 : ((n2 : Int) == min ((j : Int) - (a : Int)) (k : Int)) = true := by rw [beq_iff_eq]; omega
        have q3 : ((n3 : Int) == min (j : Int) (k : Int)) = true := by rw [beq_iff_eq]; omega
        clear e1 e2 e3
        go_wp2_with fail
        refine P4.out.mono ?_
        rintro e w5 ⟨⟨A4, n4, c4, r4, rfl, hp4, hw4, _⟩, hb5⟩
        obtain rfl : 0 = n4 := by
          rw [← hw4.len (by decide), hp4.len, cand_nil]
          rfl
        have HQ5 := Lib.hid (HQ4.out.below hb5)
        have HB5 := Lib.hid (HB4.out.trans (hb5.mono HB4.out.size))
        clear hp4 hw4 hb5 P4 HQ4 HB4
        have P5 := Lib.hid (pickn_any 0 5 [sc] w5 HQ5.out (by decide) (by decide) hLl #[.string ⟨#[99]⟩] rfl 1)
        go_wp2_with fail
        refine P5.out.mono ?_
        rintro e w6 ⟨⟨A5, n5, c5, r5, rfl, hp5, hw5, _⟩, hb6⟩
        obtain rfl : 0 = n5 := by
          rw [← hw5.len (by decide), hp5.len, HINV.out.cc]
          rfl
        have HQ6 := Lib.hid (HQ5.out.below hb6)
        have HB6 := Lib.hid (HB5.out.trans (hb6.mono HB5.out.size))
        clear hp5 hw5 hb6 P5 HQ5 HB5
        have P6 := Lib.hid (pickn_any 0 (-1) [sa, sb] w6 HQ6.out (by decide) (by decide) hLl #[.string ⟨#[97]⟩, .string ⟨#[98]⟩] rfl 2)
        go_wp2_with fail
        refine P6.out.mono ?_
        rintro e w7 ⟨⟨A6, n6, c6, r6, rfl, hp6, hw6, _⟩, hb7⟩
        obtain rfl : 0 = n6 := by
          rw [← hw6.len (by decide), hp6.len]
          exact (Nat.zero_min _).symm
        have HB7 := Lib.hid (HB6.out.trans (hb7.mono HB6.out.size))
        clear hp6 hw6 hb7 P6 HQ6 HB6
        go_wp2
        go_ret
        exact ⟨rfl, HB7.out⟩
end Go.Proofs.Ytlcchjpelfjheaa
