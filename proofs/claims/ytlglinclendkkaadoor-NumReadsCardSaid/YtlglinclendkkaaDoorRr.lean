/- Walks of the document's own Reader. -/
import Derived.Test.YtlglinclendkkaaDoorRt
import Derived.Deep.RegionWith
import Derived.Deep.DeepCutAuto
namespace Go.Proofs.YtlglinclendkkaaDoor
open Go.RowKit

section
variable {w : World} {B p : Nat} {l : List UInt8} {e : Int}

set_option maxHeartbeats 400000 in
theorem refFail_any (c : Int) (hR : RdD w B p l 0) :
    Calls Tryd.prog 27 #[.pointer (some ⟨p, 0, none⟩), .int .i64 c] w fun x w' => (∃ v, x = .returned v) ∧ RdD w' B p l c ∧ w.grownBy w' (some p) := by
  obtain ⟨A, n, cp, h0, h1, f0, f1, hr, hA, hnc, hc, ha⟩ := hR.ex
  go_enter Tryd.func27, Tryd.ntmps27
  go_wp2
  go_end0
  exact ⟨⟨_, rfl⟩, RdD.set1 h0 h1 f0 f1 hr hA hnc hc ha hR.low, grown_setCell _ _ _⟩

theorem ite_max : (if IntKind.u64.signed = true then (-1 : Int) else IntKind.u64.max) = IntKind.u64.max := by decide
/-- An odd number's sign back, in the walk's spellings. -/
theorem zag_odds {u : Nat} (h0 : u < 18446744073709551616) (h : ¬ u % 2 = 0) : ∃ Y, Y = zag u ∧ wrap64 (Go.bits .xor .u64 IntKind.u64.max ((u : Int) / 2)) = Y ∧
    wrap64 (Go.bits .xor .u64 (if IntKind.u64.signed = true then -1 else IntKind.u64.max) ((u : Int) / 2)) = Y ∧
    IntKind.i64.wrap (Go.bits .xor .u64 (if IntKind.u64.signed = true then -1 else IntKind.u64.max) ((u : Int) / 2)) = Y ∧
    IntKind.i64.wrap (Go.bits .xor .u64 IntKind.u64.max ((u : Int) / 2)) = Y := by
  have h1 := zag_odd h0 h
  refine ⟨zag u, rfl, h1, ?_, ?_, ?_⟩
  · rw [ite_max]; exact h1
  · rw [ite_max, IntWalk.i64_left]; exact h1
  · rw [IntWalk.i64_left]; exact h1

attribute [local go_sem] ite_max in
set_option maxRecDepth 20000 in
set_option maxHeartbeats 4000000 in
theorem refInt_any (lo hi : Int) (hR : RdD w B p l e) :
    Calls Tryd.prog 9 #[.pointer (some ⟨p, 0, none⟩), .int .i64 lo, .int .i64 hi] w fun x w' => x = .returned (.int .i64 (intSays lo hi l e).1) ∧ RdD w' B p (intSays lo hi l e).2.1 (intSays lo hi l e).2.2 ∧ w.grownBy w' (some p) := by
  by_cases he : e = 0
  · subst he
    have hS : intSays lo hi l 0 = if (numAt 0 0 l).2.2 ≠ 0 then (0, (numAt 0 0 l).2) else
      if zag (numAt 0 0 l).1 < lo ∨ hi < zag (numAt 0 0 l).1 then (0, (numAt 0 0 l).2.1, 107) else (zag (numAt 0 0 l).1, (numAt 0 0 l).2.1, 0) := by simp [intSays]
    have HS : Hid (∀ r : Nat × List UInt8 × Int, numAt 0 0 l = r → intSays lo hi l 0 = if r.2.2 ≠ 0 then (0, r.2) else if zag r.1 < lo ∨ hi < zag r.1 then (0, r.2.1, 107) else (zag r.1, r.2.1, 0)) :=
      Lib.hid fun r h => by subst h; exact hS
    clear hS
    generalize intSays lo hi l 0 = R at *
    obtain ⟨A, n, c, h0, h1, f0, f1, hr, hA, hnc, hc, ha⟩ := hR.ex
    go_enter Tryd.func9, Tryd.ntmps9
    go_wp2_with fail
    go_loopw [7, 8] (fun u i wr => ∃ (j acc : Nat) (l' : List UInt8), j ≤ 9 ∧ i = .int .i64 j ∧ u = .int .u64 acc ∧ acc < 128 ^ j ∧ numAt j acc l' = numAt 0 0 l ∧ RdD wr B p l' 0 ∧ w.grownBy wr (some p)) (fun _ i _ => 10 - (intOf i).toNat)
    case atStart => exact ⟨0, 0, l, by omega, rfl, rfl, by decide, rfl, hR, World.grownBy.refl _ _⟩
    case round =>
      clear hR h0 h1 f0 f1 hr hA hnc hc ha
      obtain ⟨j, acc, l', hj, rfl, rfl, hacc, hN, hR, hg⟩ := hrel
      obtain ⟨A, n, c, h0, h1, f0, f1, hr, hA, hnc, hc, ha⟩ := hR.ex
      have HN := Lib.hid hN
      have HA := Lib.hid hacc
      clear hN hacc
      have hln := hr.len
      cases l' with
      | nil =>
        obtain rfl : 0 = n := hln
        obtain rfl : R = (0, [], 101) := by rw [HS.out _ HN.out.symm]; rfl
        clear HS HN HA
        go_wp2_with fail
        refine (refFail_any 101 hR).mono ?_
        rintro y w1 ⟨⟨v, rfl⟩, hR1, hg1⟩
        go_wp2
        go_ret
        exact ⟨rfl, hR1, hg.trans hg1⟩
      | cons x t =>
        obtain ⟨b, off, rfl, hbb, hcx⟩ := hr.at_ (k := 0) (by simp at hln; omega)
        simp only [List.getElem_cons_zero, Nat.add_zero] at hcx
        have hbl := ha (by simp at hln; omega) _ rfl
        have hbp : b ≠ p := Nat.ne_of_lt (Nat.lt_of_lt_of_le hbl hR.low)
        simp only [List.length_cons] at hln
        have hr' : Bytes wr wr.heap.size (some ⟨b, off + 1, none⟩) (n - 1) t := hr.back (k := 1) (by omega)
        have hxx := x.toNat_lt
        have hn0 : ((n : Int) == 0) = false := by simp; omega
        have hlow := hR.low
        go_upto_region 11 with (fail)
        go_cut [9] from 16 to 89 (fun v wx => v = .int .u8 (x.toNat : Int) ∧ RdD wx B p t 0 ∧ w.grownBy wx (some p))
        case first =>
          by_cases hc1 : c = 1
          · subst hc1
            obtain rfl : t = [] := List.eq_nil_of_length_eq_zero (by omega)
            go_wp2
            go_meet
            exact ⟨rfl, RdD.set0 h0 h1 f0 f1 (Bytes.nil _ _ _) (fun h => by cases h) (by omega) (by unfold maxLen; omega) (fun _ => ha (by omega)) hlow, hg.trans (grown_setCell _ _ _)⟩
          · go_wp2
            go_meet
            exact ⟨rfl, RdD.set0 h0 h1 f0 f1 hr' (fun h => by cases h) (by omega) (by omega) (fun _ a h => by cases h; exact hbl) hlow, hg.trans (grown_setCell _ _ _)⟩
        case rest =>
          obtain ⟨rfl, hR1, hg1⟩ := hcut
          clear hR hg h0 h1 f0 f1 hr hr' hA hnc hc ha hcx hbb hbl hbp hn0 hlow
          by_cases hj9 : j = 9
          · have e9 : ((j : Int) == 9) = true := by simp; omega
            have hp0 : (0 : Int) < (j : Int) := by omega
            have hpn : 0 < j := by omega
            have hpd : decide (0 < j) = true := decide_eq_true hpn
            by_cases hx1 : 1 < x.toNat
            · have hx1' : (1 : Int) < (x.toNat : Int) := by omega
              have HE := Lib.hid (HN.out.symm.trans (numAt_bad (k := j) (acc := acc) (x := x) (t := t) (by omega)))
              obtain rfl : R = (0, t, 102) := by rw [HS.out _ HE.out]; rfl
              clear HS HE HA
              go_wp2_with fail
              refine (refFail_any 102 hR1).mono ?_
              rintro y w1 ⟨⟨v, rfl⟩, hR2, hg2⟩
              go_wp2
              go_ret
              exact ⟨rfl, hR2, hg1.trans hg2⟩
            · have hx1' : ¬ (1 : Int) < (x.toNat : Int) := by omega
              have hx : x.toNat < 128 := by omega
              have hx' : ¬ (128 : Int) ≤ (x.toNat : Int) := by omega
              by_cases hx0 : x.toNat = 0
              · have hx0' : ((x.toNat : Int) == 0) = true := by simp; omega
                have HE := Lib.hid (HN.out.symm.trans (numAt_bad (k := j) (acc := acc) (x := x) (t := t) (by omega)))
                obtain rfl : R = (0, t, 102) := by rw [HS.out _ HE.out]; rfl
                clear HS HE HA
                go_wp2_with fail
                refine (refFail_any 102 hR1).mono ?_
                rintro y w1 ⟨⟨v, rfl⟩, hR2, hg2⟩
                go_wp2
                go_ret
                exact ⟨rfl, hR2, hg1.trans hg2⟩
              · have hx0' : ((x.toNat : Int) == 0) = false := by simp; omega
                have HS1 := u64_or_step' HA.out hj hxx (fun _ => by omega)
                have HE := Lib.hid (HN.out.symm.trans (numAt_end (k := j) (acc := acc) (x := x) (t := t) (by omega) hx))
                have hU64 : acc + x.toNat % 128 * 128 ^ j < 18446744073709551616 := by
                  have := numAt_lt (x :: t) j acc HA.out hj
                  rw [numAt_end (by omega) hx] at this
                  rw [Nat.mod_eq_of_lt hx]
                  exact this
                rw [show x.toNat * 128 ^ j = x.toNat % 128 * 128 ^ j from by rw [Nat.mod_eq_of_lt hx]] at HE
                generalize hUU : acc + x.toNat % 128 * 128 ^ j = U at *
                have HSU := HS.out _ HE.out
                simp only at HSU
                rw [if_neg (by simp)] at HSU
                have HQ := Lib.hid HSU
                clear HS HE HSU
                go_upto_region 15 with (fail)
                go_cut [7] from 16 to 89 (fun v wx => v = .int .u64 (U : Int) ∧ wx = wc)
                case first =>
                  clear hj9
                  go_wp2
                  go_meet
                  exact ⟨congrArg (Value.int .u64) (by first | (simp; done) | simpa using HS1), rfl⟩
                case rest =>
                  obtain ⟨rfl, hwc⟩ := hcut
                  clear HS1
                  subst hwc
                  have hUi : (U : Int) < 18446744073709551616 := by omega
                  have hand := u64_and1 hU64
                  by_cases hev : U % 2 = 0
                  · have hb1 : (Go.bits .and .u64 (U : Int) 1 == 1) = false := by rw [hand, hev]; rfl
                    have hz := zag_even hev
                    clear hand hev hUU hj hxx hj9 hx1 hx1' hx0 hx hln
                    go_upto_region 23 with (fail)
                    clear hz hb1 hUi hU64
                    generalize zag U = z at *
                    by_cases hlo : z < lo
                    · obtain rfl : R = (0, t, 107) := by rw [HQ.out, if_pos (.inl hlo)]
                      go_wp2_with fail
                      refine (refFail_any 107 hR1).mono ?_
                      rintro y w1 ⟨⟨v, rfl⟩, hR2, hg2⟩
                      go_wp2
                      go_ret
                      exact ⟨rfl, hR2, hg1.trans hg2⟩
                    by_cases hhi : hi < z
                    · obtain rfl : R = (0, t, 107) := by rw [HQ.out, if_pos (.inr hhi)]
                      go_wp2_with fail
                      refine (refFail_any 107 hR1).mono ?_
                      rintro y w1 ⟨⟨v, rfl⟩, hR2, hg2⟩
                      go_wp2
                      go_ret
                      exact ⟨rfl, hR2, hg1.trans hg2⟩
                    obtain rfl : R = (z, t, 0) := by rw [HQ.out, if_neg (by omega)]
                    go_wp2
                    go_ret
                    exact ⟨rfl, hR1, hg1⟩
                  · have hb1 : (Go.bits .and .u64 (U : Int) 1 == 1) = true := by rw [hand, show U % 2 = 1 from by omega]; rfl
                    obtain ⟨Y, HZ, y1, y2, y3, y4⟩ := zag_odds hU64 hev
                    rw [← HZ] at HQ
                    clear HZ
                    clear hand hev hUU hj hxx hj9 hx1 hx1' hx0 hx hln
                    by_cases hlo : Y < lo
                    · obtain rfl : R = (0, t, 107) := by rw [HQ.out, if_pos (.inl hlo)]
                      clear HQ hU64
                      go_wp2_with fail
                      refine (refFail_any 107 hR1).mono ?_
                      rintro y w1 ⟨⟨v, rfl⟩, hR2, hg2⟩
                      go_wp2
                      go_ret
                      exact ⟨rfl, hR2, hg1.trans hg2⟩
                    by_cases hhi : hi < Y
                    · obtain rfl : R = (0, t, 107) := by rw [HQ.out, if_pos (.inr hhi)]
                      clear HQ hU64
                      go_wp2_with fail
                      refine (refFail_any 107 hR1).mono ?_
                      rintro y w1 ⟨⟨v, rfl⟩, hR2, hg2⟩
                      go_wp2
                      go_ret
                      exact ⟨rfl, hR2, hg1.trans hg2⟩
                    obtain rfl : R = (Y, t, 0) := by rw [HQ.out, if_neg (by omega)]
                    clear HQ hU64
                    go_wp2
                    go_ret
                    exact ⟨rfl, hR1, hg1⟩
          · have e9 : ((j : Int) == 9) = false := by simp; omega
            by_cases hx : x.toNat < 128
            · have hx' : ¬ (128 : Int) ≤ (x.toNat : Int) := by omega
              by_cases hj0 : j = 0
              · have hp0 : ¬ (0 : Int) < (j : Int) := by omega
                have hpn : ¬ 0 < j := by omega
                have hpd : decide (0 < j) = false := decide_eq_false hpn
                have HS1 := u64_or_step' HA.out hj hxx (fun _ => by omega)
                have HE := Lib.hid (HN.out.symm.trans (numAt_end (k := j) (acc := acc) (x := x) (t := t) (by omega) hx))
                have hU64 : acc + x.toNat % 128 * 128 ^ j < 18446744073709551616 := by
                  have := numAt_lt (x :: t) j acc HA.out hj
                  rw [numAt_end (by omega) hx] at this
                  rw [Nat.mod_eq_of_lt hx]
                  exact this
                rw [show x.toNat * 128 ^ j = x.toNat % 128 * 128 ^ j from by rw [Nat.mod_eq_of_lt hx]] at HE
                generalize hUU : acc + x.toNat % 128 * 128 ^ j = U at *
                have HSU := HS.out _ HE.out
                simp only at HSU
                rw [if_neg (by simp)] at HSU
                have HQ := Lib.hid HSU
                clear HS HE HSU
                go_upto_region 15 with (fail)
                go_cut [7] from 16 to 89 (fun v wx => v = .int .u64 (U : Int) ∧ wx = wc)
                case first =>
                  clear hj0
                  go_wp2
                  go_meet
                  exact ⟨congrArg (Value.int .u64) (by first | (simp; done) | simpa using HS1), rfl⟩
                case rest =>
                  obtain ⟨rfl, hwc⟩ := hcut
                  clear HS1
                  subst hwc
                  have hUi : (U : Int) < 18446744073709551616 := by omega
                  have hand := u64_and1 hU64
                  by_cases hev : U % 2 = 0
                  · have hb1 : (Go.bits .and .u64 (U : Int) 1 == 1) = false := by rw [hand, hev]; rfl
                    have hz := zag_even hev
                    clear hand hev hUU hj hxx hj9 hj0 hx hln
                    go_upto_region 23 with (fail)
                    clear hz hb1 hUi hU64
                    generalize zag U = z at *
                    by_cases hlo : z < lo
                    · obtain rfl : R = (0, t, 107) := by rw [HQ.out, if_pos (.inl hlo)]
                      go_wp2_with fail
                      refine (refFail_any 107 hR1).mono ?_
                      rintro y w1 ⟨⟨v, rfl⟩, hR2, hg2⟩
                      go_wp2
                      go_ret
                      exact ⟨rfl, hR2, hg1.trans hg2⟩
                    by_cases hhi : hi < z
                    · obtain rfl : R = (0, t, 107) := by rw [HQ.out, if_pos (.inr hhi)]
                      go_wp2_with fail
                      refine (refFail_any 107 hR1).mono ?_
                      rintro y w1 ⟨⟨v, rfl⟩, hR2, hg2⟩
                      go_wp2
                      go_ret
                      exact ⟨rfl, hR2, hg1.trans hg2⟩
                    obtain rfl : R = (z, t, 0) := by rw [HQ.out, if_neg (by omega)]
                    go_wp2
                    go_ret
                    exact ⟨rfl, hR1, hg1⟩
                  · have hb1 : (Go.bits .and .u64 (U : Int) 1 == 1) = true := by rw [hand, show U % 2 = 1 from by omega]; rfl
                    obtain ⟨Y, HZ, y1, y2, y3, y4⟩ := zag_odds hU64 hev
                    rw [← HZ] at HQ
                    clear HZ
                    clear hand hev hUU hj hxx hj9 hj0 hx hln
                    by_cases hlo : Y < lo
                    · obtain rfl : R = (0, t, 107) := by rw [HQ.out, if_pos (.inl hlo)]
                      clear HQ hU64
                      go_wp2_with fail
                      refine (refFail_any 107 hR1).mono ?_
                      rintro y w1 ⟨⟨v, rfl⟩, hR2, hg2⟩
                      go_wp2
                      go_ret
                      exact ⟨rfl, hR2, hg1.trans hg2⟩
                    by_cases hhi : hi < Y
                    · obtain rfl : R = (0, t, 107) := by rw [HQ.out, if_pos (.inr hhi)]
                      clear HQ hU64
                      go_wp2_with fail
                      refine (refFail_any 107 hR1).mono ?_
                      rintro y w1 ⟨⟨v, rfl⟩, hR2, hg2⟩
                      go_wp2
                      go_ret
                      exact ⟨rfl, hR2, hg1.trans hg2⟩
                    obtain rfl : R = (Y, t, 0) := by rw [HQ.out, if_neg (by omega)]
                    clear HQ hU64
                    go_wp2
                    go_ret
                    exact ⟨rfl, hR1, hg1⟩
              · have hp0 : (0 : Int) < (j : Int) := by omega
                have hpn : 0 < j := by omega
                have hpd : decide (0 < j) = true := decide_eq_true hpn
                by_cases hx0 : x.toNat = 0
                · have hx0' : ((x.toNat : Int) == 0) = true := by simp; omega
                  have HE := Lib.hid (HN.out.symm.trans (numAt_bad (k := j) (acc := acc) (x := x) (t := t) (by omega)))
                  obtain rfl : R = (0, t, 102) := by rw [HS.out _ HE.out]; rfl
                  clear HS HE HA
                  go_wp2_with fail
                  refine (refFail_any 102 hR1).mono ?_
                  rintro y w1 ⟨⟨v, rfl⟩, hR2, hg2⟩
                  go_wp2
                  go_ret
                  exact ⟨rfl, hR2, hg1.trans hg2⟩
                · have hx0' : ((x.toNat : Int) == 0) = false := by simp; omega
                  have HS1 := u64_or_step' HA.out hj hxx (fun _ => by omega)
                  have HE := Lib.hid (HN.out.symm.trans (numAt_end (k := j) (acc := acc) (x := x) (t := t) (by omega) hx))
                  have hU64 : acc + x.toNat % 128 * 128 ^ j < 18446744073709551616 := by
                    have := numAt_lt (x :: t) j acc HA.out hj
                    rw [numAt_end (by omega) hx] at this
                    rw [Nat.mod_eq_of_lt hx]
                    exact this
                  rw [show x.toNat * 128 ^ j = x.toNat % 128 * 128 ^ j from by rw [Nat.mod_eq_of_lt hx]] at HE
                  generalize hUU : acc + x.toNat % 128 * 128 ^ j = U at *
                  have HSU := HS.out _ HE.out
                  simp only at HSU
                  rw [if_neg (by simp)] at HSU
                  have HQ := Lib.hid HSU
                  clear HS HE HSU
                  go_upto_region 15 with (fail)
                  go_cut [7] from 16 to 89 (fun v wx => v = .int .u64 (U : Int) ∧ wx = wc)
                  case first =>
                    go_wp2
                    go_meet
                    exact ⟨congrArg (Value.int .u64) (by first | (simp; done) | simpa using HS1), rfl⟩
                  case rest =>
                    obtain ⟨rfl, hwc⟩ := hcut
                    clear HS1
                    subst hwc
                    have hUi : (U : Int) < 18446744073709551616 := by omega
                    have hand := u64_and1 hU64
                    by_cases hev : U % 2 = 0
                    · have hb1 : (Go.bits .and .u64 (U : Int) 1 == 1) = false := by rw [hand, hev]; rfl
                      have hz := zag_even hev
                      clear hand hev hUU hj hxx hj9 hj0 hx0 hx hln
                      go_upto_region 23 with (fail)
                      clear hz hb1 hUi hU64
                      generalize zag U = z at *
                      by_cases hlo : z < lo
                      · obtain rfl : R = (0, t, 107) := by rw [HQ.out, if_pos (.inl hlo)]
                        go_wp2_with fail
                        refine (refFail_any 107 hR1).mono ?_
                        rintro y w1 ⟨⟨v, rfl⟩, hR2, hg2⟩
                        go_wp2
                        go_ret
                        exact ⟨rfl, hR2, hg1.trans hg2⟩
                      by_cases hhi : hi < z
                      · obtain rfl : R = (0, t, 107) := by rw [HQ.out, if_pos (.inr hhi)]
                        go_wp2_with fail
                        refine (refFail_any 107 hR1).mono ?_
                        rintro y w1 ⟨⟨v, rfl⟩, hR2, hg2⟩
                        go_wp2
                        go_ret
                        exact ⟨rfl, hR2, hg1.trans hg2⟩
                      obtain rfl : R = (z, t, 0) := by rw [HQ.out, if_neg (by omega)]
                      go_wp2
                      go_ret
                      exact ⟨rfl, hR1, hg1⟩
                    · have hb1 : (Go.bits .and .u64 (U : Int) 1 == 1) = true := by rw [hand, show U % 2 = 1 from by omega]; rfl
                      obtain ⟨Y, HZ, y1, y2, y3, y4⟩ := zag_odds hU64 hev
                      rw [← HZ] at HQ
                      clear HZ
                      clear hand hev hUU hj hxx hj9 hj0 hx0 hx hln
                      by_cases hlo : Y < lo
                      · obtain rfl : R = (0, t, 107) := by rw [HQ.out, if_pos (.inl hlo)]
                        clear HQ hU64
                        go_wp2_with fail
                        refine (refFail_any 107 hR1).mono ?_
                        rintro y w1 ⟨⟨v, rfl⟩, hR2, hg2⟩
                        go_wp2
                        go_ret
                        exact ⟨rfl, hR2, hg1.trans hg2⟩
                      by_cases hhi : hi < Y
                      · obtain rfl : R = (0, t, 107) := by rw [HQ.out, if_pos (.inr hhi)]
                        clear HQ hU64
                        go_wp2_with fail
                        refine (refFail_any 107 hR1).mono ?_
                        rintro y w1 ⟨⟨v, rfl⟩, hR2, hg2⟩
                        go_wp2
                        go_ret
                        exact ⟨rfl, hR2, hg1.trans hg2⟩
                      obtain rfl : R = (Y, t, 0) := by rw [HQ.out, if_neg (by omega)]
                      clear HQ hU64
                      go_wp2
                      go_ret
                      exact ⟨rfl, hR1, hg1⟩
            · have hx' : (128 : Int) ≤ (x.toNat : Int) := by omega
              have HS1 := u64_or_step' HA.out hj hxx (fun _ => by omega)
              go_wp2
              go_roundw
              case measure => simp [intOf]; omega
              case rel =>
                refine ⟨j + 1, acc + x.toNat % 128 * 128 ^ j, t, by omega, by go_num, ?_, acc_step HA.out, ?_, hR1, hg1⟩
                · exact congrArg (Value.int .u64) (by first | (simp; done) | simpa using HS1)
                · exact (numAt_on (by omega) hx).symm.trans HN.out
  · rw [show intSays lo hi l e = (0, l, e) from by simp [intSays, he]]
    obtain ⟨A, n, c, h0, h1, f0, f1, hr, hA, hnc, hc, ha⟩ := hR.ex
    have he' : (e == 0) = false := by simp [he]
    go_enter Tryd.func9, Tryd.ntmps9
    go_wp2
    go_ret
    exact ⟨rfl, hR, World.grownBy.refl _ _⟩
end
end Go.Proofs.YtlglinclendkkaaDoor
