/- Walks of package num: a number that is read. -/
import Derived.Test.YtggplgmjonnliaaGreatDoorRd
namespace Go.Proofs.YtggplgmjonnliaaGreatDoor
open Go.RowKit

/-- The number without a sign that begins l, as the k-th byte and those behind: it, what is left, the error. -/
def numAt : Nat → Nat → List UInt8 → Nat × List UInt8 × Int
  | _, _, [] => (0, [], 101)
  | k, acc, x :: t => if (k = 9 ∧ 1 < x.toNat) ∨ (0 < k ∧ x.toNat = 0) then (0, t, 102)
      else if x.toNat < 128 then (acc + x.toNat * 128 ^ k, t, 0) else numAt (k + 1) (acc + x.toNat % 128 * 128 ^ k) t

theorem numAt_bad {k acc : Nat} {x : UInt8} {t : List UInt8} (h : (k = 9 ∧ 1 < x.toNat) ∨ (0 < k ∧ x.toNat = 0)) : numAt k acc (x :: t) = (0, t, 102) := by
  rw [numAt, if_pos h]
theorem numAt_end {k acc : Nat} {x : UInt8} {t : List UInt8} (h : ¬ ((k = 9 ∧ 1 < x.toNat) ∨ (0 < k ∧ x.toNat = 0))) (hx : x.toNat < 128) : numAt k acc (x :: t) = (acc + x.toNat * 128 ^ k, t, 0) := by
  rw [numAt, if_neg h, if_pos hx]
theorem numAt_on {k acc : Nat} {x : UInt8} {t : List UInt8} (h : ¬ ((k = 9 ∧ 1 < x.toNat) ∨ (0 < k ∧ x.toNat = 0))) (hx : ¬ x.toNat < 128) : numAt k acc (x :: t) = numAt (k + 1) (acc + x.toNat % 128 * 128 ^ k) t := by
  rw [numAt, if_neg h, if_neg hx]

theorem acc_step {acc j x : Nat} (h : acc < 128 ^ j) : acc + x % 128 * 128 ^ j < 128 ^ (j + 1) := by
  have : x % 128 ≤ 127 := by omega
  have := Nat.mul_le_mul_right (128 ^ j) this
  rw [Nat.pow_succ]
  omega

section
variable {E : Int → Option Addr} {W w : World} {p : Nat} {l : List UInt8} {e : Int}

set_option maxRecDepth 4000 in
set_option maxHeartbeats 1600000 in
theorem number_fine (hE : RdErrs W E) (hb : Below W.heap.size W w) (hp : W.heap.size ≤ p) (hR : RdC E w p l 0) :
    Calls Tryz.prog 46 #[.pointer (some ⟨p, 0, none⟩)] w fun x w' => x = .returned (.int .u64 ((numAt 0 0 l).1 : Nat)) ∧ RdC E w' p (numAt 0 0 l).2.1 (numAt 0 0 l).2.2 ∧ w.grownBy w' (some p) := by
  generalize hr0 : numAt 0 0 l = r
  go_enter Tryz.func46, Tryz.ntmps46
  go_wp2_with fail
  go_loopw [3, 6] (fun u i wr => ∃ (j acc : Nat) (l' : List UInt8), j ≤ 9 ∧ i = .int .i64 j ∧ u = .int .u64 acc ∧ acc < 128 ^ j ∧ numAt j acc l' = r ∧ RdC E wr p l' 0 ∧ w.grownBy wr (some p)) (fun _ i _ => 10 - (intOf i).toNat)
  case atStart => exact ⟨0, 0, l, by omega, rfl, rfl, by decide, hr0, hR, World.grownBy.refl _ _⟩
  case round =>
    clear hR hr0
    obtain ⟨j, acc, l', hj, rfl, rfl, hacc, hN, hR, hg⟩ := hrel
    have hbw : Below W.heap.size W wr := hb.grown hg hb.size (fun k hk => by cases hk; exact hp)
    have HN := Lib.hid hN
    have HA := Lib.hid hacc
    clear hN hacc
    cases l' with
    | nil =>
      go_wp2_with fail
      refine (next_nil hE hbw hR).mono ?_
      rintro x w1 ⟨rfl, hR1, hg1⟩
      obtain ⟨A, n, c, ev, h0, h1, f0, f1, hr, hA, hnc, hc, ha, hs⟩ := hR1.ex
      obtain ⟨a, rfl⟩ := seen_not hs (by decide)
      unfold errV at h1
      go_wp2
      go_ret
      obtain rfl := HN.out
      exact ⟨rfl, hR1, hg.trans hg1⟩
    | cons x t =>
      go_wp2_with fail
      refine (next_cons hE hbw hR).mono ?_
      rintro y w1 ⟨rfl, hR1, hg1⟩
      obtain ⟨A, n, c, ev, h0, h1, f0, f1, hr, hA, hnc, hc, ha, hs⟩ := hR1.ex
      obtain rfl := seen_nil hs
      have hxx := x.toNat_lt
      obtain ⟨a, hka, hgl⟩ := hE.at102 ((hbw.grown hg1 hbw.size (fun k hk => by cases hk; exact hp)))
      unfold errV at hgl
      by_cases hj9 : j = 9
      · have e9 : ((j : Int) == 9) = true := by simp; omega
        by_cases hx1 : 1 < x.toNat
        · go_wp2
          go_ret
          have HE : r = _ := HN.out.symm.trans (numAt_bad (by omega))
          rw [HE]
          exact ⟨rfl, RdC.set1 h0 h1 f0 f1 hr hA hnc hc ha (SeenBy.err 102 a hka (by decide)), (hg.trans hg1).trans (grown_setCell _ _ _)⟩
        · by_cases hx0 : x.toNat = 0
          · have hx0' : ((x.toNat : Int) == 0) = true := by simp; omega
            have hp0 : (0 : Int) < (j : Int) := by omega
            go_wp2
            go_ret
            have HE : r = _ := HN.out.symm.trans (numAt_bad (by omega))
            rw [HE]
            exact ⟨rfl, RdC.set1 h0 h1 f0 f1 hr hA hnc hc ha (SeenBy.err 102 a hka (by decide)), (hg.trans hg1).trans (grown_setCell _ _ _)⟩
          · have hx0' : ((x.toNat : Int) == 0) = false := by simp; omega
            have hp0 : (0 : Int) < (j : Int) := by omega
            have hx : x.toNat < 128 := by omega
            go_wp2
            go_ret
            have HS := u64_or_step HA.out hj hxx (fun _ => by omega)
            have HE : r = _ := HN.out.symm.trans (numAt_end (by omega) (by omega))
            rw [HE]
            rw [Nat.mod_eq_of_lt hx] at HS
            exact ⟨ret_int (by simpa [hj9] using HS), hR1, hg.trans hg1⟩
      · have e9 : ((j : Int) == 9) = false := by simp; omega
        by_cases hj0 : j = 0
        · have hp0 : ¬ (0 : Int) < (j : Int) := by omega
          by_cases hx : x.toNat < 128
          · go_wp2
            go_ret
            have HS := u64_or_step HA.out hj hxx (fun _ => by omega)
            have HE : r = _ := HN.out.symm.trans (numAt_end (by omega) (by omega))
            rw [HE]
            rw [Nat.mod_eq_of_lt hx] at HS
            exact ⟨ret_int (by simpa [hj0] using HS), hR1, hg.trans hg1⟩
          · go_wp2
            go_roundw
            case measure => simp [intOf]; omega
            case rel =>
              have HS := u64_or_step HA.out hj hxx (fun _ => by omega)
              refine ⟨j + 1, acc + x.toNat % 128 * 128 ^ j, t, by omega, by go_num, ?_, acc_step HA.out, ?_, hR1, hg.trans hg1⟩
              · exact congrArg (Value.int .u64) (by simpa [hj0] using HS)
              · exact (numAt_on (by omega) hx).symm.trans HN.out
        · have hp0 : (0 : Int) < (j : Int) := by omega
          by_cases hx0 : x.toNat = 0
          · have hx0' : ((x.toNat : Int) == 0) = true := by simp; omega
            go_wp2
            go_ret
            have HE : r = _ := HN.out.symm.trans (numAt_bad (by omega))
            rw [HE]
            exact ⟨rfl, RdC.set1 h0 h1 f0 f1 hr hA hnc hc ha (SeenBy.err 102 a hka (by decide)), (hg.trans hg1).trans (grown_setCell _ _ _)⟩
          · have hx0' : ((x.toNat : Int) == 0) = false := by simp; omega
            by_cases hx : x.toNat < 128
            · go_wp2
              go_ret
              have HS := u64_or_step HA.out hj hxx (fun _ => by omega)
              have HE : r = _ := HN.out.symm.trans (numAt_end (by omega) (by omega))
              rw [HE]
              rw [Nat.mod_eq_of_lt hx] at HS
              exact ⟨ret_int (by simpa using HS), hR1, hg.trans hg1⟩
            · go_wp2
              go_roundw
              case measure => simp [intOf]; omega
              case rel =>
                have HS := u64_or_step HA.out hj hxx (fun _ => by omega)
                refine ⟨j + 1, acc + x.toNat % 128 * 128 ^ j, t, by omega, by go_num, ?_, acc_step HA.out, ?_, hR1, hg.trans hg1⟩
                · exact congrArg (Value.int .u64) (by simpa using HS)
                · exact (numAt_on (by omega) hx).symm.trans HN.out
end
end Go.Proofs.YtggplgmjonnliaaGreatDoor
