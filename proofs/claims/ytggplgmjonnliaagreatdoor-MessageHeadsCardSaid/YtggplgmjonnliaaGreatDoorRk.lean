/- What was put is what is read: of a Reader's answers, as functions of the bytes alone. -/
import Derived.Test.YtggplgmjonnliaaGreatDoorRt
import Derived.Test.YtggplgmjonnliaaGreatDoorNt
namespace Go.Proofs.YtggplgmjonnliaaGreatDoor
open Go.RowKit

theorem numAt_enc : ∀ (n u k acc : Nat) (t : List UInt8), u ≤ n → u * 128 ^ k < 18446744073709551616 → (0 < k → 0 < u) → numAt k acc (enc u ++ t) = (acc + u * 128 ^ k, t, 0) := by
  intro n
  induction n with
  | zero =>
    intro u k acc t hu h1 h2
    obtain rfl : u = 0 := by omega
    obtain rfl : k = 0 := by
      rcases Nat.eq_zero_or_pos k with h | h
      · exact h
      · exact absurd (h2 h) (by decide)
    rw [enc_small (by decide)]
    show numAt 0 acc (UInt8.ofNat 0 :: t) = _
    rw [numAt_end (by simp) (by decide)]
    simp
  | succ n ih =>
    intro u k acc t hu h1 h2
    have hk9 : k = 9 → u < 2 := by
      intro h
      subst h
      omega
    by_cases h : u < 128
    · rw [enc_small h]
      show numAt k acc (UInt8.ofNat u :: t) = _
      have e : (UInt8.ofNat u).toNat = u := by rw [UInt8.toNat_ofNat']; omega
      rw [numAt_end (by rw [e]; omega) (by rw [e]; exact h), e]
    · rw [enc_big (by omega)]
      show numAt k acc (UInt8.ofNat (u % 128 + 128) :: (enc (u / 128) ++ t)) = _
      have e : (UInt8.ofNat (u % 128 + 128)).toNat = u % 128 + 128 := by rw [UInt8.toNat_ofNat']; omega
      have e3 : u / 128 * 128 ^ (k + 1) + u % 128 * 128 ^ k = u * 128 ^ k := by
        rw [Nat.pow_succ, Nat.mul_comm (128 ^ k) 128, ← Nat.mul_assoc, ← Nat.add_mul]
        congr 1
        omega
      rw [numAt_on (by rw [e]; omega) (by rw [e]; omega), e, show (u % 128 + 128) % 128 = u % 128 from by omega]
      rw [ih (u / 128) (k + 1) _ t (by omega) (by omega) (by omega)]
      congr 1
      omega

theorem intSays_in {lo hi n : Int} {t : List UInt8} (h0 : -9223372036854775808 ≤ n) (h1 : n ≤ 9223372036854775807) (hlo : lo ≤ n) (hhi : n ≤ hi) : intSays lo hi (enc (zig n) ++ t) 0 = (n, t, 0) := by
  have h := numAt_enc (zig n) (zig n) 0 0 t (Nat.le_refl _) (by simpa using zig_lt h0 h1) (by omega)
  simp only [Nat.pow_zero, Nat.mul_one, Nat.zero_add] at h
  unfold intSays
  rw [if_neg (by simp), h]
  simp only
  rw [if_neg (by simp), zag_zig, if_neg (by omega)]
theorem intSays_out {lo hi n : Int} {t : List UInt8} (h0 : -9223372036854775808 ≤ n) (h1 : n ≤ 9223372036854775807) (h : n < lo ∨ hi < n) : intSays lo hi (enc (zig n) ++ t) 0 = (0, t, 107) := by
  have h' := numAt_enc (zig n) (zig n) 0 0 t (Nat.le_refl _) (by simpa using zig_lt h0 h1) (by omega)
  simp only [Nat.pow_zero, Nat.mul_one, Nat.zero_add] at h'
  unfold intSays
  rw [if_neg (by simp), h']
  simp only
  rw [if_neg (by simp), zag_zig, if_pos h]
theorem intSays_err {lo hi : Int} {l : List UInt8} {e : Int} (he : e ≠ 0) : intSays lo hi l e = (0, l, e) := by simp [intSays, he]

theorem textSays_in {most : Int} {s : ByteArray} {t : List UInt8} (hs : s.size ≤ 2147483647) (hm : (s.size : Int) ≤ most) : textSays most (textOf s ++ t) 0 = (s.data.toList, t, 0) := by
  have hl : s.data.toList.length = s.size := by simp
  have h := intSays_in (lo := 0) (hi := 2147483647) (n := s.size) (t := s.data.toList ++ t) (by omega) (by omega) (by omega) (by omega)
  unfold textSays textOf
  rw [List.append_assoc, h]
  simp only
  rw [if_neg (by simp), if_neg (by omega), if_neg (by rw [List.length_append, hl]; omega), Int.toNat_natCast, ← hl, List.take_left, List.drop_left]
theorem textSays_long {most : Int} {s : ByteArray} {t : List UInt8} (hs : s.size ≤ 2147483647) (hm : most < (s.size : Int)) : textSays most (textOf s ++ t) 0 = ([], s.data.toList ++ t, 105) := by
  have h := intSays_in (lo := 0) (hi := 2147483647) (n := s.size) (t := s.data.toList ++ t) (by omega) (by omega) (by omega) (by omega)
  unfold textSays textOf
  rw [List.append_assoc, h]
  simp only
  rw [if_neg (by simp), if_pos hm]
theorem textSays_err {most : Int} {l : List UInt8} {e : Int} (he : e ≠ 0) : textSays most l e = ([], l, e) := by
  unfold textSays
  rw [intSays_err he]
  simp only
  rw [if_pos he]
theorem flagSays_in {f : Bool} {t : List UInt8} : flagSays (flagOf f :: t) 0 = (f, t, 0) := by
  cases f <;> simp [flagSays, flagOf]
theorem flagSays_err {l : List UInt8} {e : Int} (he : e ≠ 0) : flagSays l e = (false, l, e) := by simp [flagSays, he]
theorem ba_toList (s : ByteArray) : (⟨s.data.toList.toArray⟩ : ByteArray) = s := by cases s; simp
theorem textsOf_drop {ss : List ByteArray} {j : Nat} (h : j < ss.length) : textsOf (ss.drop j) = textOf ss[j] ++ textsOf (ss.drop (j + 1)) := by
  rw [List.drop_eq_getElem_cons h]
  simp only [textsOf, List.flatMap_cons]
theorem encs_drop {ns : List Int} {j : Nat} (h : j < ns.length) : encs (ns.drop j) = enc (zig ns[j]) ++ encs (ns.drop (j + 1)) := by
  rw [List.drop_eq_getElem_cons h]
  simp only [encs, List.flatMap_cons]
end Go.Proofs.YtggplgmjonnliaaGreatDoor
