/- Bytes that are cut off: a Reader tells that they end too early. -/
import Derived.Test.YtlglinclendkkaaDoorRk
namespace Go.Proofs.YtlglinclendkkaaDoor
open Go.RowKit

theorem numAt_cut : ∀ (n u k acc m : Nat), u ≤ n → u * 128 ^ k < 18446744073709551616 → m < (enc u).length → numAt k acc ((enc u).take m) = (0, [], 101) := by
  intro n
  induction n with
  | zero =>
    intro u k acc m hu h1 hm
    obtain rfl : u = 0 := by omega
    rw [enc_small (by decide)] at hm
    obtain rfl : m = 0 := by simpa using hm
    rfl
  | succ n ih =>
    intro u k acc m hu h1 hm
    by_cases h : u < 128
    · rw [enc_small h] at hm
      obtain rfl : m = 0 := by simpa using hm
      rfl
    · have hk9 : k = 9 → u < 2 := by
        intro h
        subst h
        omega
      rw [enc_big (by omega)] at hm ⊢
      cases m with
      | zero => rfl
      | succ m =>
        show numAt k acc (UInt8.ofNat (u % 128 + 128) :: (enc (u / 128)).take m) = _
        have e : (UInt8.ofNat (u % 128 + 128)).toNat = u % 128 + 128 := by rw [UInt8.toNat_ofNat']; omega
        have e3 : u / 128 * 128 ^ (k + 1) + u % 128 * 128 ^ k = u * 128 ^ k := by
          rw [Nat.pow_succ, Nat.mul_comm (128 ^ k) 128, ← Nat.mul_assoc, ← Nat.add_mul]
          congr 1
          omega
        rw [numAt_on (by rw [e]; omega) (by rw [e]; omega)]
        exact ih (u / 128) (k + 1) _ m (by omega) (by omega) (by simpa using hm)

/-- A Reader's state is what is left of T, cut off; or it has told so. -/
def CutOf (T L : List UInt8) (e : Int) : Prop := e = 101 ∨ (e = 0 ∧ ∃ m, m < T.length ∧ L = T.take m)
theorem CutOf.int {n : Int} {T L : List UInt8} {e : Int} (h0 : -9223372036854775808 ≤ n) (h1 : n ≤ 9223372036854775807) (h : CutOf (enc (zig n) ++ T) L e) :
    CutOf T (intSays (-9223372036854775808) 9223372036854775807 L e).2.1 (intSays (-9223372036854775808) 9223372036854775807 L e).2.2 := by
  rcases h with rfl | ⟨rfl, m, hm, rfl⟩
  · rw [intSays_err (by decide)]
    exact .inl rfl
  · by_cases hc : m < (enc (zig n)).length
    · rw [List.take_append_of_le_length (by omega)]
      have := numAt_cut (zig n) (zig n) 0 0 m (Nat.le_refl _) (by simpa using zig_lt h0 h1) hc
      unfold intSays
      rw [if_neg (by simp), this]
      simp only
      rw [if_pos (by decide)]
      exact .inl rfl
    · rw [List.take_append, List.take_of_length_le (by omega), intSays_in h0 h1 h0 h1]
      rw [List.length_append] at hm
      exact .inr ⟨rfl, _, by omega, rfl⟩
theorem CutOf.text {most : Int} {s : ByteArray} {T L : List UInt8} {e : Int} (hs : s.size ≤ 2147483647) (hm : (s.size : Int) ≤ most) (h : CutOf (textOf s ++ T) L e) :
    CutOf T (textSays most L e).2.1 (textSays most L e).2.2 := by
  have hl : s.data.toList.length = s.size := by simp
  have z0 : (-9223372036854775808 : Int) ≤ s.size := by omega
  have z1 : (s.size : Int) ≤ 9223372036854775807 := by omega
  rcases h with rfl | ⟨rfl, m, hm', rfl⟩
  · rw [textSays_err (by decide)]
    exact .inl rfl
  · unfold textOf at hm' ⊢
    rw [List.append_assoc] at hm' ⊢
    by_cases hc : m < (enc (zig s.size)).length
    · rw [List.take_append_of_le_length (by omega)]
      have := numAt_cut (zig s.size) (zig s.size) 0 0 m (Nat.le_refl _) (by simpa using zig_lt z0 z1) hc
      have hi : intSays 0 2147483647 ((enc (zig s.size)).take m) 0 = (0, [], 101) := by
        unfold intSays
        rw [if_neg (by simp), this]
        simp only
        rw [if_pos (by decide)]
      unfold textSays
      rw [hi]
      simp only
      rw [if_pos (by decide)]
      exact .inl rfl
    · rw [List.take_append, List.take_of_length_le (by omega)]
      rw [List.length_append, List.length_append, hl] at hm'
      generalize hq : m - (enc (zig s.size)).length = q at *
      have hi := intSays_in (lo := 0) (hi := 2147483647) (n := s.size) (t := (s.data.toList ++ T).take q) z0 z1 (by omega) (by omega)
      by_cases hcq : q < s.size
      · unfold textSays
        rw [hi]
        simp only
        rw [if_neg (by simp), if_neg (by omega), if_pos (by rw [List.length_take, List.length_append, hl]; omega)]
        exact .inl rfl
      · unfold textSays
        rw [hi]
        simp only
        rw [if_neg (by simp), if_neg (by omega), if_neg (by rw [List.length_take, List.length_append, hl]; omega), Int.toNat_natCast]
        refine .inr ⟨rfl, q - s.size, by omega, ?_⟩
        show ((s.data.toList ++ T).take q).drop s.size = T.take (q - s.size)
        rw [List.drop_take, List.drop_append, hl, Nat.sub_self, List.drop_zero, List.drop_eq_nil_of_le (by omega), List.nil_append]
theorem CutOf.flag {f : UInt8} {L : List UInt8} {e : Int} (h : CutOf [f] L e) : (flagSays L e).2.2 = 101 := by
  rcases h with rfl | ⟨rfl, m, hm, rfl⟩
  · rw [flagSays_err (by decide)]
  · obtain rfl : m = 0 := by simpa using hm
    rfl

theorem seenAs_of {ads : List Addr} {v : Value} {c : Int} (h : SeenBy (fun c => if 101 ≤ c then ads[(c - 101).toNat]? else none) v c) : SeenAs ads v c := by
  cases h with
  | nil => exact SeenAs.nil
  | err _ a h hc =>
    split at h
    · next hge =>
      have := SeenAs.err (ads := ads) _ a h
      rw [show (101 : Int) + ((c - 101).toNat : Nat) = c from by omega] at this
      exact this
    · cases h
end Go.Proofs.YtlglinclendkkaaDoor
