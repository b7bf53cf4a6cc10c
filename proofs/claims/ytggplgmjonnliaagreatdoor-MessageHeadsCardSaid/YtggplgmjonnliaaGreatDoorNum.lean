/- Numbers in bytes: the mathematics. -/
import Derived.Test.YtggplgmjonnliaaGreatDoorBase
import Derived.KernelRfl
namespace Go.Proofs.YtggplgmjonnliaaGreatDoor
open Go.RowKit

/-- A number without a sign. -/
def zig (n : Int) : Nat := if 0 ≤ n then (2 * n).toNat else (-2 * n - 1).toNat
/-- The number of which zig made u. -/
def zag (u : Nat) : Int := if u % 2 = 0 then (u / 2 : Int) else -(u / 2 : Int) - 1
theorem zag_zig (n : Int) : zag (zig n) = n := by
  unfold zag zig
  split <;> split <;> omega
theorem zig_zag (u : Nat) : zig (zag u) = u := by
  unfold zag zig
  split <;> split <;> omega
theorem zig_lt {n : Int} (h0 : -9223372036854775808 ≤ n) (h1 : n ≤ 9223372036854775807) : zig n < 18446744073709551616 := by
  unfold zig
  split <;> omega
theorem zag_bounds {u : Nat} (h : u < 18446744073709551616) : -9223372036854775808 ≤ zag u ∧ zag u ≤ 9223372036854775807 := by
  unfold zag
  split <;> omega

/-- The fewest bytes of a number without a sign, seven bits a byte. -/
def enc (u : Nat) : List UInt8 := if u < 128 then [UInt8.ofNat u] else UInt8.ofNat (u % 128 + 128) :: enc (u / 128)
termination_by u
decreasing_by omega

theorem enc_small {u : Nat} (h : u < 128) : enc u = [UInt8.ofNat u] := by rw [enc]; simp [h]
theorem enc_big {u : Nat} (h : 128 ≤ u) : enc u = UInt8.ofNat (u % 128 + 128) :: enc (u / 128) := by
  conv => lhs; rw [enc]
  simp [Nat.not_lt.2 h]
theorem enc_pos (u : Nat) : 0 < (enc u).length := by
  by_cases h : u < 128
  · simp [enc_small h]
  · simp [enc_big (Nat.not_lt.1 h)]
theorem enc_len : ∀ (k u : Nat), u < 128 ^ (k + 1) → (enc u).length ≤ k + 1
  | 0, u, h => by simp [enc_small (show u < 128 by simpa using h)]
  | k + 1, u, h => by
    by_cases hu : u < 128
    · simp [enc_small hu]
    · rw [enc_big (Nat.not_lt.1 hu)]
      have : u / 128 < 128 ^ (k + 1) := by
        rw [Nat.div_lt_iff_lt_mul (by decide), ← Nat.pow_succ]
        exact h
      have := enc_len k _ this
      simp only [List.length_cons]; omega
theorem enc_len10 {u : Nat} (h : u < 18446744073709551616) : (enc u).length ≤ 10 := enc_len 9 u (by omega)

theorem enc_len_iff : ∀ (n u : Nat), n + 1 < (enc u).length ↔ 128 ^ (n + 1) ≤ u
  | 0, u => by
    by_cases hu : u < 128
    · simp [enc_small hu]; omega
    · rw [enc_big (Nat.not_lt.1 hu)]
      have := enc_pos (u / 128)
      simp only [List.length_cons]; omega
  | n + 1, u => by
    by_cases hu : u < 128
    · have : 128 ≤ 128 ^ (n + 1 + 1) := Nat.le_self_pow (by omega) 128
      simp [enc_small hu]; omega
    · rw [enc_big (Nat.not_lt.1 hu)]
      have h := enc_len_iff n (u / 128)
      rw [Nat.le_div_iff_mul_le (by decide), ← Nat.pow_succ] at h
      simp only [List.length_cons]
      omega
theorem ofNat_inj {x y : Nat} (hx : x < 256) (hy : y < 256) (h : UInt8.ofNat x = UInt8.ofNat y) : x = y := by
  have := congrArg UInt8.toNat h
  rw [UInt8.toNat_ofNat', UInt8.toNat_ofNat'] at this
  omega
theorem enc_inj {u v : Nat} (h : enc u = enc v) : u = v := by
  induction u using Nat.strongRecOn generalizing v with
  | ind u ih =>
    by_cases hu : u < 128
    · by_cases hv : v < 128
      · rw [enc_small hu, enc_small hv] at h
        injection h with h _
        exact ofNat_inj (by omega) (by omega) h
      · rw [enc_small hu, enc_big (Nat.not_lt.1 hv)] at h
        injection h with h _
        have := ofNat_inj (by omega) (by omega) h
        omega
    · by_cases hv : v < 128
      · rw [enc_small hv, enc_big (Nat.not_lt.1 hu)] at h
        injection h with h _
        have := ofNat_inj (by omega) (by omega) h
        omega
      · rw [enc_big (Nat.not_lt.1 hu), enc_big (Nat.not_lt.1 hv)] at h
        injection h with h1 h2
        have e1 := ofNat_inj (by omega) (by omega) h1
        have e2 := ih (u / 128) (by omega) h2
        omega
theorem zig_inj {a b : Int} (h : zig a = zig b) : a = b := by rw [← zag_zig a, h, zag_zig]
theorem enc_beq (a b : Int) : (enc (zig a) == enc (zig b)) = (a == b) := by
  by_cases h : a = b
  · subst h; simp
  · rw [beq_eq_false_iff_ne.2 h, beq_eq_false_iff_ne.2 fun e => h (zig_inj (enc_inj e))]

/-! ### bits, in the walk's spelling -/
theorem u8_or128 : ∀ z : Fin 256, Go.bits .or .u8 (z.val : Int) 128 = ((z.val % 128 + 128 : Nat) : Int) := by decide +kernel
theorem u8_clear128 : ∀ z : Fin 256, Go.bits .andNot .u8 (z.val : Int) 128 = ((z.val % 128 : Nat) : Int) := by decide +kernel
theorem u8_and127 : ∀ z : Fin 256, Go.bits .and .u8 (z.val : Int) 127 = ((z.val % 128 : Nat) : Int) := by decide +kernel
theorem ofInt64 (u : Nat) : BitVec.ofInt 64 (u : Int) = BitVec.ofNat 64 u := by
  rw [BitVec.ofInt_natCast]
theorem wrap_toNat64 (b : BitVec 64) : IntKind.u64.wrap (b.toNat : Int) = (b.toNat : Int) := by
  have := b.isLt
  rw [IntKind.wrap_u64]; omega
theorem u64_xor_zero {u : Nat} (h : u < 18446744073709551616) : Go.bits .xor .u64 (u : Int) 0 = (u : Int) := by
  show IntKind.u64.wrap ((BitVec.ofInt 64 (u : Int) ^^^ BitVec.ofInt 64 0).toNat : Int) = _
  rw [wrap_toNat64, ofInt64 u, show BitVec.ofInt 64 0 = 0#64 from rfl, BitVec.xor_zero, BitVec.toNat_ofNat, Nat.mod_eq_of_lt h]
theorem u64_xor_ones {u : Nat} (h : u < 18446744073709551616) : Go.bits .xor .u64 (u : Int) 18446744073709551615 = ((18446744073709551615 - u : Nat) : Int) := by
  show IntKind.u64.wrap ((BitVec.ofInt 64 (u : Int) ^^^ BitVec.ofInt 64 18446744073709551615).toNat : Int) = _
  rw [wrap_toNat64, ofInt64 u, show BitVec.ofInt 64 18446744073709551615 = BitVec.allOnes 64 from by decide, BitVec.xor_allOnes, BitVec.toNat_not, BitVec.toNat_ofNat, Nat.mod_eq_of_lt (by simpa using h)]
theorem u64_xor_ones' {u : Nat} (h : u < 18446744073709551616) : Go.bits .xor .u64 18446744073709551615 (u : Int) = ((18446744073709551615 - u : Nat) : Int) := by
  show IntKind.u64.wrap ((BitVec.ofInt 64 18446744073709551615 ^^^ BitVec.ofInt 64 (u : Int)).toNat : Int) = _
  rw [BitVec.xor_comm]
  exact u64_xor_ones h
theorem byte_more (x : Nat) : Go.bits .or .u8 ((x : Int) % 256) 128 = ((UInt8.ofNat (x % 128 + 128)).toNat : Int) := by
  have h := u8_or128 ⟨x % 256, Nat.mod_lt _ (by decide)⟩
  simp only at h
  rw [show ((x : Int) % 256) = ((x % 256 : Nat) : Int) from by omega, h, UInt8.toNat_ofNat']
  omega
theorem byte_last {x : Nat} (h : x < 128) : (x : Int) = ((UInt8.ofNat x).toNat : Int) := by
  rw [UInt8.toNat_ofNat']; omega
theorem u64_or_step {acc j x : Nat} (hacc : acc < 128 ^ j) (hj : j ≤ 9) (hx : x < 256) (h9 : j = 9 → x ≤ 1) :
    Go.bits .or .u64 (acc : Int) (IntKind.u64.wrap (IntKind.u64.wrap (Go.bits .andNot .u8 (x : Int) 128) * 2 ^ (7 * j))) = ((acc + x % 128 * 128 ^ j : Nat) : Int) := by
  have h1 := u8_clear128 ⟨x, hx⟩
  simp only at h1
  have e1 : IntKind.u64.wrap (((x % 128 : Nat) : Int)) = ((x % 128 : Nat) : Int) := by
    rw [IntKind.wrap_u64]; omega
  have e2 : (2 : Int) ^ (7 * j) = ((128 ^ j : Nat) : Int) := by
    rw [Int.pow_mul]
    simp
  have hb : x % 128 * 128 ^ j < 18446744073709551616 := by
    by_cases h : j = 9
    · subst h
      have := h9 rfl
      have : x % 128 ≤ 1 := by omega
      have := Nat.mul_le_mul_right (128 ^ 9) this
      omega
    · have h2 : 128 ^ j ≤ 128 ^ 8 := Nat.pow_le_pow_right (by decide) (by omega)
      have h3 : x % 128 ≤ 127 := by omega
      have := Nat.mul_le_mul h3 h2
      omega
  have hacc' : acc < 18446744073709551616 := by
    have : 128 ^ j ≤ 128 ^ 9 := Nat.pow_le_pow_right (by decide) hj
    omega
  have hor : acc ||| (x % 128 * 128 ^ j) = acc + x % 128 * 128 ^ j := by
    have e3 : 128 ^ j = 2 ^ (7 * j) := by rw [Nat.pow_mul]
    rw [Nat.or_comm, Nat.mul_comm, e3, ← Nat.two_pow_add_eq_or_of_lt (by rw [← e3]; exact hacc), Nat.add_comm]
  have hsum : acc + x % 128 * 128 ^ j < 18446744073709551616 := by
    rw [← hor]
    exact Nat.or_lt_two_pow (n := 64) hacc' hb
  rw [h1, e1, e2, ← Int.natCast_mul]
  generalize x % 128 * 128 ^ j = y at *
  have e4 : IntKind.u64.wrap ((y : Nat) : Int) = (y : Int) := by rw [IntKind.wrap_u64]; omega
  rw [e4]
  show IntKind.u64.wrap ((BitVec.ofInt 64 (acc : Int) ||| BitVec.ofInt 64 (y : Int)).toNat : Int) = _
  rw [wrap_toNat64, ofInt64, ofInt64, BitVec.toNat_or, BitVec.toNat_ofNat, BitVec.toNat_ofNat, Nat.mod_eq_of_lt hacc', Nat.mod_eq_of_lt hb, hor]
theorem u64_and1 {u : Nat} (h : u < 18446744073709551616) : Go.bits .and .u64 (u : Int) 1 = ((u % 2 : Nat) : Int) := by
  show IntKind.u64.wrap ((BitVec.ofInt 64 (u : Int) &&& BitVec.ofInt 64 1).toNat : Int) = _
  rw [wrap_toNat64, ofInt64, show BitVec.ofInt 64 1 = 1#64 from rfl, BitVec.toNat_and, BitVec.toNat_ofNat, Nat.mod_eq_of_lt h]
  congr 1
  exact Nat.and_one_is_mod u
theorem i64_xor_zero {m : Nat} (h : m < 9223372036854775808) : Go.bits .xor .i64 (m : Int) 0 = (m : Int) := by
  show IntKind.i64.wrap ((BitVec.ofInt 64 (m : Int) ^^^ BitVec.ofInt 64 0).toNat : Int) = _
  rw [ofInt64, show BitVec.ofInt 64 0 = 0#64 from rfl, BitVec.xor_zero, BitVec.toNat_ofNat, Nat.mod_eq_of_lt (by omega), IntKind.wrap_i64]
  omega
theorem i64_xor_ones {m : Nat} (h : m < 9223372036854775808) : Go.bits .xor .i64 (m : Int) (-1) = -(m : Int) - 1 := by
  show IntKind.i64.wrap ((BitVec.ofInt 64 (m : Int) ^^^ BitVec.ofInt 64 (-1)).toNat : Int) = _
  rw [ofInt64, show BitVec.ofInt 64 (-1) = BitVec.allOnes 64 from by decide, BitVec.xor_allOnes, BitVec.toNat_not, BitVec.toNat_ofNat, Nat.mod_eq_of_lt (by omega), IntKind.wrap_i64]
  omega
theorem sign_back {u : Nat} (h : u < 18446744073709551616) : Go.bits .xor .i64 ((u : Int) / 2) (wrap64 (-wrap64 (Go.bits .and .u64 (u : Int) 1))) = zag u := by
  rw [u64_and1 h, show (u : Int) / 2 = ((u / 2 : Nat) : Int) from by omega]
  unfold zag
  split
  · next h2 =>
    rw [h2, show wrap64 (-wrap64 ((0 : Nat) : Int)) = 0 from by unfold wrap64; omega, i64_xor_zero (by omega)]
    omega
  · next h2 =>
    rw [show u % 2 = 1 from by omega, show wrap64 (-wrap64 ((1 : Nat) : Int)) = -1 from by unfold wrap64; omega, i64_xor_ones (by omega)]
    omega
theorem u64_or_step' {acc j x : Nat} (hacc : acc < 128 ^ j) (hj : j ≤ 9) (hx : x < 256) (h9 : j = 9 → x ≤ 1) :
    Go.bits .or .u64 (acc : Int) (IntKind.u64.wrap (IntKind.u64.wrap (Go.bits .and .u8 (x : Int) 127) * 2 ^ (7 * j))) = ((acc + x % 128 * 128 ^ j : Nat) : Int) := by
  have h := u64_or_step hacc hj hx h9
  have h1 := u8_clear128 ⟨x, hx⟩
  have h2 := u8_and127 ⟨x, hx⟩
  simp only at h1 h2
  rw [h1] at h
  rw [h2]
  exact h
theorem zag_even {u : Nat} (h : u % 2 = 0) : (u : Int) / 2 = zag u := by
  unfold zag
  rw [if_pos h]
theorem zag_odd {u : Nat} (h0 : u < 18446744073709551616) (h : ¬ u % 2 = 0) : wrap64 (Go.bits .xor .u64 IntKind.u64.max ((u : Int) / 2)) = zag u := by
  rw [show IntKind.u64.max = 18446744073709551615 from rfl, show (u : Int) / 2 = ((u / 2 : Nat) : Int) from by omega, u64_xor_ones' (by omega)]
  unfold zag wrap64
  rw [if_neg h]
  omega
end Go.Proofs.YtggplgmjonnliaaGreatDoor
