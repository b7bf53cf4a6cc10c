/- Words for walks of crc: 32-bit words in the walk's spelling. -/
import Derived.Test.YtcgcacnlafdggaaDoorMath
import Derived.Test.YtcgcacnlafdggaaDoorBase
namespace Go.Proofs.YtcgcacnlafdggaaDoor
open Go.RowKit

/-! ### 32 bits, in the walk's spelling: the number is kept closed, so that the walk leaves it as it is -/
def u (s : BitVec 32) : Int := (s.toNat : Int)
def lo (s : BitVec 32) : Nat := s.toNat % 16
theorem u_nonneg (a : BitVec 32) : 0 ≤ u a := by unfold u; omega
theorem u_lt (a : BitVec 32) : u a < 4294967296 := by have := a.isLt; unfold u; omega
theorem u_inj {a b : BitVec 32} (h : u a = u b) : a = b := BitVec.eq_of_toNat_eq (by unfold u at h; omega)
theorem u_beq (a b : BitVec 32) : (u a == u b) = (a == b) := by
  by_cases h : a = b
  · subst h; simp
  · rw [beq_eq_false_iff_ne.2 h, beq_eq_false_iff_ne.2 (fun e => h (u_inj e))]
theorem u_zero : u 0#32 = 0 := rfl
theorem lo_lt (s : BitVec 32) : ((lo s : Nat) : Int) < 16 := by unfold lo; omega
theorem lo_nonneg (s : BitVec 32) : 0 ≤ ((lo s : Nat) : Int) := by omega
theorem ofInt_u (a : BitVec 32) : BitVec.ofInt 32 (u a) = a := by
  unfold u
  rw [BitVec.ofInt_natCast]; simp
theorem wrap_u (a : BitVec 32) : IntKind.u32.wrap (a.toNat : Int) = u a := by
  have := a.isLt
  rw [IntKind.wrap_u32']; unfold u; omega
theorem u32_not (a : BitVec 32) : Go.bits .xor .u32 IntKind.u32.max (u a) = u (~~~ a) := by
  show IntKind.u32.wrap ((BitVec.ofInt 32 4294967295 ^^^ BitVec.ofInt 32 (u a)).toNat : Int) = _
  have e : BitVec.ofInt 32 4294967295 ^^^ BitVec.ofInt 32 (u a) = ~~~ a := by
    rw [ofInt_u, show BitVec.ofInt 32 4294967295 = BitVec.allOnes 32 from by decide, BitVec.allOnes_xor]
  rw [e, wrap_u]
theorem u32_xor (a b : BitVec 32) : Go.bits .xor .u32 (u a) (u b) = u (a ^^^ b) := by
  show IntKind.u32.wrap ((BitVec.ofInt 32 (u a) ^^^ BitVec.ofInt 32 (u b)).toNat : Int) = _
  rw [ofInt_u, ofInt_u, wrap_u]
theorem u32_and15 (a : BitVec 32) : Go.bits .and .u32 (u a) 15 = ((lo a : Nat) : Int) := by
  have e : BitVec.ofInt 32 (u a) &&& BitVec.ofInt 32 15 = a &&& 15#32 := by rw [ofInt_u]; rfl
  show IntKind.u32.wrap ((BitVec.ofInt 32 (u a) &&& BitVec.ofInt 32 15).toNat : Int) = _
  rw [e, wrap_u]
  unfold u lo
  rw [BitVec.toNat_and]
  congr 1
  exact Nat.and_two_pow_sub_one_eq_mod a.toNat 4
theorem u32_shr4 (a : BitVec 32) : u a / (16 : Int) = u (a >>> 4) := by
  unfold u
  rw [BitVec.toNat_ushiftRight, Nat.shiftRight_eq_div_pow]; rfl
theorem u32_mod (a : BitVec 32) : u a % (4294967296 : Int) = u a := by
  have := u_nonneg a
  have := u_lt a
  omega
/-- A byte as 32 bits. -/
def w8 (b : UInt8) : BitVec 32 := BitVec.ofNat 32 b.toNat
theorem u32_shl_bit (i : Int) : ∃ j, j < 32 ∧ (2 : Int) ^ min (IntKind.u64.wrap (Go.bits .and .i64 i 31)).toNat 32 % (4294967296 : Int) = u (1#32 <<< j) := by
  have hj : (BitVec.ofInt 64 i &&& BitVec.ofInt 64 31).toNat < 32 := by
    rw [BitVec.toNat_and]
    exact Nat.lt_of_le_of_lt Nat.and_le_right (by decide)
  refine ⟨(BitVec.ofInt 64 i &&& BitVec.ofInt 64 31).toNat, hj, ?_⟩
  have e : Go.bits .and .i64 i 31 = (((BitVec.ofInt 64 i &&& BitVec.ofInt 64 31).toNat : Nat) : Int) := by
    show IntKind.i64.wrap ((BitVec.ofInt 64 i &&& BitVec.ofInt 64 31).toNat : Int) = _
    rw [IntKind.wrap_i64]; omega
  rw [e]
  generalize (BitVec.ofInt 64 i &&& BitVec.ofInt 64 31).toNat = j at *
  have e2 : IntKind.u64.wrap (j : Int) = (j : Int) := by rw [IntKind.wrap_u64]; omega
  rw [e2, Int.toNat_natCast, Nat.min_eq_left (by omega)]
  unfold u
  rw [BitVec.toNat_shiftLeft, Nat.shiftLeft_eq]
  simp
theorem byte_steps (r : BitVec 32) (x : UInt8) : Crc.tab (lo (Crc.tab (lo (r ^^^ w8 x)) ^^^ (r ^^^ w8 x) >>> 4)) ^^^ (Crc.tab (lo (r ^^^ w8 x)) ^^^ (r ^^^ w8 x) >>> 4) >>> 4 = Crc.byte r x := by
  have h1 := Crc.bits_four (r ^^^ w8 x)
  have h2 := Crc.bits_four (Crc.bits 4 (r ^^^ w8 x))
  rw [h1] at h2
  unfold Crc.byte
  rw [show (8 : Nat) = 4 + 4 from rfl, Crc.bits_add, show BitVec.ofNat 32 x.toNat = w8 x from rfl, h1, h2]
  rfl
theorem run_take (s : BitVec 32) (l : List UInt8) (k : Nat) (h : k < l.length) : Crc.run s (l.take (k + 1)) = Crc.byte (Crc.run s (l.take k)) l[k] := by
  rw [List.take_succ_eq_append_getElem h, Crc.run_append]; rfl
theorem u_w8 (b : UInt8) : u (w8 b) = (b.toNat : Int) := by
  have := b.toNat_lt
  unfold u w8
  rw [BitVec.toNat_ofNat, Nat.mod_eq_of_lt (by omega)]
end Go.Proofs.YtcgcacnlafdggaaDoor
