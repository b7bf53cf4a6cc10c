/- A walk of the document's own sum. -/
import Derived.Test.YtcgcacnlafdggaaDoorWa
namespace Go.Proofs.YtcgcacnlafdggaaDoor
open Go.RowKit

theorem u32_and1 (a : BitVec 32) : Go.bits .and .u32 (u a) 1 = if a.getLsbD 0 then 1 else 0 := by
  have e : BitVec.ofInt 32 (u a) &&& BitVec.ofInt 32 1 = a &&& 1#32 := by rw [ofInt_u]; rfl
  show IntKind.u32.wrap ((BitVec.ofInt 32 (u a) &&& BitVec.ofInt 32 1).toNat : Int) = _
  rw [e, wrap_u]
  unfold u
  rw [BitVec.toNat_and, show (1#32).toNat = 1 from rfl, Nat.and_one_is_mod]
  have : a.getLsbD 0 = decide (a.toNat % 2 = 1) := by
    simp only [BitVec.getLsbD, Nat.testBit, Nat.shiftRight_zero, Nat.one_and_eq_mod_two]
    rw [Bool.eq_iff_iff]; simp
  rw [this]
  by_cases h : a.toNat % 2 = 1
  · simp [h]
  · have : a.toNat % 2 = 0 := by omega
    simp [this]
theorem u32_half (a : BitVec 32) : u a / (2 : Int) = u (a >>> 1) := by
  unfold u
  rw [BitVec.toNat_ushiftRight, Nat.shiftRight_eq_div_pow]; rfl
theorem u32_poly (a : BitVec 32) : Go.bits .xor .u32 (u a) 3988292384 = u (a ^^^ 0xEDB88320#32) := u32_xor a 0xEDB88320#32
theorem bit_odd {a : BitVec 32} (h : a.getLsbD 0 = true) : (a >>> 1) ^^^ 0xEDB88320#32 = Crc.bit a := by unfold Crc.bit; rw [h]; rfl
theorem bit_ev {a : BitVec 32} (h : a.getLsbD 0 = false) : a >>> 1 = Crc.bit a := (Crc.bit_even h).symm
theorem bits_succ (k : Nat) (a : BitVec 32) : Crc.bits (k + 1) a = Crc.bit (Crc.bits k a) := by rw [Crc.bits_add k 1]; rfl

theorem u32_and1_odd {a : BitVec 32} (h : a.getLsbD 0 = true) : Go.bits .and .u32 (u a) 1 = 1 := by rw [u32_and1, h]; rfl
theorem u32_and1_even {a : BitVec 32} (h : a.getLsbD 0 = false) : Go.bits .and .u32 (u a) 1 = 0 := by rw [u32_and1, h]; rfl

attribute [local go_sem] u32_xor u32_half u32_poly u32_mod in
set_option maxHeartbeats 800000 in
theorem add_any (s : BitVec 32) (b : UInt8) (w : World) :
    Calls Tryd.prog 30 #[.int .u32 (u s), .int .u8 b.toNat] w fun e w' => e = .returned (.int .u32 (u (Crc.byte s b))) ∧ w = w' := by
  rw [← u_w8 b]
  go_enter Tryd.func30, Tryd.ntmps30
  go_wp2
  go_loop [0, 5] (fun r i => ∃ k : Nat, k ≤ 8 ∧ i = .int .i64 k ∧ r = .int .u32 (u (Crc.bits k (s ^^^ w8 b)))) (fun _ i => 8 - (intOf i).toNat)
  case atStart => exact ⟨0, by omega, rfl, rfl⟩
  case round =>
    obtain ⟨k, hk, rfl, rfl⟩ := hrel
    have H := Lib.hid (bits_succ k (s ^^^ w8 b))
    by_cases hlt : k < 8
    · generalize Crc.bits k (s ^^^ w8 b) = x at *
      cases hx : x.getLsbD 0 with
      | true =>
        have HX := Lib.hid (bit_odd hx)
        have h2 := u32_and1_odd hx
        clear hx
        go_wp2
        go_round
        case rel => exact ⟨k + 1, by omega, by go_num, by rw [H.out, HX.out]⟩
        case measure => simp [intOf]; omega
      | false =>
        have HX := Lib.hid (bit_ev hx)
        have h2 := u32_and1_even hx
        clear hx
        go_wp2
        go_round
        case rel => exact ⟨k + 1, by omega, by go_num, by rw [H.out, HX.out]⟩
        case measure => simp [intOf]; omega
    · have hk8 : k = 8 := by omega
      subst hk8
      go_wp2
      go_ret
      exact ⟨rfl, rfl⟩

attribute [local go_sem] u32_not in
set_option maxHeartbeats 800000 in
theorem refsum_any (w : World) (A : Option Addr) (n c : Nat) (l : List UInt8) (hr : Bytes w w.heap.size A n l) (hn : n ≤ 140737488355328) :
    Calls Tryd.prog 25 #[.slice A n c] w fun e w' => e = .returned (.int .u32 (u (Crc.sum l))) ∧ w = w' := by
  go_enter Tryd.func25, Tryd.ntmps25
  go_wp2
  go_loop [3, 4] (fun r i => ∃ k : Nat, k ≤ n ∧ i = .int .i64 k ∧ r = .int .u32 (u (Crc.run (~~~ 0#32) (l.take k)))) (fun _ i => n - (intOf i).toNat)
  case atStart => exact ⟨0, Nat.zero_le _, rfl, rfl⟩
  case round =>
    obtain ⟨k, hk, rfl, rfl⟩ := hrel
    by_cases hlt : k < n
    · obtain ⟨b, off, rfl, hb, hc⟩ := hr.at_ hlt
      have hk' : k < l.length := by rw [hr.len]; exact hlt
      have H := Lib.hid (run_take (~~~ 0#32) l k hk')
      generalize Crc.run (~~~ 0#32) (l.take k) = r at *
      generalize l[k]'hk' = x at *
      go_wp2_with (go_at_call 30; refine (add_any r x _).mono ?_; rintro e w1 ⟨rfl, rfl⟩)
      go_round
      case rel => exact ⟨k + 1, by omega, by go_num, by rw [H.out]⟩
      case measure => simp [intOf]; omega
    · have hkn : l.take k = l := List.take_of_length_le (by rw [hr.len]; omega)
      rw [hkn]
      go_wp2
      go_ret
      exact ⟨rfl, rfl⟩
end Go.Proofs.YtcgcacnlafdggaaDoor
