/- Walks of package num: a number put behind bytes. -/
import Derived.Test.YtggplgmjonnliaaGreatDoorNum
import Derived.Test.YtggplgmjonnliaaGreatDoorApp
import Derived.Test.YtggplgmjonnliaaGreatDoorClone
namespace Go.Proofs.YtggplgmjonnliaaGreatDoor
open Go.RowKit

theorem zig_neg1 {n : Int} (h0 : -9223372036854775808 ≤ n) (hn : n < 0) : IntKind.u64.wrap (IntKind.u64.wrap n * 2) = ((18446744073709551615 - zig n : Nat) : Int) := by
  rw [IntKind.wrap_u64, IntKind.wrap_u64]
  unfold zig
  split <;> omega
theorem zig_neg2 {n : Int} (h0 : -9223372036854775808 ≤ n) (hn : n < 0) : IntKind.u64.wrap (n / 9223372036854775808) = 18446744073709551615 := by
  rw [IntKind.wrap_u64]
  omega

set_option maxHeartbeats 400000 in
theorem withoutSign_any (n : Int) (w : World) (h0 : -9223372036854775808 ≤ n) (h1 : n ≤ 9223372036854775807) :
    Calls Tryz.prog 66 #[.int .i64 n] w fun e w' => e = .returned (.int .u64 ((zig n : Nat) : Int)) ∧ w = w' := by
  by_cases hn : 0 ≤ n
  · go_enter Tryz.func66, Tryz.ntmps66
    go_wp2
    go_ret
    refine ⟨ret_int ?_, rfl⟩
    have e1 : n * 2 = ((zig n : Nat) : Int) := by unfold zig; rw [if_pos hn]; omega
    have e2 : n / 9223372036854775808 = 0 := by omega
    have e3 := zig_lt h0 h1
    rw [e1, e2, u64_xor_zero e3]
  · go_enter Tryz.func66, Tryz.ntmps66
    go_wp2
    go_ret
    refine ⟨ret_int ?_, rfl⟩
    have e3 := zig_lt h0 h1
    rw [zig_neg1 h0 (by omega), zig_neg2 h0 (by omega), u64_xor_ones (by omega)]
    omega

set_option maxRecDepth 4000 in
set_option maxHeartbeats 800000 in
theorem appendNumber_any (A : Option Addr) (m c : Nat) (l : List UInt8) (n : Int) (w : World) (base : Nat) (h0 : -9223372036854775808 ≤ n) (h1 : n ≤ 9223372036854775807) (ho : OwnBytes w base 5 A m c l) (hb : base ≤ w.heap.size) (hm : m ≤ 35184372088832) :
    Calls Tryz.prog 39 #[.slice A m c, .int .i64 n] w fun e w' => ∃ A' c', e = .returned (.slice A' (m + (enc (zig n)).length) c') ∧ OwnBytes w' base 5 A' (m + (enc (zig n)).length) c' (l ++ enc (zig n)) ∧ Grew w w' (.slice A m c) (.slice A' (m + (enc (zig n)).length) c') := by
  obtain ⟨i0, hi0, hz0, hz1, hz2⟩ := info_parts info_u8
  have hL := enc_len10 (zig_lt h0 h1)
  have hZ := zig_lt h0 h1
  have hW := withoutSign_any n w h0 h1
  generalize zig n = z at *
  go_enter Tryz.func39, Tryz.ntmps39
  go_wp2_with fail
  refine hW.mono ?_
  rintro e w1 ⟨rfl, rfl⟩
  go_wp2_with fail
  go_loopw [0, 5] (fun v u wr => ∃ (p : List UInt8) (x : Nat), u = .int .u64 (x : Int) ∧ x ≤ z ∧ p ++ enc x = enc z ∧ ∃ A1 c1, v = .slice A1 (m + p.length) c1 ∧ OwnBytes wr base 5 A1 (m + p.length) c1 (l ++ p) ∧ Grew w wr (.slice A m c) (.slice A1 (m + p.length) c1)) (fun _ u _ => (intOf u).toNat)
  case atStart => exact ⟨[], z, rfl, Nat.le_refl _, rfl, A, c, rfl, by simpa using ho, Grew.refl _ _⟩
  case round =>
    obtain ⟨p, x, rfl, hxz, hpe, A1, c1, rfl, ho1, hg1⟩ := hrel
    have HP := Lib.hid hpe
    clear hpe
    obtain ⟨_, hs1⟩ : True ∧ w.heap.size ≤ wr.heap.size := ⟨trivial, hg1.size⟩
    have hpl : p.length ≤ 10 := by
      have := congrArg List.length HP.out
      simp only [List.length_append] at this
      omega
    by_cases hx : 128 ≤ x
    · have HE := Lib.hid (enc_big hx)
      go_wp2_with (at_builtin; refine append_byte rfl (.tmp 10) (.tmp 14) _ rfl 5 i0 _ Tryz.underlying34 hi0 hz0 hz1 hz2 rfl wr _ (UInt8.ofNat (x % 128 + 128)) (byte_more x) base _ (m + p.length) (l ++ p) rfl ho1 rfl ?h5 ?h6 ?_)
      case h5 => omega
      case h6 => exact Nat.le_trans hb hs1
      intro A2 c2 w2 ho2 hg2
      go_wp2
      go_roundw
      case measure => simp [intOf]; omega
      case rel =>
        refine ⟨p ++ [UInt8.ofNat (x % 128 + 128)], x / 128, by go_num, by omega, ?_, A2, c2, ?_, ?_, ?_⟩
        · rw [← HP.out, HE.out]; simp
        · simp [Nat.add_assoc]
        · simpa [Nat.add_assoc] using ho2
        · simpa [Nat.add_assoc] using hg1.trans hg2
    · have HE := Lib.hid (enc_small (Nat.not_le.1 hx))
      have hlt : x < 128 := by omega
      go_wp2_with (at_builtin; refine append_byte rfl (.tmp 18) (.tmp 21) _ rfl 5 i0 _ Tryz.underlying34 hi0 hz0 hz1 hz2 rfl wr _ (UInt8.ofNat x) (byte_last hlt) base _ (m + p.length) (l ++ p) rfl ho1 rfl ?h5 ?h6 ?_)
      case h5 => omega
      case h6 => exact Nat.le_trans hb hs1
      intro A2 c2 w2 ho2 hg2
      go_wp2
      go_ret
      have he : enc z = p ++ [UInt8.ofNat x] := by rw [← HP.out, HE.out]
      rw [he]
      refine ⟨A2, c2, ?_, ?_, ?_⟩
      · simp [Nat.add_assoc]
      · simpa [Nat.add_assoc] using ho2
      · simpa [Nat.add_assoc] using hg1.trans hg2
end Go.Proofs.YtggplgmjonnliaaGreatDoor
