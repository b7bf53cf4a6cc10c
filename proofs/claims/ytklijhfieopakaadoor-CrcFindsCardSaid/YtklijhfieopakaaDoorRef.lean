/- Walks of the document's own sums, seals and openings. -/
import Derived.Test.YtklijhfieopakaaDoorWd
namespace Go.Proofs.YtklijhfieopakaaDoor
open Go.RowKit

theorem u32_and1 (a : BitVec 32) : Go.bits .and .u32 (u a) 1 = if a.getLsbD 0 then 1 else 0 := by
  have e : BitVec.ofInt 32 (u a) &&& BitVec.ofInt 32 1 = a &&& 1#32 := by rw [ofInt_u]; rfl
  show IntKind.u32.wrap ((BitVec.ofInt 32 (u a) &&& BitVec.ofInt 32 1).toNat : Int) = _
  rw [e, wrap_u]
  unfold u
  rw [BitVec.toNat_and, show (1#32).toNat = 1 from rfl, Nat.and_one_is_mod]
  have : a.getLsbD 0 = decide (a.toNat % 2 = 1) := by
    simp only [BitVec.getLsbD, Nat.testBit, Nat.shiftRight_zero, Nat.one_and_eq_mod_two]
    rw [Bool.eq_iff_iff]; simp
  rw [this]
  by_cases h : a.toNat % 2 = 1
  · simp [h]
  · have : a.toNat % 2 = 0 := by omega
    simp [this]
theorem u32_half (a : BitVec 32) : u a / (2 : Int) = u (a >>> 1) := by
  unfold u
  rw [BitVec.toNat_ushiftRight, Nat.shiftRight_eq_div_pow]; rfl
theorem u32_poly (a : BitVec 32) : Go.bits .xor .u32 (u a) 3988292384 = u (a ^^^ 0xEDB88320#32) := u32_xor a 0xEDB88320#32
theorem bit_odd {a : BitVec 32} (h : a.getLsbD 0 = true) : (a >>> 1) ^^^ 0xEDB88320#32 = Crc.bit a := by unfold Crc.bit; rw [h]; rfl
theorem bit_ev {a : BitVec 32} (h : a.getLsbD 0 = false) : a >>> 1 = Crc.bit a := (Crc.bit_even h).symm
theorem bits_succ (k : Nat) (a : BitVec 32) : Crc.bits (k + 1) a = Crc.bit (Crc.bits k a) := by rw [Crc.bits_add k 1]; rfl

theorem u32_and1_odd {a : BitVec 32} (h : a.getLsbD 0 = true) : Go.bits .and .u32 (u a) 1 = 1 := by rw [u32_and1, h]; rfl
theorem u32_and1_even {a : BitVec 32} (h : a.getLsbD 0 = false) : Go.bits .and .u32 (u a) 1 = 0 := by rw [u32_and1, h]; rfl

attribute [local go_sem] u32_xor u32_half u32_poly u32_mod in
set_option maxHeartbeats 800000 in
theorem add_any (s : BitVec 32) (b : UInt8) (w : World) :
    Calls Tryd.prog 23 #[.int .u32 (u s), .int .u8 b.toNat] w fun e w' => e = .returned (.int .u32 (u (Crc.byte s b))) ∧ w = w' := by
  rw [← u_w8 b]
  go_enter Tryd.func23, Tryd.ntmps23
  go_wp2
  go_loop [0, 5] (fun r i => ∃ k : Nat, k ≤ 8 ∧ i = .int .i64 k ∧ r = .int .u32 (u (Crc.bits k (s ^^^ w8 b)))) (fun _ i => 8 - (intOf i).toNat)
  case atStart => exact ⟨0, by omega, rfl, rfl⟩
  case round =>
    obtain ⟨k, hk, rfl, rfl⟩ := hrel
    have H := Lib.hid (bits_succ k (s ^^^ w8 b))
    by_cases hlt : k < 8
    · generalize Crc.bits k (s ^^^ w8 b) = x at *
      cases hx : x.getLsbD 0 with
      | true =>
        have HX := Lib.hid (bit_odd hx)
        have h2 := u32_and1_odd hx
        clear hx
        go_wp2
        go_round
        case rel => exact ⟨k + 1, by omega, by go_num, by rw [H.out, HX.out]⟩
        case measure => simp [intOf]; omega
      | false =>
        have HX := Lib.hid (bit_ev hx)
        have h2 := u32_and1_even hx
        clear hx
        go_wp2
        go_round
        case rel => exact ⟨k + 1, by omega, by go_num, by rw [H.out, HX.out]⟩
        case measure => simp [intOf]; omega
    · have hk8 : k = 8 := by omega
      subst hk8
      go_wp2
      go_ret
      exact ⟨rfl, rfl⟩

attribute [local go_sem] u32_not in
set_option maxHeartbeats 800000 in
theorem refsum_any (w : World) (A : Option Addr) (n c : Nat) (l : List UInt8) (hr : Bytes w w.heap.size A n l) (hn : n ≤ 140737488355328) :
    Calls Tryd.prog 14 #[.slice A n c] w fun e w' => e = .returned (.int .u32 (u (Crc.sum l))) ∧ w = w' := by
  go_enter Tryd.func14, Tryd.ntmps14
  go_wp2
  go_loop [3, 4] (fun r i => ∃ k : Nat, k ≤ n ∧ i = .int .i64 k ∧ r = .int .u32 (u (Crc.run (~~~ 0#32) (l.take k)))) (fun _ i => n - (intOf i).toNat)
  case atStart => exact ⟨0, Nat.zero_le _, rfl, rfl⟩
  case round =>
    obtain ⟨k, hk, rfl, rfl⟩ := hrel
    by_cases hlt : k < n
    · obtain ⟨b, off, rfl, hb, hc⟩ := hr.at_ hlt
      have hk' : k < l.length := by rw [hr.len]; exact hlt
      have H := Lib.hid (run_take (~~~ 0#32) l k hk')
      generalize Crc.run (~~~ 0#32) (l.take k) = r at *
      generalize l[k]'hk' = x at *
      go_wp2_with (go_at_call 23; refine (add_any r x _).mono ?_; rintro e w1 ⟨rfl, rfl⟩)
      go_round
      case rel => exact ⟨k + 1, by omega, by go_num, by rw [H.out]⟩
      case measure => simp [intOf]; omega
    · have hkn : l.take k = l := List.take_of_length_le (by rw [hr.len]; omega)
      rw [hkn]
      go_wp2
      go_ret
      exact ⟨rfl, rfl⟩

set_option maxHeartbeats 400000 in
theorem reffour_any (n : BitVec 32) (w : World) :
    Calls Tryd.prog 27 #[.int .u32 (u n)] w fun e w' => ∃ A, e = .returned (.slice A 4 4) ∧ OwnBytes w' w.heap.size 5 A 4 4 (Crc.four n) ∧ Below w.heap.size w w' := by
  go_enter Tryd.func27, Tryd.ntmps27
  go_wp2
  go_ret
  refine ⟨_, rfl, ?_, (Below.refl _ _).alloc (Nat.le_refl _) _⟩
  unfold OwnBytes
  rw [four_bv]
  exact World.ownsRow_lit w _ 4 (Nat.le_refl _) (by decide) rfl

set_option maxHeartbeats 400000 in
theorem reftail_any (A : Option Addr) (n c : Nat) (l : List UInt8) (s : BitVec 32) (w : World) (hr : Bytes w w.heap.size A n l) (hA : A = none → n = 0 ∧ c = 0) (hn : n ≤ 70368744177664) :
    Calls Tryd.prog 22 #[.slice A n c, .int .u32 (u s)] w fun e w' => ∃ A', e = .returned (.slice A' 4 4) ∧ OwnBytes w' w.heap.size 5 A' 4 4 (Crc.tail l s) ∧ Below w.heap.size w w' := by
  obtain ⟨i0, hi0, hz0, hz1, hz2⟩ := info_parts info_u8
  go_enter Tryd.func22, Tryd.ntmps22
  go_wp2_with fail
  refine (reffour_any _ _).mono ?_
  rintro e w1 ⟨A1, rfl, ho1, hb1⟩
  go_wp2_with (at_builtin; refine append_row rfl (.tmp 6) (.tmp 7) _ rfl 5 i0 _ 1 1 Tryd.underlying22 hi0 hz0 hz1 hz2 rfl (by decide) w.heap.size _ 4 _ rfl ho1 w.heap.size A n c (l.map bv) rfl hA (hr.below hb1 (Nat.le_refl _)) (bv_one l) ?h5 ?h6 hb1.size ?_)
  case h5 => unfold maxLen; omega
  case h6 => omega
  intro v2 w2 ho2 hg2 hat2
  obtain ⟨A2, c2, rfl, hA2⟩ := own_form ho2
  have hb2 : Below w.heap.size w w2 := hb1.grown hg2 hb1.size (fun k hk => (ho1.lt k hk).1)
  have ho2' : OwnBytes w2 w.heap.size 5 A2 (4 + n) c2 (Crc.four s ++ l) := by unfold OwnBytes; rw [List.map_append]; exact ho2
  go_wp2_with fail
  refine (refsum_any _ _ _ _ _ ho2'.bytes (by omega)).mono ?_
  rintro e w3 ⟨rfl, rfl⟩
  go_wp2_with fail
  refine (reffour_any _ _).mono ?_
  rintro e w4 ⟨A4, rfl, ho4, hb4⟩
  go_wp2
  go_ret
  exact ⟨A4, rfl, ho4.base hb2.size, hb2.trans (hb4.mono hb2.size)⟩

set_option maxHeartbeats 400000 in
theorem refseal_any (A : Option Addr) (n c : Nat) (l : List UInt8) (s : BitVec 32) (w : World) (hr : Bytes w w.heap.size A n l) (hA : A = none → n = 0 ∧ c = 0) (hn : n ≤ 70368744177664) :
    Calls Tryd.prog 12 #[.slice A n c, .int .u32 (u s)] w fun e w' => ∃ A' c', e = .returned (.slice A' (n + 4) c') ∧ OwnBytes w' w.heap.size 5 A' (n + 4) c' (l ++ Crc.tail l s) ∧ Below w.heap.size w w' := by
  obtain ⟨i0, hi0, hz0, hz1, hz2⟩ := info_parts info_u8
  go_enter Tryd.func12, Tryd.ntmps12
  go_wp2_with fail
  refine (refbytes_any A n c l _ hr hn).mono ?_
  rintro e w1 ⟨A1, c1, rfl, ho1, hb1⟩
  have hs1 := hb1.size
  go_wp2_with fail
  refine (reftail_any A n c l s _ ((hr.below hb1 (Nat.le_refl _)).mono hs1) hA hn).mono ?_
  rintro e w2 ⟨A2, rfl, ho2, hb2⟩
  have hb2' : Below w.heap.size w w2 := hb1.trans (hb2.mono hs1)
  have hs2 := hb2'.size
  go_wp2_with (at_builtin; refine append_row rfl (.tmp 6) (.tmp 9) _ rfl 5 i0 _ 1 1 Tryd.underlying22 hi0 hz0 hz1 hz2 rfl (by decide) w.heap.size _ n _ rfl (own_below ho1 hb2 (Nat.le_refl _)) w2.heap.size A2 4 4 _ rfl ?h5 ho2.bytes (bv_one _) ?h6 ?h7 hs2 ?_)
  case h5 => exact ho2.nn
  case h6 => unfold maxLen; omega
  case h7 => omega
  intro v3 w3 ho3 hg3 hat3
  obtain ⟨A3, c3, rfl, _⟩ := own_form ho3
  go_wp2
  go_ret
  refine ⟨A3, c3, rfl, ?_, hb2'.grown hg3 hs2 (fun k hk => (ho1.lt k hk).1)⟩
  unfold OwnBytes
  rw [List.map_append]
  exact ho3

set_option maxHeartbeats 400000 in
theorem refopen_short (A : Option Addr) (n c : Nat) (s : BitVec 32) (w : World) (hn : n < 4) :
    Calls Tryd.prog 10 #[.slice A n c, .int .u32 (u s)] w fun e w' => e = .returned (.tuple #[.slice none 0 0, .int .i64 101]) ∧ Below w.heap.size w w' := by
  go_enter Tryd.func10, Tryd.ntmps10
  go_wp2
  go_ret2
  exact ⟨rfl, Below.refl _ _⟩

set_option maxHeartbeats 1600000 in
theorem refopen_wrong (A : Option Addr) (n c : Nat) (l : List UInt8) (s : BitVec 32) (w : World) (hn : 4 ≤ n) (hr : Bytes w w.heap.size A n l) (hnc : n ≤ c) (hn2 : n ≤ 70368744177664)
    (hx : l.drop (n - 4) ≠ Crc.tail (l.take (n - 4)) s) :
    Calls Tryd.prog 10 #[.slice A n c, .int .u32 (u s)] w fun e w' => e = .returned (.tuple #[.slice none 0 0, .int .i64 103]) ∧ Below w.heap.size w w' := by
  obtain ⟨b, off, rfl, hb, hc⟩ := hr.2 (by omega)
  have hr1 := (hr.front (k := n - 4) (by omega)).drew
  have hr2 := (hr.back (k := n - 4) (by omega)).drew
  have HX : (Crc.tail (l.take (n - 4)) s == l.drop (n - 4)) = false := beq_eq_false_iff_ne.2 (Ne.symm hx)
  have hsub : n - (n - 4) ≤ 70368744177664 := by omega
  go_enter Tryd.func10, Tryd.ntmps10
  go_upto_region 4 with (fail)
  go_cut [21] (fun s21 wx => s21 = .bool (!false) ∧ Below w.heap.size w wx)
  case first =>
    go_region_with (first
      | (go_at_call 22; refine (reftail_any _ (n - 4) c _ s _ hr1 (fun h => by cases h) (by omega)).mono ?_; rintro e w1 ⟨A1, rfl, ho1, hb1⟩)
      | (go_at_call 16; refine (same_any A1 _ 4 (n - (n - 4)) 4 _ _ _ _ ho1.bytes ((hr2.below hb1 (Nat.le_refl _)).mono hb1.size) (by decide) hsub).mono ?_; rintro e w2 ⟨rfl, hb2⟩))
    all_goals (go_wp2_with fail; go_meet; exact ⟨rfl, ((Below.refl _ _).drew.trans hb1).trans (hb2.mono hb1.size)⟩)
  case rest =>
    obtain ⟨rfl, hbw⟩ := hcut
    go_wp2
    go_ret2
    exact ⟨rfl, hbw⟩

set_option maxHeartbeats 1600000 in
theorem refopen_right (A : Option Addr) (n c : Nat) (l : List UInt8) (s : BitVec 32) (w : World) (hn : 4 ≤ n) (hr : Bytes w w.heap.size A n l) (hnc : n ≤ c) (hn2 : n ≤ 70368744177664)
    (hx : l.drop (n - 4) = Crc.tail (l.take (n - 4)) s) :
    Calls Tryd.prog 10 #[.slice A n c, .int .u32 (u s)] w fun e w' => ∃ A' c', e = .returned (.tuple #[.slice A' (n - 4) c', .int .i64 0]) ∧ OwnBytes w' w.heap.size 5 A' (n - 4) c' (l.take (n - 4)) ∧ Below w.heap.size w w' := by
  obtain ⟨b, off, rfl, hb, hc⟩ := hr.2 (by omega)
  have hr1 := (hr.front (k := n - 4) (by omega)).drew
  have hr2 := (hr.back (k := n - 4) (by omega)).drew
  have HX : (Crc.tail (l.take (n - 4)) s == l.drop (n - 4)) = true := beq_iff_eq.2 hx.symm
  have hsub : n - (n - 4) ≤ 70368744177664 := by omega
  go_enter Tryd.func10, Tryd.ntmps10
  go_upto_region 4 with (fail)
  go_cut [21] (fun s21 wx => s21 = .bool (!true) ∧ Below w.heap.size w wx)
  case first =>
    go_region_with (first
      | (go_at_call 22; refine (reftail_any _ (n - 4) c _ s _ hr1 (fun h => by cases h) (by omega)).mono ?_; rintro e w1 ⟨A1, rfl, ho1, hb1⟩)
      | (go_at_call 16; refine (same_any A1 _ 4 (n - (n - 4)) 4 _ _ _ _ ho1.bytes ((hr2.below hb1 (Nat.le_refl _)).mono hb1.size) (by decide) hsub).mono ?_; rintro e w2 ⟨rfl, hb2⟩))
    all_goals (go_wp2_with fail; go_meet; exact ⟨rfl, ((Below.refl _ _).drew.trans hb1).trans (hb2.mono hb1.size)⟩)
  case rest =>
    obtain ⟨rfl, hbw⟩ := hcut
    have hs := hbw.size
    have hr3 := ((hr.front (k := n - 4) (by omega)).below hbw (Nat.le_refl _)).mono hs
    go_wp2_with (go_at_call 8; refine (refbytes_any _ (n - 4) c _ _ hr3 (by omega)).mono ?_; rintro e w3 ⟨A3, c3, rfl, ho3, hb3⟩)
    go_ret2
    exact ⟨A3, c3, rfl, ho3.base hs, hbw.trans (hb3.mono hs)⟩
end Go.Proofs.YtklijhfieopakaaDoor
