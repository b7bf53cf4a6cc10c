/- Walks of the document's own bytes of numbers, texts, flags. -/
import Derived.Test.YtlglinclendkkaaNt
import Derived.Test.YtlglinclendkkaaRefB
namespace Go.Proofs.Ytlglinclendkkaa
open Go.RowKit

set_option maxRecDepth 4000 in
set_option maxHeartbeats 1600000 in
theorem refPut_any (A : Option Addr) (m c : Nat) (l : List UInt8) (n : Int) (w : World) (base : Nat) (h0 : -9223372036854775808 ≤ n) (h1 : n ≤ 9223372036854775807) (ho : OwnBytes w base 5 A m c l) (hb : base ≤ w.heap.size) (hm : m ≤ 35184372088832) :
    Calls Try.prog 7 #[.slice A m c, .int .i64 n] w fun e w' => ∃ A' c', e = .returned (.slice A' (m + (enc (zig n)).length) c') ∧ OwnBytes w' base 5 A' (m + (enc (zig n)).length) c' (l ++ enc (zig n)) ∧ Grew w w' (.slice A m c) (.slice A' (m + (enc (zig n)).length) c') := by
  obtain ⟨i0, hi0, hz0, hz1, hz2⟩ := info_parts info_u8
  have hL := enc_len10 (zig_lt h0 h1)
  have hZ := zig_lt h0 h1
  by_cases hn : 0 ≤ n
  all_goals
    have hU : (0 ≤ n ∧ n * 2 = ((zig n : Nat) : Int)) ∨ (n < 0 ∧ Go.bits .xor .u64 IntKind.u64.max (IntKind.u64.wrap (IntKind.u64.wrap n * 2)) = ((zig n : Nat) : Int)) := by
      by_cases hn : 0 ≤ n
      · exact .inl ⟨hn, by unfold zig; rw [if_pos hn]; omega⟩
      · refine .inr ⟨by omega, ?_⟩
        rw [zig_neg1 h0 (by omega), show IntKind.u64.max = 18446744073709551615 from rfl, u64_xor_ones' (by omega)]
        omega
    generalize zig n = z at *
    go_enter Try.func7, Try.ntmps7
    go_wp2_with fail
    rcases hU with ⟨hn', hU⟩ | ⟨hn', hU⟩ <;> try (exact absurd hn (by omega))
    try (exact absurd hn' (by omega))
    simp only [hU]
    clear hU
    go_loopw [0, 5] (fun v u wr => ∃ (p : List UInt8) (x : Nat), u = .int .u64 (x : Int) ∧ x ≤ z ∧ p ++ enc x = enc z ∧ ∃ A1 c1, v = .slice A1 (m + p.length) c1 ∧ OwnBytes wr base 5 A1 (m + p.length) c1 (l ++ p) ∧ Grew w wr (.slice A m c) (.slice A1 (m + p.length) c1)) (fun _ u _ => (intOf u).toNat)
    case atStart => exact ⟨[], z, rfl, Nat.le_refl _, rfl, A, c, rfl, by simpa using ho, Grew.refl _ _⟩
    case round =>
      obtain ⟨p, x, rfl, hxz, hpe, A1, c1, rfl, ho1, hg1⟩ := hrel
      have HP := Lib.hid hpe
      clear hpe
      obtain ⟨_, hs1⟩ : True ∧ w.heap.size ≤ wr.heap.size := ⟨trivial, hg1.size⟩
      have hpl : p.length ≤ 10 := by
        have := congrArg List.length HP.out
        simp only [List.length_append] at this
        omega
      by_cases hx : 128 ≤ x
      · have HE := Lib.hid (enc_big hx)
        go_wp2_with (at_builtin; refine append_byte rfl (.tmp 15) (.tmp 19) _ rfl 5 i0 _ Try.underlying22 hi0 hz0 hz1 hz2 rfl wr _ (UInt8.ofNat (x % 128 + 128)) (byte_more x) base _ (m + p.length) (l ++ p) rfl ho1 rfl ?h5 ?h6 ?_)
        case h5 => omega
        case h6 => exact Nat.le_trans hb hs1
        intro A2 c2 w2 ho2 hg2
        go_wp2
        go_roundw
        case measure => simp [intOf]; omega
        case rel =>
          refine ⟨p ++ [UInt8.ofNat (x % 128 + 128)], x / 128, by go_num, by omega, ?_, A2, c2, ?_, ?_, ?_⟩
          · rw [← HP.out, HE.out]; simp
          · simp [Nat.add_assoc]
          · simpa [Nat.add_assoc] using ho2
          · simpa [Nat.add_assoc] using hg1.trans hg2
      · have HE := Lib.hid (enc_small (Nat.not_le.1 hx))
        have hlt : x < 128 := by omega
        go_wp2_with (at_builtin; refine append_byte rfl (.tmp 23) (.tmp 26) _ rfl 5 i0 _ Try.underlying22 hi0 hz0 hz1 hz2 rfl wr _ (UInt8.ofNat x) (byte_last hlt) base _ (m + p.length) (l ++ p) rfl ho1 rfl ?h5 ?h6 ?_)
        case h5 => omega
        case h6 => exact Nat.le_trans hb hs1
        intro A2 c2 w2 ho2 hg2
        go_wp2
        go_ret
        have he : enc z = p ++ [UInt8.ofNat x] := by rw [← HP.out, HE.out]
        rw [he]
        refine ⟨A2, c2, ?_, ?_, ?_⟩
        · simp [Nat.add_assoc]
        · simpa [Nat.add_assoc] using ho2
        · simpa [Nat.add_assoc] using hg1.trans hg2

set_option maxHeartbeats 400000 in
theorem refPutText_any (A : Option Addr) (m c : Nat) (l : List UInt8) (s : ByteArray) (w : World) (base : Nat) (hs : s.size ≤ 1048576) (ho : OwnBytes w base 5 A m c l) (hb : base ≤ w.heap.size) (hm : m ≤ 17592186044416) :
    Calls Try.prog 8 #[.slice A m c, .string s] w fun e w' => ∃ A' m' c', e = .returned (.slice A' m' c') ∧ OwnBytes w' base 5 A' m' c' (l ++ textOf s) ∧ Grew w w' (.slice A m c) (.slice A' m' c') := by
  obtain ⟨i0, hi0, hz0, hz1, hz2⟩ := info_parts info_u8
  have hL := enc_len10 (zig_lt (n := s.size) (by omega) (by omega))
  go_enter Try.func8, Try.ntmps8
  go_wp2_with fail
  refine (refPut_any A m c l s.size w base (by omega) (by omega) ho hb (by omega)).mono ?_
  rintro e w1 ⟨A1, c1, rfl, ho1, hg1⟩
  have hs1 := hg1.size
  go_wp2_with (at_builtin; refine append_str rfl (.tmp 8) (.tmp 9) _ _ rfl 5 i0 Try.underlying22 Try.underlying9 hi0 hz0 hz1 hz2 _ base _ _ _ rfl ho1 s rfl ?h5 ?h6 ?_)
  case h5 => omega
  case h6 => omega
  intro A4 c4 w4 ho4 hg4
  go_wp2
  go_ret
  exact ⟨A4, _, c4, rfl, by simpa only [textOf, List.append_assoc] using ho4, hg1.trans hg4⟩

set_option maxHeartbeats 400000 in
theorem refPutFlag_any (A : Option Addr) (m c : Nat) (l : List UInt8) (f : Bool) (w : World) (base : Nat) (ho : OwnBytes w base 5 A m c l) (hb : base ≤ w.heap.size) (hm : m ≤ 17592186044416) :
    Calls Try.prog 9 #[.slice A m c, .bool f] w fun e w' => ∃ A' m' c', e = .returned (.slice A' m' c') ∧ OwnBytes w' base 5 A' m' c' (l ++ [flagOf f]) ∧ Grew w w' (.slice A m c) (.slice A' m' c') := by
  obtain ⟨i0, hi0, hz0, hz1, hz2⟩ := info_parts info_u8
  cases f
  · go_enter Try.func9, Try.ntmps9
    go_wp2_with (at_builtin; refine append_byte rfl (.tmp 9) (.tmp 10) _ rfl 5 i0 _ Try.underlying22 hi0 hz0 hz1 hz2 rfl w _ 0 rfl base _ m _ rfl ho rfl ?h5 hb ?_)
    case h5 => omega
    intro A4 c4 w4 ho4 hg4
    go_wp2
    go_ret
    exact ⟨A4, _, c4, rfl, ho4, hg4⟩
  · go_enter Try.func9, Try.ntmps9
    go_wp2_with (at_builtin; refine append_byte rfl (.tmp 6) (.tmp 7) _ rfl 5 i0 _ Try.underlying22 hi0 hz0 hz1 hz2 rfl w _ 1 rfl base _ m _ rfl ho rfl ?h5 hb ?_)
    case h5 => omega
    intro A4 c4 w4 ho4 hg4
    go_wp2
    go_ret
    exact ⟨A4, _, c4, rfl, ho4, hg4⟩
end Go.Proofs.Ytlglinclendkkaa
