/- The walk of NumFew. -/
import Derived.Test.YtlglinclendkkaaNb
import Derived.Test.YtlglinclendkkaaSame
namespace Go.Proofs.Ytlglinclendkkaa
open Go.RowKit

theorem encs_one (a : Int) : [] ++ encs [a] = enc (zig a) := by simp [encs]
theorem few_iff (a : Int) (j : Nat) : j + 1 < (enc (zig a)).length ↔ (((128 ^ (j + 1) / 2 : Nat) : Int) ≤ a ∨ a < -((128 ^ (j + 1) / 2 : Nat) : Int)) := by
  rw [enc_len_iff]
  have h2 : 128 ^ (j + 1) = 2 * (128 ^ (j + 1) / 2) := by
    rw [Nat.pow_succ]; omega
  generalize 128 ^ (j + 1) / 2 = p at *
  rw [h2]
  unfold zig
  split <;> omega

set_option maxRecDepth 4000 in
set_option maxHeartbeats 1600000 in
theorem numFew_walk (a b : Int) (w : World) (a0 : -9223372036854775808 ≤ a) (a1 : a ≤ 9223372036854775807) (b0 : -9223372036854775808 ≤ b) (b1 : b ≤ 9223372036854775807) :
    Calls Try.prog 4 #[.int .i64 a, .int .i64 b] w fun e w' => e = .returned (.bool true) ∧ Below w.heap.size w w' := by
  have hL := enc_len10 (zig_lt a0 a1)
  have hP := enc_pos (zig a)
  have t0 := few_iff a 0
  have t1 := few_iff a 1
  have t2 := few_iff a 2
  have t3 := few_iff a 3
  have t4 := few_iff a 4
  have t5 := few_iff a 5
  have t6 := few_iff a 6
  have t7 := few_iff a 7
  have t8 := few_iff a 8
  simp only [Nat.reduceAdd, Nat.reducePow, Nat.reduceDiv] at t0 t1 t2 t3 t4 t5 t6 t7 t8
  go_enter Try.func4, Try.ntmps4
  go_wp2_with fail
  refine (first_any w).mono ?_
  rintro e w1 ⟨rfl, hb1⟩
  have hrow : Row (w1.alloc (.cells #[.int .i64 a] 2)) (w1.heap.size + 1) (some ⟨w1.heap.size, 0, none⟩) 1 [.int .i64 a] := Row.lit w1 #[.int .i64 a] 2
  go_wp2_with fail
  refine (put_any none 0 0 [] _ 1 1 [a] _ (Bytes.nil _ _ _) (fun _ => ⟨rfl, rfl⟩) (by decide) (hrow.mono (by simp)) (by decide) (by simp; omega)).mono ?_
  rintro e w2 ⟨A2, m2, c2, rfl, ho2, hb2⟩
  rw [encs_one] at ho2
  have hb2' : Below w.heap.size w w2 := (hb1.alloc hb1.size _).trans (hb2.mono (by have := hb1.size; simp; omega))
  have hrow' : Row (w2.alloc (.cells #[.int .i64 b] 2)) (w2.heap.size + 1) (some ⟨w2.heap.size, 0, none⟩) 1 [.int .i64 b] := Row.lit w2 #[.int .i64 b] 2
  go_wp2_with fail
  refine (put_any none 0 0 [] _ 1 1 [b] _ (Bytes.nil _ _ _) (fun _ => ⟨rfl, rfl⟩) (by decide) (hrow'.mono (by simp)) (by decide) (by simp; omega)).mono ?_
  rintro e w3 ⟨A3, m3, c3, rfl, ho3, hb3⟩
  rw [encs_one] at ho3
  have hb3' : Below w.heap.size w w3 := (hb2'.alloc hb2'.size _).trans (hb3.mono (by have := hb2'.size; simp; omega))
  have hr2 : Bytes w3 w3.heap.size A2 m2 (enc (zig a)) := ((ho2.bytes.below ((Below.refl _ _).alloc (Nat.le_refl _) _) (Nat.le_refl _)).below hb3 (by simp)).mono (by have := hb3.size; simp at this; omega)
  have hr3 := ho3.bytes
  have l2 := ho2.len
  have l3 := ho3.len
  have l3' := enc_len10 (zig_lt b0 b1)
  have hS := same_any A2 A3 m2 m3 c2 c3 _ _ w3 hr2 hr3 (by omega) (by omega)
  rw [enc_beq] at hS
  rw [l2] at hL hP t0 t1 t2 t3 t4 t5 t6 t7 t8
  clear l2
  clear hr2 hr3 ho2 ho3 hb3 hb2 hrow hrow' hb1
  go_wp2_with fail
  go_loopw [8] (fun i wr => ∃ j : Nat, 1 ≤ j ∧ j ≤ m2 ∧ i = .int .i64 j ∧ wr = w3) (fun i _ => 10 - (intOf i).toNat)
  case atStart => exact ⟨1, by omega, by omega, rfl, rfl⟩
  case round =>
    obtain ⟨j, hj1, hj2, rfl, rfl⟩ := hrel
    have hj : j = 1 ∨ j = 2 ∨ j = 3 ∨ j = 4 ∨ j = 5 ∨ j = 6 ∨ j = 7 ∨ j = 8 ∨ j = 9 ∨ j = 10 := by omega
    by_cases hend : j < m2
    · rcases hj with rfl | rfl | rfl | rfl | rfl | rfl | rfl | rfl | rfl | rfl
      · clear t1 t2 t3 t4 t5 t6 t7 t8
        rcases t0.1 hend with h | h
        all_goals
          clear t0
          go_wp2_with fail
          go_roundw
          case measure => simp [intOf]
          case rel => exact ⟨2, by omega, by omega, rfl, by first | rfl | trivial⟩
      · clear t0 t2 t3 t4 t5 t6 t7 t8
        rcases t1.1 hend with h | h
        all_goals
          clear t1
          go_wp2_with fail
          go_roundw
          case measure => simp [intOf]
          case rel => exact ⟨3, by omega, by omega, rfl, by first | rfl | trivial⟩
      · clear t0 t1 t3 t4 t5 t6 t7 t8
        rcases t2.1 hend with h | h
        all_goals
          clear t2
          go_wp2_with fail
          go_roundw
          case measure => simp [intOf]
          case rel => exact ⟨4, by omega, by omega, rfl, by first | rfl | trivial⟩
      · clear t0 t1 t2 t4 t5 t6 t7 t8
        rcases t3.1 hend with h | h
        all_goals
          clear t3
          go_wp2_with fail
          go_roundw
          case measure => simp [intOf]
          case rel => exact ⟨5, by omega, by omega, rfl, by first | rfl | trivial⟩
      · clear t0 t1 t2 t3 t5 t6 t7 t8
        rcases t4.1 hend with h | h
        all_goals
          clear t4
          go_wp2_with fail
          go_roundw
          case measure => simp [intOf]
          case rel => exact ⟨6, by omega, by omega, rfl, by first | rfl | trivial⟩
      · clear t0 t1 t2 t3 t4 t6 t7 t8
        rcases t5.1 hend with h | h
        all_goals
          clear t5
          go_wp2_with fail
          go_roundw
          case measure => simp [intOf]
          case rel => exact ⟨7, by omega, by omega, rfl, by first | rfl | trivial⟩
      · clear t0 t1 t2 t3 t4 t5 t7 t8
        rcases t6.1 hend with h | h
        all_goals
          clear t6
          go_wp2_with fail
          go_roundw
          case measure => simp [intOf]
          case rel => exact ⟨8, by omega, by omega, rfl, by first | rfl | trivial⟩
      · clear t0 t1 t2 t3 t4 t5 t6 t8
        rcases t7.1 hend with h | h
        all_goals
          clear t7
          go_wp2_with fail
          go_roundw
          case measure => simp [intOf]
          case rel => exact ⟨9, by omega, by omega, rfl, by first | rfl | trivial⟩
      · clear t0 t1 t2 t3 t4 t5 t6 t7
        rcases t8.1 hend with h | h
        all_goals
          clear t8
          go_wp2_with fail
          go_roundw
          case measure => simp [intOf]
          case rel => exact ⟨10, by omega, by omega, rfl, by first | rfl | trivial⟩
      · omega
    · obtain rfl : j = m2 := by omega
      clear hend
      rcases hj with rfl | rfl | rfl | rfl | rfl | rfl | rfl | rfl | rfl | rfl
      · clear t1 t2 t3 t4 t5 t6 t7 t8
        obtain ⟨n1, n2⟩ := not_or.1 (mt t0.2 (by decide))
        clear t0
        rw [Int.not_le] at n1
        rw [Int.not_lt] at n2
        go_wp2_with fail
        refine hS.mono ?_
        rintro e w4 ⟨rfl, hb4⟩
        go_wp2
        go_ret
        exact ⟨by simp, hb3'.trans (hb4.mono hb3'.size)⟩
      · clear t0 t2 t3 t4 t5 t6 t7 t8
        obtain ⟨n1, n2⟩ := not_or.1 (mt t1.2 (by decide))
        clear t1
        rw [Int.not_le] at n1
        rw [Int.not_lt] at n2
        go_wp2_with fail
        refine hS.mono ?_
        rintro e w4 ⟨rfl, hb4⟩
        go_wp2
        go_ret
        exact ⟨by simp, hb3'.trans (hb4.mono hb3'.size)⟩
      · clear t0 t1 t3 t4 t5 t6 t7 t8
        obtain ⟨n1, n2⟩ := not_or.1 (mt t2.2 (by decide))
        clear t2
        rw [Int.not_le] at n1
        rw [Int.not_lt] at n2
        go_wp2_with fail
        refine hS.mono ?_
        rintro e w4 ⟨rfl, hb4⟩
        go_wp2
        go_ret
        exact ⟨by simp, hb3'.trans (hb4.mono hb3'.size)⟩
      · clear t0 t1 t2 t4 t5 t6 t7 t8
        obtain ⟨n1, n2⟩ := not_or.1 (mt t3.2 (by decide))
        clear t3
        rw [Int.not_le] at n1
        rw [Int.not_lt] at n2
        go_wp2_with fail
        refine hS.mono ?_
        rintro e w4 ⟨rfl, hb4⟩
        go_wp2
        go_ret
        exact ⟨by simp, hb3'.trans (hb4.mono hb3'.size)⟩
      · clear t0 t1 t2 t3 t5 t6 t7 t8
        obtain ⟨n1, n2⟩ := not_or.1 (mt t4.2 (by decide))
        clear t4
        rw [Int.not_le] at n1
        rw [Int.not_lt] at n2
        go_wp2_with fail
        refine hS.mono ?_
        rintro e w4 ⟨rfl, hb4⟩
        go_wp2
        go_ret
        exact ⟨by simp, hb3'.trans (hb4.mono hb3'.size)⟩
      · clear t0 t1 t2 t3 t4 t6 t7 t8
        obtain ⟨n1, n2⟩ := not_or.1 (mt t5.2 (by decide))
        clear t5
        rw [Int.not_le] at n1
        rw [Int.not_lt] at n2
        go_wp2_with fail
        refine hS.mono ?_
        rintro e w4 ⟨rfl, hb4⟩
        go_wp2
        go_ret
        exact ⟨by simp, hb3'.trans (hb4.mono hb3'.size)⟩
      · clear t0 t1 t2 t3 t4 t5 t7 t8
        obtain ⟨n1, n2⟩ := not_or.1 (mt t6.2 (by decide))
        clear t6
        rw [Int.not_le] at n1
        rw [Int.not_lt] at n2
        go_wp2_with fail
        refine hS.mono ?_
        rintro e w4 ⟨rfl, hb4⟩
        go_wp2
        go_ret
        exact ⟨by simp, hb3'.trans (hb4.mono hb3'.size)⟩
      · clear t0 t1 t2 t3 t4 t5 t6 t8
        obtain ⟨n1, n2⟩ := not_or.1 (mt t7.2 (by decide))
        clear t7
        rw [Int.not_le] at n1
        rw [Int.not_lt] at n2
        go_wp2_with fail
        refine hS.mono ?_
        rintro e w4 ⟨rfl, hb4⟩
        go_wp2
        go_ret
        exact ⟨by simp, hb3'.trans (hb4.mono hb3'.size)⟩
      · clear t0 t1 t2 t3 t4 t5 t6 t7
        obtain ⟨n1, n2⟩ := not_or.1 (mt t8.2 (by decide))
        clear t8
        rw [Int.not_le] at n1
        rw [Int.not_lt] at n2
        go_wp2_with fail
        refine hS.mono ?_
        rintro e w4 ⟨rfl, hb4⟩
        go_wp2
        go_ret
        exact ⟨by simp, hb3'.trans (hb4.mono hb3'.size)⟩
      · clear t0 t1 t2 t3 t4 t5 t6 t7 t8
        go_wp2_with fail
        refine hS.mono ?_
        rintro e w4 ⟨rfl, hb4⟩
        go_wp2
        go_ret
        exact ⟨by simp, hb3'.trans (hb4.mono hb3'.size)⟩
end Go.Proofs.Ytlglinclendkkaa
