/- Walks of package crc, the second part: Seal, and the library's Equal and Clone. -/
import Derived.Test.YtklijhfieopakaaDoorWa
import Derived.OwnWalk
import Derived.KernelRfl
namespace Go.Proofs.YtklijhfieopakaaDoor
open Go.RowKit

theorem info_u8 : (Tryd.prog.info? 5).map (fun i => (i.zero, i.size, i.bytes)) = some (some (.int .u8 0), 1, 1) := by kernel_rfl

set_option maxHeartbeats 400000 in
theorem seal_any (A : Option Addr) (n c : Nat) (l : List UInt8) (s : BitVec 32) (w : World) (hr : Bytes w w.heap.size A n l) (hA : A = none → n = 0 ∧ c = 0) (hn : n ≤ 70368744177664) (ht : Steps w) :
    Calls Tryd.prog 11 #[.slice A n c, .int .u32 (u s)] w fun e w' => ∃ A' c', e = .returned (.slice A' (n + 4) c') ∧ OwnBytes w' w.heap.size 5 A' (n + 4) c' (l ++ Crc.tail l s) ∧ Below w.heap.size w w' := by
  obtain ⟨i0, hi0, hz0, hz1, hz2⟩ := info_parts info_u8
  go_enter Tryd.func11, Tryd.ntmps11
  go_wp2_with (at_make; refine wpList_make_own _ rfl _ _ 22 rfl w.heap.size 5 i0 _ 1 Tryd.underlying22 hi0 hz0 hz1 .i64 .i64 _ (n + 4) rfl rfl ?h1 ?h2 ?h3 ?h4 ?_)
  case h1 => omega
  case h2 => rw [hz2]; omega
  case h3 => unfold maxLen; omega
  case h4 => exact Nat.le_refl _
  intro w1 ho1 hg1
  have hb1 : Below w.heap.size w w1 := (Below.refl _ _).grown hg1 (Nat.le_refl _) (fun k hk => by cases hk)
  go_wp2_with (at_builtin; refine append_row rfl (.tmp 10) (.tmp 11) _ rfl 5 i0 _ 1 1 Tryd.underlying22 hi0 hz0 hz1 hz2 rfl (by decide) w.heap.size _ 0 [] rfl ho1 w.heap.size A n c (l.map bv) rfl hA (hr.below hb1 (Nat.le_refl _)) (bv_one l) ?h5 ?h6 hb1.size ?_)
  case h5 => unfold maxLen; omega
  case h6 => omega
  intro v2 w2 ho2 hg2 hat2
  obtain ⟨A2, c2, rfl, hA2⟩ := own_form ho2
  have hb2 : Below w.heap.size w w2 := hb1.grown hg2 hb1.size (fun k hk => by simp [Value.ownBlock] at hk; omega)
  go_wp2_with fail
  refine (tail_any A n c l s _ ((hr.below hb2 (Nat.le_refl _)).mono hb2.size) (by omega) (ht.below hb2 (Nat.le_refl _))).mono ?_
  rintro e w3 ⟨A3, rfl, ho3, hb3⟩
  have hs2 := hb2.size
  have hs3 := hb3.size
  have hb3' : Below w.heap.size w w3 := hb2.trans (hb3.mono hs2)
  go_wp2_with (at_builtin; refine append_row rfl (.tmp 13) (.tmp 16) _ rfl 5 i0 _ 1 1 Tryd.underlying22 hi0 hz0 hz1 hz2 rfl (by decide) w.heap.size _ n _ rfl (own_below ho2 hb3 (Nat.le_refl _)) w3.heap.size A3 4 4 _ rfl ?h7 ho3.bytes (bv_one _) ?h8 ?h9 hb3'.size ?_)
  case h7 => exact ho3.nn
  case h8 => unfold maxLen; omega
  case h9 => omega
  intro v4 w4 ho4 hg4 hat4
  go_wp2
  go_ret
  obtain ⟨A4, c4, rfl, _⟩ := own_form ho4
  refine ⟨A4, c4, rfl, ?_, hb3'.grown hg4 hb3'.size fun k hk => (ho2.lt k hk).1⟩
  unfold OwnBytes
  rw [List.map_append]
  exact ho4

set_option maxHeartbeats 400000 in
theorem equal_any (A A' : Option Addr) (n n' c c' : Nat) (l l' : List UInt8) (w : World) (B B' : Nat) (hr : Bytes w B A n l) (hA : A = none → n = 0) (hr' : Bytes w B' A' n' l') (hA' : A' = none → n' = 0) :
    Calls Tryd.prog 19 #[.slice A n c, .slice A' n' c'] w fun e w' => e = .returned (.bool (l == l')) ∧ w = w' := by
  have k1 := hr.string (P := Tryd.prog) hA c 22 9 5 Tryd.underlying22 Tryd.underlying5 Tryd.underlying9
  have k2 := hr'.string (P := Tryd.prog) hA' c' 22 9 5 Tryd.underlying22 Tryd.underlying5 Tryd.underlying9
  go_enter Tryd.func19, Tryd.ntmps19
  go_wp2
  go_ret
  exact ⟨rfl, rfl⟩

set_option maxHeartbeats 400000 in
theorem clone_any (A : Option Addr) (n c : Nat) (l : List UInt8) (w : World) (hr : Bytes w w.heap.size A n l) (hA : A = none → n = 0 ∧ c = 0) (hn : n ≤ 70368744177664) :
    Calls Tryd.prog 21 #[.slice A n c] w fun e w' => ∃ A' c', e = .returned (.slice A' n c') ∧ OwnBytes w' w.heap.size 5 A' n c' l ∧ Below w.heap.size w w' := by
  obtain ⟨i0, hi0, hz0, hz1, hz2⟩ := info_parts info_u8
  have q0 : ∀ (w : World) (a : Option Addr) (n c n' c' : Nat), (binOp .eql 22 (.slice a n c) (.slice none n' c')).run Tryd.prog w = .ok (.bool a.isNone) w := fun w a n c n' c' => Lib.run_eql_slice_nil w _ _ a n c n' c' Tryd.underlying22
  cases A with
  | none =>
    obtain ⟨rfl, rfl⟩ := hA rfl
    go_enter Tryd.func21, Tryd.ntmps21
    go_wp2
    go_ret
    have hl : l = [] := List.eq_nil_of_length_eq_zero hr.len
    subst hl
    exact ⟨none, 0, rfl, World.ownsRow_nil _ _ _ _, Below.refl _ _⟩
  | some a =>
    go_enter Tryd.func21, Tryd.ntmps21
    have hb1 : Below w.heap.size w (w.alloc (.cells #[] 5)) := (Below.refl _ _).alloc (Nat.le_refl _) _
    go_wp2_with (at_builtin; refine append_row rfl (.tmp 5) (.tmp 6) _ rfl 5 i0 _ 1 1 Tryd.underlying22 hi0 hz0 hz1 hz2 rfl (by decide) w.heap.size _ 0 [] rfl (World.ownsRow_lit w #[] 0 (Nat.le_refl _) (by decide) rfl) w.heap.size _ n c (l.map bv) rfl hA (hr.below hb1 (Nat.le_refl _)) (bv_one l) ?h5 ?h6 hb1.size ?_)
    case h5 => unfold maxLen; omega
    case h6 => omega
    intro v2 w2 ho2 hg2 hat2
    obtain ⟨A2, c2, rfl, hA2⟩ := own_form ho2
    go_wp2
    go_ret
    refine ⟨A2, c2, ?_, ?_, hb1.grown hg2 hb1.size fun k hk => ?_⟩
    · simp
    · simpa [OwnBytes] using ho2
    · simp [Value.ownBlock] at hk; omega
end Go.Proofs.YtklijhfieopakaaDoor
