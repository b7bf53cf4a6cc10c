/- Walks of the statements' own helpers: Number, Bytes, SameBytes, first. -/
import Derived.Test.YtklijhfieopakaaDoorWc
namespace Go.Proofs.YtklijhfieopakaaDoor
open Go.RowKit

set_option maxHeartbeats 400000 in
theorem number_any (n : Int) (b : Int) (w : World) (hb : 0 < b) (_h1 : -9223372036854775808 ≤ n) (_h2 : n ≤ 9223372036854775807) (h3 : b ≤ 4611686018427387904) :
    Calls Tryd.prog 18 #[.int .i64 n, .int .i64 b] w fun e w' => (∃ k : Nat, e = .returned (.int .i64 k) ∧ (k : Int) < b) ∧ w = w' := by
  have hb0 : (b == 0) = false := by simp; omega
  have e1 : n.tmod b < b := Int.tmod_lt_of_pos _ hb
  have e2 : -b < n.tmod b := by
    have := Int.lt_tmod_of_pos n hb
    omega
  by_cases hr : n.tmod b < 0
  · go_enter Tryd.func18, Tryd.ntmps18
    go_wp2
    go_ret
    exact ⟨⟨(n.tmod b + b).toNat, ret_int (by omega), by omega⟩, rfl⟩
  · go_enter Tryd.func18, Tryd.ntmps18
    go_wp2
    go_ret
    exact ⟨⟨(n.tmod b).toNat, ret_int (by omega), by omega⟩, rfl⟩

set_option maxHeartbeats 400000 in
theorem refbytes_any (A : Option Addr) (n c : Nat) (l : List UInt8) (w : World) (hr : Bytes w w.heap.size A n l) (hn : n ≤ 70368744177664) :
    Calls Tryd.prog 8 #[.slice A n c] w fun e w' => ∃ A' c', e = .returned (.slice A' n c') ∧ OwnBytes w' w.heap.size 5 A' n c' l ∧ Below w.heap.size w w' := by
  obtain ⟨i0, hi0, hz0, hz1, hz2⟩ := info_parts info_u8
  go_enter Tryd.func8, Tryd.ntmps8
  go_wp2_with (at_make; refine wpList_make_own _ rfl _ _ 22 rfl w.heap.size 5 i0 _ 1 Tryd.underlying22 hi0 hz0 hz1 .i64 .i64 _ n rfl rfl ?h1 ?h2 ?h3 ?h4 ?_)
  case h1 => rfl
  case h2 => rw [hz2]; omega
  case h3 => unfold maxLen; omega
  case h4 => exact Nat.le_refl _
  intro w1 ho1 hg1
  have hb1 : Below w.heap.size w w1 := (Below.refl _ _).grown hg1 (Nat.le_refl _) (fun k hk => by cases hk)
  go_wp2
  go_loopw [3, 4] (fun v i wr => ∃ k : Nat, k ≤ n ∧ i = .int .i64 k ∧ (∃ A1 c1, v = .slice A1 k c1 ∧ OwnBytes wr w.heap.size 5 A1 k c1 (l.take k)) ∧ Below w.heap.size w wr) (fun _ i _ => n - (intOf i).toNat)
  case atStart => exact ⟨0, Nat.zero_le _, rfl, ⟨_, _, rfl, by simpa [OwnBytes] using ho1⟩, hb1⟩
  case round =>
    obtain ⟨k, hk, rfl, ⟨A1, c1, rfl, ho⟩, hbw⟩ := hrel
    by_cases hlt : k < n
    · obtain ⟨b, off, rfl, hb, hc⟩ := (hr.below hbw (Nat.le_refl _)).at_ hlt
      have hs := hbw.size
      have hk' : k < l.length := by rw [hr.len]; exact hlt
      have H := Lib.hid (List.take_succ_eq_append_getElem hk')
      generalize hx : l[k]'hk' = x at *
      clear hx
      have hrow : Row (wr.alloc (.cells #[bv x] 5)) (wr.heap.size + 1) (some ⟨wr.heap.size, 0, none⟩) 1 [bv x] := Row.lit wr #[bv x] 5
      have hal : Below w.heap.size w (wr.alloc (.cells #[bv x] 5)) := hbw.alloc hs _
      have hoa := World.ownsRow.alloc (show wr.ownsRow w.heap.size 5 1 (.slice A1 k c1) k ((l.take k).map bv) from ho) (.cells #[bv x] 5)
      clear ho
      unfold bv at hrow hal hoa
      go_wp2_with (at_builtin; refine append_row rfl (.tmp 14) (.tmp 19) _ rfl 5 i0 _ 1 1 Tryd.underlying22 hi0 hz0 hz1 hz2 rfl (by decide) w.heap.size _ k _ rfl hoa _ _ 1 1 _ rfl ?h5 hrow ?h6 ?h7 ?h8 hal.size ?_)
      case h5 => intro h; cases h
      case h6 => intro v hv; obtain rfl := List.mem_singleton.1 hv; rfl
      case h7 => unfold maxLen; omega
      case h8 => omega
      intro v2 w2 ho2 hg2 hat2
      go_wp2
      go_roundw
      case measure => simp [intOf]; omega
      case rel =>
        obtain ⟨A2, c2, rfl, _⟩ := own_form ho2
        refine ⟨k + 1, by omega, by go_num, ⟨A2, c2, rfl, ?_⟩, hal.grown hg2 hal.size (fun j hj => (hoa.lt j hj).1)⟩
        unfold OwnBytes
        rw [H.out, List.map_append, List.map_take]
        exact ho2
    · have hkn : l.take k = l := List.take_of_length_le (by rw [hr.len]; omega)
      obtain rfl : k = n := by omega
      rw [hkn] at ho
      go_wp2
      go_ret
      exact ⟨A1, c1, rfl, ho, hbw⟩

theorem take_eq_succ (l l' : List UInt8) (k : Nat) (h : k < l.length) (h' : k < l'.length) (ht : l.take k = l'.take k) (hx : l[k] = l'[k]) : l.take (k + 1) = l'.take (k + 1) := by
  rw [List.take_succ_eq_append_getElem h, List.take_succ_eq_append_getElem h', ht, hx]
theorem u8_ne {x y : UInt8} (h : x ≠ y) : ((x.toNat : Int) == (y.toNat : Int)) = false := by
  rw [beq_eq_false_iff_ne]
  intro e
  exact h (UInt8.toNat_inj.1 (by omega))

set_option maxHeartbeats 800000 in
theorem same_any (A A' : Option Addr) (n n' c c' : Nat) (l l' : List UInt8) (w : World) (hr : Bytes w w.heap.size A n l) (hr' : Bytes w w.heap.size A' n' l') (hn : n ≤ 70368744177664) (hn' : n' ≤ 70368744177664) :
    Calls Tryd.prog 16 #[.slice A n c, .slice A' n' c'] w fun e w' => e = .returned (.bool (l == l')) ∧ Below w.heap.size w w' := by
  by_cases hne : n = n'
  · subst hne
    have h0 : (bne (n : Int) (n : Int)) = false := by simp
    go_enter Tryd.func16, Tryd.ntmps16
    go_wp2
    go_loopw [5] (fun i wr => ∃ k : Nat, k ≤ n ∧ i = .int .i64 k ∧ l.take k = l'.take k ∧ Below w.heap.size w wr) (fun i _ => n - (intOf i).toNat)
    case atStart => exact ⟨0, Nat.zero_le _, rfl, rfl, Below.refl _ _⟩
    case round =>
      obtain ⟨k, hk, rfl, htk, hbw⟩ := hrel
      have HT := Lib.hid htk
      clear htk
      by_cases hlt : k < n
      · obtain ⟨b, off, rfl, hb, hc⟩ := (hr.below hbw (Nat.le_refl _)).at_ hlt
        obtain ⟨b', off', rfl, hb', hc'⟩ := (hr'.below hbw (Nat.le_refl _)).at_ hlt
        have hk1 : k < l.length := by rw [hr.len]; exact hlt
        have hk2 : k < l'.length := by rw [hr'.len]; exact hlt
        by_cases hxy : l[k]'hk1 = l'[k]'hk2
        · have H := Lib.hid (take_eq_succ l l' k hk1 hk2 HT.out hxy)
          rw [← hxy] at hc'
          generalize l[k]'hk1 = x at *
          have hbb : ((x.toNat : Int) == (x.toNat : Int)) = true := by simp
          clear hxy
          go_wp2
          go_quiet (fail)
          go_wp2
          go_roundw
          case measure => simp [intOf]; omega
          case rel => exact ⟨k + 1, by omega, by go_num, H.out, below_drewN hbw _⟩
        · have hbb := u8_ne hxy
          have H : Hid ((l == l') = false) := by
            refine Lib.hid ?_
            rw [beq_eq_false_iff_ne]
            intro e
            subst e
            exact hxy rfl
          generalize l[k]'hk1 = x at *
          generalize l'[k]'hk2 = y at *
          clear hxy
          go_wp2
          go_quiet (fail)
          go_wp2
          go_ret
          rw [H.out]
          exact ⟨rfl, below_drewN hbw _⟩
      · have hkn : k = n := by omega
        have H : Hid ((l == l') = true) := by
          refine Lib.hid ?_
          have h := HT.out
          rw [List.take_of_length_le (by rw [hr.len]; omega), List.take_of_length_le (by rw [hr'.len]; omega)] at h
          rw [h]; simp
        clear hkn
        go_wp2
        go_ret
        rw [H.out]
        exact ⟨rfl, hbw⟩
  · have h0 : (bne (n : Int) (n' : Int)) = true := by simp; omega
    have h1 : (l == l') = false := by
      rw [beq_eq_false_iff_ne]
      intro h
      apply hne
      rw [← hr.len, ← hr'.len, h]
    rw [h1]
    go_enter Tryd.func16, Tryd.ntmps16
    go_wp2
    go_ret
    exact ⟨rfl, Below.refl _ _⟩
end Go.Proofs.YtklijhfieopakaaDoor
