/- A walk of the document's own copy of bytes. -/
import Derived.Test.YtfpennnbicclfaaClone
namespace Go.Proofs.Ytfpennnbicclfaa
open Go.RowKit

set_option maxHeartbeats 400000 in
theorem refbytes_any (A : Option Addr) (n c : Nat) (l : List UInt8) (w : World) (hr : Bytes w w.heap.size A n l) (hn : n ≤ 140737488355328) :
    Calls Try.prog 29 #[.slice A n c] w fun e w' => ∃ A' c', e = .returned (.slice A' n c') ∧ OwnBytes w' w.heap.size 5 A' n c' l ∧ Below w.heap.size w w' := by
  obtain ⟨i0, hi0, hz0, hz1, hz2⟩ := info_parts info_u8
  go_enter Try.func29, Try.ntmps29
  go_wp2_with (at_make; refine wpList_make_own _ rfl _ _ 32 rfl w.heap.size 5 i0 _ 1 Try.underlying32 hi0 hz0 hz1 .i64 .i64 _ n rfl rfl ?h1 ?h2 ?h3 ?h4 ?_)
  case h1 => rfl
  case h2 => rw [hz2]; omega
  case h3 => unfold maxLen; omega
  case h4 => exact Nat.le_refl _
  intro w1 ho1 hg1
  have hb1 : Below w.heap.size w w1 := (Below.refl _ _).grown hg1 (Nat.le_refl _) (fun k hk => by cases hk)
  go_wp2
  go_loopw [3, 4] (fun v i wr => ∃ k : Nat, k ≤ n ∧ i = .int .i64 k ∧ (∃ A1 c1, v = .slice A1 k c1 ∧ OwnBytes wr w.heap.size 5 A1 k c1 (l.take k)) ∧ Below w.heap.size w wr) (fun _ i _ => n - (intOf i).toNat)
  case atStart => exact ⟨0, Nat.zero_le _, rfl, ⟨_, _, rfl, by simpa [OwnBytes] using ho1⟩, hb1⟩
  case round =>
    obtain ⟨k, hk, rfl, ⟨A1, c1, rfl, ho⟩, hbw⟩ := hrel
    by_cases hlt : k < n
    · obtain ⟨b, off, rfl, hb, hc⟩ := (hr.below hbw (Nat.le_refl _)).at_ hlt
      have hs := hbw.size
      have hk' : k < l.length := by rw [hr.len]; exact hlt
      have H := Lib.hid (List.take_succ_eq_append_getElem hk')
      generalize hx : l[k]'hk' = x at *
      clear hx
      have hrow : Row (wr.alloc (.cells #[bv x] 5)) (wr.heap.size + 1) (some ⟨wr.heap.size, 0, none⟩) 1 [bv x] := Row.lit wr #[bv x] 5
      have hal : Below w.heap.size w (wr.alloc (.cells #[bv x] 5)) := hbw.alloc hs _
      have hoa := World.ownsRow.alloc (show wr.ownsRow w.heap.size 5 1 (.slice A1 k c1) k ((l.take k).map bv) from ho) (.cells #[bv x] 5)
      clear ho
      unfold bv at hrow hal hoa
      go_wp2_with (at_builtin; refine append_row rfl (.tmp 14) (.tmp 19) _ rfl 5 i0 _ 1 1 Try.underlying32 hi0 hz0 hz1 hz2 rfl (by decide) w.heap.size _ k _ rfl hoa _ _ 1 1 _ rfl ?h5 hrow ?h6 ?h7 ?h8 hal.size ?_)
      case h5 => intro h; cases h
      case h6 => intro v hv; obtain rfl := List.mem_singleton.1 hv; rfl
      case h7 => unfold maxLen; omega
      case h8 => omega
      intro v2 w2 ho2 hg2 hat2
      go_wp2
      go_roundw
      case measure => simp [intOf]; omega
      case rel =>
        obtain ⟨A2, c2, rfl, _⟩ := own_form ho2
        refine ⟨k + 1, by omega, by go_num, ⟨A2, c2, rfl, ?_⟩, hal.grown hg2 hal.size (fun j hj => (hoa.lt j hj).1)⟩
        unfold OwnBytes
        rw [H.out, List.map_append, List.map_take]
        exact ho2
    · have hkn : l.take k = l := List.take_of_length_le (by rw [hr.len]; omega)
      obtain rfl : k = n := by omega
      rw [hkn] at ho
      go_wp2
      go_ret
      exact ⟨A1, c1, rfl, ho, hbw⟩
end Go.Proofs.Ytfpennnbicclfaa
