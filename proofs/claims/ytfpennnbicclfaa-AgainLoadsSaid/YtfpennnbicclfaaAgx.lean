/- The document's copies of rows. -/
import Derived.Test.YtfpennnbicclfaaAgw
import Derived.Test.YtfpennnbicclfaaRefB
namespace Go.Proofs.Ytfpennnbicclfaa
open Go.RowKit

namespace Ag
set_option maxHeartbeats 800000 in
theorem refints_any (A : Option Addr) (n c : Nat) (l : List Int) (w : World) (hA : Pl A n c) (hr : KRow iκ w w.heap.size A n l) (hn : n ≤ 1000) :
    Calls Try.prog 27 #[.slice A n c] w fun e w' => ∃ A' c', e = .returned (.slice A' n c') ∧ OwnK iκ w' w.heap.size 3 A' n c' l ∧ Below w.heap.size w w' := by
  obtain ⟨i0, hi0, hz0, hz1, hz2⟩ := info_parts info_int
  have hlen := hr.len (by decide)
  have HR := Lib.hid hr
  have HL := Lib.hid hlen
  clear hr hlen
  go_enter Try.func27, Try.ntmps27
  go_wp2_with (at_make; refine wpList_make_own _ rfl _ _ 48 rfl w.heap.size 3 i0 _ 1 Try.underlying48 hi0 hz0 hz1 .i64 .i64 _ n rfl rfl ?h1 ?h2 ?h3 ?h4 ?_)
  case h1 => rfl
  case h2 => rw [hz2]; omega
  case h3 => unfold maxLen; omega
  case h4 => exact Nat.le_refl _
  intro w1 ho1 hg1
  have hb1 : Below w.heap.size w w1 := (Below.refl _ _).grown hg1 (Nat.le_refl _) (fun k hk => by cases hk)
  have HO1 := Lib.hid ho1
  have HB1 := Lib.hid hb1
  clear ho1 hg1 hb1
  go_wp2_with fail
  go_loopw [3, 4] (fun v i wr => ∃ k : Nat, k ≤ n ∧ i = .int .i64 k ∧ (∃ A1 c1, v = .slice A1 k c1 ∧ OwnK iκ wr w.heap.size 3 A1 k c1 (l.take k)) ∧ Below w.heap.size w wr) (fun _ i _ => n - (intOf i).toNat)
  case atStart => exact ⟨0, Nat.zero_le _, rfl, ⟨_, _, rfl, ⟨by decide, HO1.out⟩⟩, HB1.out⟩
  case round =>
    clear HO1 HB1
    obtain ⟨k, hk, rfl, ⟨A1, c1, rfl, ho⟩, hbw⟩ := hrel
    have hk0 : (0 : Int) ≤ (k : Int) := by omega
    by_cases hlt : k < n
    · have hI : (k : Int) < (n : Int) := by omega
      obtain ⟨b, off, rfl⟩ : ∃ b off, A = some ⟨b, off, none⟩ := by
        rcases hA with ⟨_, h0, _⟩ | h
        · omega
        · exact h
      have hel := i_cell (HR.out.below hbw (Nat.le_refl _)) (j := k) (by have := HL.out; omega)
      have hk' : k < l.length := by have := HL.out; omega
      have H := Lib.hid (List.take_succ_eq_append_getElem hk')
      have hge : l[k]! = l[k] := getElem!_pos l k hk'
      rw [hge] at hel
      clear hge
      generalize hx : l[k] = x at *
      clear hx
      have hal : Below wr.heap.size wr (wr.alloc (.cells #[.int .i64 x] 3)) := (Below.refl _ _).alloc (Nat.le_refl _) _
      have HOa := Lib.hid (ho.below hal (Nat.le_refl _))
      have HBa := Lib.hid (hbw.trans (hal.mono hbw.size))
      have HLIT := Lib.hid (KRow.lit (κ := iκ) wr 3 [x] #[.int .i64 x] rfl)
      have HSZ := Lib.hid (Nat.le_trans hbw.size hal.size)
      clear ho hal hbw
      go_wp2_with (at_builtin; refine append_k (κ := iκ) rfl (.tmp 14) (.tmp 19) 48 3 i0 _ 8 Try.underlying48 hi0 hz0 hz1 hz2 rfl rfl _ w.heap.size _ A1 k c1 (l.take k) _ x rfl HOa.out rfl HLIT.out (by omega) (by decide) HSZ.out ?_; intro A2 c2 w2 ho2 hg2; have HO2 := Lib.hid ho2; have HG2 := Lib.hid hg2; clear ho2 hg2)
      go_roundw
      case measure => simp [intOf]; omega
      case rel => exact ⟨k + 1, by omega, by go_num, ⟨A2, c2, rfl, by rw [H.out]; exact HO2.out⟩, HBa.out.trans (Grew.below HG2.out HOa.out.2 HSZ.out)⟩
    · obtain rfl : k = n := by omega
      rw [List.take_of_length_le (by have := HL.out; omega)] at ho
      go_wp2
      go_ret
      exact ⟨A1, c1, rfl, ho, hbw⟩
set_option maxHeartbeats 800000 in
theorem refchunks_any (A : Option Addr) (n c : Nat) (l : List Part) (w : World) (hA : Pl A n c) (hr : KRow pκ w w.heap.size A n l) (hn : n ≤ 1000) :
    Calls Try.prog 28 #[.slice A n c] w fun e w' => ∃ A' c', e = .returned (.slice A' n c') ∧ OwnK pκ w' w.heap.size 32 A' n c' l ∧ Below w.heap.size w w' := by
  obtain ⟨i0, hi0, hz0, hz1, hz2⟩ := info_parts info_sl
  have hlen := hr.len (by decide)
  have HR := Lib.hid hr
  have HL := Lib.hid hlen
  clear hr hlen
  go_enter Try.func28, Try.ntmps28
  go_wp2_with (at_make; refine wpList_make_own _ rfl _ _ 49 rfl w.heap.size 32 i0 _ 1 Try.underlying49 hi0 hz0 hz1 .i64 .i64 _ n rfl rfl ?h1 ?h2 ?h3 ?h4 ?_)
  case h1 => rfl
  case h2 => rw [hz2]; omega
  case h3 => unfold maxLen; omega
  case h4 => exact Nat.le_refl _
  intro w1 ho1 hg1
  have hb1 : Below w.heap.size w w1 := (Below.refl _ _).grown hg1 (Nat.le_refl _) (fun k hk => by cases hk)
  have HO1 := Lib.hid ho1
  have HB1 := Lib.hid hb1
  clear ho1 hg1 hb1
  go_wp2_with fail
  go_loopw [3, 4] (fun v i wr => ∃ k : Nat, k ≤ n ∧ i = .int .i64 k ∧ (∃ A1 c1, v = .slice A1 k c1 ∧ OwnK pκ wr w.heap.size 32 A1 k c1 (l.take k)) ∧ Below w.heap.size w wr) (fun _ i _ => n - (intOf i).toNat)
  case atStart => exact ⟨0, Nat.zero_le _, rfl, ⟨_, _, rfl, ⟨by decide, HO1.out⟩⟩, HB1.out⟩
  case round =>
    clear HO1 HB1
    obtain ⟨k, hk, rfl, ⟨A1, c1, rfl, ho⟩, hbw⟩ := hrel
    have hk0 : (0 : Int) ≤ (k : Int) := by omega
    by_cases hlt : k < n
    · have hI : (k : Int) < (n : Int) := by omega
      obtain ⟨b, off, rfl⟩ : ∃ b off, A = some ⟨b, off, none⟩ := by
        rcases hA with ⟨_, h0, _⟩ | h
        · omega
        · exact h
      have hel := p_cell (HR.out.below hbw (Nat.le_refl _)) (j := k) (by have := HL.out; omega)
      have hk' : k < l.length := by have := HL.out; omega
      have H := Lib.hid (List.take_succ_eq_append_getElem hk')
      generalize hx : l[k] = x at *
      clear hx
      have hal : Below wr.heap.size wr (wr.alloc (.cells #[.slice x.a x.n x.c] 32)) := (Below.refl _ _).alloc (Nat.le_refl _) _
      have HOa := Lib.hid (ho.below hal (Nat.le_refl _))
      have HBa := Lib.hid (hbw.trans (hal.mono hbw.size))
      have HLIT := Lib.hid (KRow.lit (κ := pκ) wr 32 [x] #[.slice x.a x.n x.c] rfl)
      have HSZ := Lib.hid (Nat.le_trans hbw.size hal.size)
      clear ho hal hbw
      go_wp2_with (at_builtin; refine append_k (κ := pκ) rfl (.tmp 14) (.tmp 19) 49 32 i0 _ 24 Try.underlying49 hi0 hz0 hz1 hz2 rfl rfl _ w.heap.size _ A1 k c1 (l.take k) _ x rfl HOa.out rfl HLIT.out (by omega) (by decide) HSZ.out ?_; intro A2 c2 w2 ho2 hg2; have HO2 := Lib.hid ho2; have HG2 := Lib.hid hg2; clear ho2 hg2)
      go_roundw
      case measure => simp [intOf]; omega
      case rel => exact ⟨k + 1, by omega, by go_num, ⟨A2, c2, rfl, by rw [H.out]; exact HO2.out⟩, HBa.out.trans (Grew.below HG2.out HOa.out.2 HSZ.out)⟩
    · obtain rfl : k = n := by omega
      rw [List.take_of_length_le (by have := HL.out; omega)] at ho
      go_wp2
      go_ret
      exact ⟨A1, c1, rfl, ho, hbw⟩
end Ag
end Go.Proofs.Ytfpennnbicclfaa
