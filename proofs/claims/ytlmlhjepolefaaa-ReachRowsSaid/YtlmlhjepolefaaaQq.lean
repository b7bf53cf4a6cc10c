/- The document's Flows: a row of flows said again. -/
import Derived.Test.YtlmlhjepolefaaaGn
import Derived.Test.YtlmlhjepolefaaaOb
namespace Go.Proofs.Ytlmlhjepolefaaa
open Go.RowKit
open Pr
namespace Pr
theorem fl_below {w w' w'' : World} {base : Nat} {A : Option Addr} {n c : Nat} {v : Value} {l : List Fl} (hb : Below base w w') (hg : Grew w' w'' (.slice A n c) v) (ho : OwnK Fl.κ w' base 29 A n c l) (hs : base ≤ w'.heap.size) : Below base w w'' := hb.trans (hg.below ho.2 hs)
set_option maxHeartbeats 800000 in
theorem refflows_any (A : Option Addr) (n c : Nat) (l : List Fl) (w : World) (hr : KRow Fl.κ w w.heap.size A n l) (hn : n ≤ 100000) :
    Calls Try.prog 10 #[.slice A n c] w fun e w' => (∃ A' c', e = .returned (.slice A' n c') ∧ OwnK Fl.κ w' w.heap.size 29 A' n c' l) ∧ Below w.heap.size w w' := by
  obtain ⟨i0, hi0, hz0, hz1, hz2⟩ := info_parts info_flow
  obtain rfl : l.length = n := hr.len (by decide)
  have HR := Lib.hid hr
  clear hr
  go_enter Try.func10, Try.ntmps10
  go_wp2_with (at_make; refine wpList_make_own _ rfl _ _ 25 rfl w.heap.size 29 i0 _ 3 Try.underlying25 hi0 hz0 hz1 .i64 .i64 _ l.length rfl rfl ?h1 ?h2 ?h3 ?h4 ?_)
  case h1 => rfl
  case h2 => rw [hz2]; omega
  case h3 => unfold maxLen; omega
  case h4 => exact Nat.le_refl _
  intro w1 ho1 hg1
  have hb1 : Below w.heap.size w w1 := (Below.refl _ _).grown hg1 (Nat.le_refl _) (fun k hk => by cases hk)
  go_wp2
  go_loopw [3, 4] (fun v i wr => ∃ k : Nat, k ≤ l.length ∧ i = .int .i64 k ∧ (∃ A1 c1, v = .slice A1 k c1 ∧ OwnK Fl.κ wr w.heap.size 29 A1 k c1 (l.take k)) ∧ Below w.heap.size w wr) (fun _ i _ => l.length - (intOf i).toNat)
  case atStart => exact ⟨0, Nat.zero_le _, rfl, ⟨_, _, rfl, by simpa [OwnK, Fl.κ] using ho1⟩, hb1⟩
  case round =>
    obtain ⟨k, hk, rfl, ⟨A1, c1, rfl, ho⟩, hbw⟩ := hrel
    have hk0 : (0 : Int) ≤ (k : Int) := by omega
    by_cases hlt : k < l.length
    · have hI : (k : Int) < (l.length : Int) := by omega
      obtain ⟨b, off, rfl, _, _⟩ := HR.out.2 (by omega)
      obtain ⟨f0, f1, f2⟩ := fl_at (HR.out.below hbw (Nat.le_refl _)) hlt
      have H := Lib.hid (show l.take (k + 1) = l.take k ++ [l[k]!] by rw [getElem!_pos l k hlt]; exact List.take_succ_eq_append_getElem hlt)
      generalize l[k]! = f at *
      have hba : Below wr.heap.size wr (wr.alloc (.cells #[.int .i64 f.frm, .int .i64 f.til, .string f.cond] 29)) := (Below.refl _ _).alloc (Nat.le_refl _) _
      have HOa := Lib.hid (ho.below hba (Nat.le_refl _))
      have HBa := Lib.hid (hbw.trans (hba.mono hbw.size))
      have HRa : Hid (KRow Fl.κ (wr.alloc (.cells #[.int .i64 f.frm, .int .i64 f.til, .string f.cond] 29)) (wr.heap.size + 1) (some ⟨wr.heap.size, 0, none⟩) 1 [f]) := Lib.hid (KRow.lit (κ := Fl.κ) wr 29 [f] #[.int .i64 f.frm, .int .i64 f.til, .string f.cond] rfl)
      have hbw' : w.heap.size ≤ (wr.alloc (.cells #[.int .i64 f.frm, .int .i64 f.til, .string f.cond] 29)).heap.size := by have := hba.size; have := hbw.size; omega
      clear ho hbw hba hb1 ho1 hg1
      go_wp2_with (at_builtin; refine append_k (κ := Fl.κ) rfl (.tmp 14) (.tmp 19) 25 29 i0 _ 32 Try.underlying25 hi0 hz0 hz1 hz2 rfl rfl _ w.heap.size _ A1 k c1 (l.take k) ⟨wr.heap.size, 0, none⟩ f rfl HOa.out rfl HRa.out (by omega) (by decide) hbw' ?_; intro A2 c2 w2 ho2 hg2)
      have HF := Lib.hid (fl_below HBa.out hg2 HOa.out hbw')
      clear hg2
      go_wp2
      go_roundw
      case measure => simp [intOf]; omega
      case rel => exact ⟨k + 1, by omega, by go_num, ⟨A2, c2, rfl, by rw [H.out]; exact ho2⟩, HF.out⟩
    · have hkn : l.take k = l := List.take_of_length_le (by omega)
      obtain rfl : k = l.length := by omega
      rw [hkn] at ho
      go_wp2
      go_ret
      exact ⟨⟨A1, c1, rfl, ho⟩, hbw⟩
end Pr
end Go.Proofs.Ytlmlhjepolefaaa
