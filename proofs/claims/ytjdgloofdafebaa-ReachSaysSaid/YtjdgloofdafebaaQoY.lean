/- Package reach: the chapter's example; ReachBoth: the walk. -/
import Derived.Test.YtjdgloofdafebaaQnY
import Derived.Test.YtjdgloofdafebaaLmY
import Derived.Test.YtjdgloofdafebaaOsY
namespace Go.Proofs.Ytjdgloofdafebaa
open Go.RowKit
open Pr
theorem first_len : (Rc.ord 2 (nxt 2 [⟨0, 1, no⟩] 1)).length = 2 ∧ Rc.lg (nxt 2 [⟨0, 1, no⟩] 1) (Rc.ord 2 (nxt 2 [⟨0, 1, no⟩] 1)) = 1 := by decide +kernel
set_option maxHeartbeats 800000 in
theorem rfirst_any (w : World) : Calls Try.prog 4 #[] w fun e w' => e = .returned (.bool true) ∧ Below w.heap.size w w' := by
  obtain ⟨i0, hi0, hz0, hz1, hz2⟩ := info_parts info_node
  go_enter Try.func4, Try.ntmps4
  go_wp2_with (at_make; refine wpList_make_full _ rfl _ _ 22 rfl w.heap.size 48 i0 _ 8 Try.underlying22 hi0 hz0 hz1 .i64 .i64 _ _ 2 rfl rfl rfl rfl (by rw [hz2]; omega) (by unfold maxLen; omega) (Nat.le_refl _) ?_; intro w1 ho1 hg1)
  have HB1 := Lib.hid ((Below.refl w.heap.size w).grown hg1 (Nat.le_refl _) (fun k hk => by cases hk))
  have hba : Below w1.heap.size w1 (w1.alloc (.cells #[.int .i64 0, .int .i64 1, .string ⟨#[]⟩] 40)) := (Below.refl _ _).alloc (Nat.le_refl _) _
  have HBa := Lib.hid (HB1.out.trans (hba.mono HB1.out.size))
  have HR : Hid (KRow Fl.κ (w1.alloc (.cells #[.int .i64 0, .int .i64 1, .string ⟨#[]⟩] 40)) (w1.heap.size + 1) (some ⟨w1.heap.size, 0, none⟩) 1 [⟨0, 1, no⟩]) := Lib.hid (KRow.lit (κ := Fl.κ) w1 40 [⟨0, 1, no⟩] #[.int .i64 0, .int .i64 1, .string ⟨#[]⟩] rfl)
  have hsz : (w1.alloc (.cells #[.int .i64 0, .int .i64 1, .string ⟨#[]⟩] 40)).heap.size = w1.heap.size + 1 := by simp
  have HL := Lib.hid (rlongest_any ⟨#[]⟩ (some ⟨w.heap.size, 0, none⟩) 2 2 (some ⟨w1.heap.size, 0, none⟩) 1 1 [⟨0, 1, no⟩] (w1.alloc (.cells #[.int .i64 0, .int .i64 1, .string ⟨#[]⟩] 40)) (by rw [hsz]; exact HR.out) (by decide) (by decide))
  clear hba hsz ho1 hg1 HR
  refine HL.out.mono ?_
  rintro e w2 ⟨ho, hb⟩
  have HB2 := Lib.hid (HBa.out.trans (hb.mono HBa.out.size))
  rcases ho with ⟨_, rfl⟩ | ⟨h1, _⟩
  · rw [first_len.2]
    go_wp2
    go_ret
    exact ⟨rfl, HB2.out⟩
  · rw [first_len.1] at h1
    omega
theorem both_same {n : Nat} {fl : List Fl} {m : Nat} {a b : Nat} (ha : a < n) (hb : b < n) : Pr.Comes n (nxt n fl m) a b ↔ Pr.Comes n (bck n fl m) b a := by
  constructor
  · rintro ⟨a', e, _, h⟩
    obtain rfl : a = a' := by omega
    exact ⟨b, rfl, hb, h.turn fun x y h => nxt_bck.1 h⟩
  · rintro ⟨b', e, _, h⟩
    obtain rfl : b = b' := by omega
    exact ⟨a, rfl, ha, h.turn fun x y h => nxt_bck.2 h⟩
theorem comes_trans {n : Nat} {L : Nat → List Nat} {a b c : Nat} (h : Pr.Comes n L a b) (h2 : Pr.Comes n L b c) : Pr.Comes n L a c := by
  obtain ⟨a', e, h3, h4⟩ := h
  obtain ⟨b', e2, _, h6⟩ := h2
  obtain rfl : b = b' := by omega
  exact ⟨a', e, h3, h4.trans h6⟩
end Go.Proofs.Ytjdgloofdafebaa
