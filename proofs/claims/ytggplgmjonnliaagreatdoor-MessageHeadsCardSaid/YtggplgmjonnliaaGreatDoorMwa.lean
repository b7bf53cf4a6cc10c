/- Package message: the document's SameRequest of two equal Unlocks. Printed by tools/specs/message/heads.py. -/
import Derived.Test.YtggplgmjonnliaaGreatDoorMsa
import Derived.Test.YtggplgmjonnliaaGreatDoorCel
import Derived.StringKeys
namespace Go.Proofs.YtggplgmjonnliaaGreatDoor
open Go.RowKit

namespace Ms
set_option maxHeartbeats 800000 in
theorem dv_nil (w : World) : Calls Tryz.prog 27 #[.slice none 0 0, .slice none 0 0] w fun e w' => e = .returned (.bool true) ∧ w = w' := by
  go_enter Tryz.func27, Tryz.ntmps27
  go_wp2
  refine wp_loop_rounds 1 ?_
  rw [rounds_succ]
  go_wp2
  go_ret
  exact ⟨rfl, rfl⟩
set_option maxHeartbeats 800000 in
theorem dt_nil (w : World) : Calls Tryz.prog 28 #[.slice none 0 0, .slice none 0 0] w fun e w' => e = .returned (.bool true) ∧ w = w' := by
  go_enter Tryz.func28, Tryz.ntmps28
  go_wp2
  refine wp_loop_rounds 1 ?_
  rw [rounds_succ]
  go_wp2
  go_ret
  exact ⟨rfl, rfl⟩
set_option maxHeartbeats 800000 in
theorem dn_nil (w : World) : Calls Tryz.prog 51 #[.slice none 0 0, .slice none 0 0] w fun e w' => e = .returned (.bool true) ∧ w = w' := by
  go_enter Tryz.func51, Tryz.ntmps51
  go_wp2
  refine wp_loop_rounds 1 ?_
  rw [rounds_succ]
  go_wp2
  go_ret
  exact ⟨rfl, rfl⟩
set_option maxHeartbeats 800000 in
theorem df_nil (w : World) : Calls Tryz.prog 52 #[.slice none 0 0, .slice none 0 0] w fun e w' => e = .returned (.bool true) ∧ w = w' := by
  go_enter Tryz.func52, Tryz.ntmps52
  go_wp2
  refine wp_loop_rounds 1 ?_
  rw [rounds_succ]
  go_wp2
  go_ret
  exact ⟨rfl, rfl⟩
theorem bel_on {w w' : World} (h : Below w.heap.size w w') (o : Obj) : Below w.heap.size w (w'.alloc o) := h.alloc h.size o
set_option maxHeartbeats 1600000 in
theorem dhead_same (wk : ByteArray) (inc key : Int) (w : World) : Calls Tryz.prog 25 #[.agg #[.string wk, .int .i64 inc, .int .i64 key], .agg #[.string wk, .int .i64 inc, .int .i64 key]] w fun e w' => e = .returned (.bool true) ∧ Below w.heap.size w w' := by
  have HB := Lib.hid (bel_on (bel_on (Below.refl w.heap.size w) (.cells #[.string wk, .int .i64 inc, .int .i64 key] 25)) (.cells #[.string wk, .int .i64 inc, .int .i64 key] 25))
  have hca := (Cel.lit w #[.string wk, .int .i64 inc, .int .i64 key] 25).alloc (.cells #[.string wk, .int .i64 inc, .int .i64 key] 25)
  have hcb := Cel.lit (w.alloc (.cells #[.string wk, .int .i64 inc, .int .i64 key] 25)) #[.string wk, .int .i64 inc, .int .i64 key] 25
  rw [show (w.alloc (.cells #[.string wk, .int .i64 inc, .int .i64 key] 25)).heap.size = w.heap.size + 1 by simp] at hcb
  have HCA := Lib.hid hca
  have HCB := Lib.hid hcb
  clear hca hcb
  go_enter Tryz.func25, Tryz.ntmps25
  go_upto_region 1 with (fail)
  generalize (w.alloc _).alloc _ = w2 at *
  generalize w.heap.size + 1 = zb at *
  have a0 := HCA.out.cell 0 _ rfl
  have a1 := HCA.out.cell 1 _ rfl
  have a2 := HCA.out.cell 2 _ rfl
  have b0 := HCB.out.cell 0 _ rfl
  have b1 := HCB.out.cell 1 _ rfl
  have b2 := HCB.out.cell 2 _ rfl
  go_wp2
  go_ret
  exact ⟨by simp, HB.out⟩
set_option maxHeartbeats 1600000 in
theorem dproc_nil (w : World) : Calls Tryz.prog 26 #[.agg #[.string ⟨#[]⟩, .slice none 0 0, .slice none 0 0], .agg #[.string ⟨#[]⟩, .slice none 0 0, .slice none 0 0]] w fun e w' => e = .returned (.bool true) ∧ Below w.heap.size w w' := by
  have HB := Lib.hid (bel_on (bel_on (Below.refl w.heap.size w) (.cells #[.string ⟨#[]⟩, .slice none 0 0, .slice none 0 0] 29)) (.cells #[.string ⟨#[]⟩, .slice none 0 0, .slice none 0 0] 29))
  have hca := (Cel.lit w #[.string ⟨#[]⟩, .slice none 0 0, .slice none 0 0] 29).alloc (.cells #[.string ⟨#[]⟩, .slice none 0 0, .slice none 0 0] 29)
  have hcb := Cel.lit (w.alloc (.cells #[.string ⟨#[]⟩, .slice none 0 0, .slice none 0 0] 29)) #[.string ⟨#[]⟩, .slice none 0 0, .slice none 0 0] 29
  rw [show (w.alloc (.cells #[.string ⟨#[]⟩, .slice none 0 0, .slice none 0 0] 29)).heap.size = w.heap.size + 1 by simp] at hcb
  have HCA := Lib.hid hca
  have HCB := Lib.hid hcb
  have HN := Lib.hid dn_nil
  have HFl := Lib.hid df_nil
  clear hca hcb
  go_enter Tryz.func26, Tryz.ntmps26
  go_upto_region 1 with (fail)
  generalize (w.alloc _).alloc _ = w2 at *
  generalize w.heap.size + 1 = zb at *
  have a0 := HCA.out.cell 0 _ rfl
  have a1 := HCA.out.cell 1 _ rfl
  have a2 := HCA.out.cell 2 _ rfl
  have b0 := HCB.out.cell 0 _ rfl
  have b1 := HCB.out.cell 1 _ rfl
  have b2 := HCB.out.cell 2 _ rfl
  go_wp2_with (first
    | (go_at_call 51; refine (HN.out _).mono ?_; rintro e w3 ⟨rfl, hw⟩; subst hw)
    | (go_at_call 52; refine (HFl.out _).mono ?_; rintro e w3 ⟨rfl, hw⟩; subst hw))
  go_ret
  exact ⟨by simp, HB.out⟩
set_option maxRecDepth 10000 in
set_option maxHeartbeats 3200000 in
theorem dreq_same (wk : ByteArray) (inc key task : Int) (w : World) : Calls Tryz.prog 9 #[.agg #[.string wk, .int .i64 inc, .int .i64 key, .int .i64 5, .string ⟨#[]⟩, .slice none 0 0, .slice none 0 0, .string ⟨#[]⟩, .slice none 0 0, .slice none 0 0, .int .i64 0, .int .i64 0, .int .i64 task, .int .i64 3, .int .i64 0, .string ⟨#[]⟩], .agg #[.string wk, .int .i64 inc, .int .i64 key, .int .i64 5, .string ⟨#[]⟩, .slice none 0 0, .slice none 0 0, .string ⟨#[]⟩, .slice none 0 0, .slice none 0 0, .int .i64 0, .int .i64 0, .int .i64 task, .int .i64 3, .int .i64 0, .string ⟨#[]⟩]] w fun e w' => e = .returned (.bool true) ∧ Below w.heap.size w w' := by
  have HB := Lib.hid (bel_on (bel_on (Below.refl w.heap.size w) (.cells #[.string wk, .int .i64 inc, .int .i64 key, .int .i64 5, .string ⟨#[]⟩, .slice none 0 0, .slice none 0 0, .string ⟨#[]⟩, .slice none 0 0, .slice none 0 0, .int .i64 0, .int .i64 0, .int .i64 task, .int .i64 3, .int .i64 0, .string ⟨#[]⟩] 33)) (.cells #[.string wk, .int .i64 inc, .int .i64 key, .int .i64 5, .string ⟨#[]⟩, .slice none 0 0, .slice none 0 0, .string ⟨#[]⟩, .slice none 0 0, .slice none 0 0, .int .i64 0, .int .i64 0, .int .i64 task, .int .i64 3, .int .i64 0, .string ⟨#[]⟩] 33))
  have hca := (Cel.lit w #[.string wk, .int .i64 inc, .int .i64 key, .int .i64 5, .string ⟨#[]⟩, .slice none 0 0, .slice none 0 0, .string ⟨#[]⟩, .slice none 0 0, .slice none 0 0, .int .i64 0, .int .i64 0, .int .i64 task, .int .i64 3, .int .i64 0, .string ⟨#[]⟩] 33).alloc (.cells #[.string wk, .int .i64 inc, .int .i64 key, .int .i64 5, .string ⟨#[]⟩, .slice none 0 0, .slice none 0 0, .string ⟨#[]⟩, .slice none 0 0, .slice none 0 0, .int .i64 0, .int .i64 0, .int .i64 task, .int .i64 3, .int .i64 0, .string ⟨#[]⟩] 33)
  have hcb := Cel.lit (w.alloc (.cells #[.string wk, .int .i64 inc, .int .i64 key, .int .i64 5, .string ⟨#[]⟩, .slice none 0 0, .slice none 0 0, .string ⟨#[]⟩, .slice none 0 0, .slice none 0 0, .int .i64 0, .int .i64 0, .int .i64 task, .int .i64 3, .int .i64 0, .string ⟨#[]⟩] 33)) #[.string wk, .int .i64 inc, .int .i64 key, .int .i64 5, .string ⟨#[]⟩, .slice none 0 0, .slice none 0 0, .string ⟨#[]⟩, .slice none 0 0, .slice none 0 0, .int .i64 0, .int .i64 0, .int .i64 task, .int .i64 3, .int .i64 0, .string ⟨#[]⟩] 33
  rw [show (w.alloc (.cells #[.string wk, .int .i64 inc, .int .i64 key, .int .i64 5, .string ⟨#[]⟩, .slice none 0 0, .slice none 0 0, .string ⟨#[]⟩, .slice none 0 0, .slice none 0 0, .int .i64 0, .int .i64 0, .int .i64 task, .int .i64 3, .int .i64 0, .string ⟨#[]⟩] 33)).heap.size = w.heap.size + 1 by simp] at hcb
  obtain ⟨w2, hw2⟩ : ∃ w2, w2 = (w.alloc (.cells #[.string wk, .int .i64 inc, .int .i64 key, .int .i64 5, .string ⟨#[]⟩, .slice none 0 0, .slice none 0 0, .string ⟨#[]⟩, .slice none 0 0, .slice none 0 0, .int .i64 0, .int .i64 0, .int .i64 task, .int .i64 3, .int .i64 0, .string ⟨#[]⟩] 33)).alloc (.cells #[.string wk, .int .i64 inc, .int .i64 key, .int .i64 5, .string ⟨#[]⟩, .slice none 0 0, .slice none 0 0, .string ⟨#[]⟩, .slice none 0 0, .slice none 0 0, .int .i64 0, .int .i64 0, .int .i64 task, .int .i64 3, .int .i64 0, .string ⟨#[]⟩] 33) := ⟨_, rfl⟩
  rw [← hw2] at HB hca hcb
  have HCA := Lib.hid hca
  have HCB := Lib.hid hcb
  have HH := Lib.hid (fun W => dhead_same wk inc key W)
  have HP := Lib.hid dproc_nil
  have HV := Lib.hid dv_nil
  have HT := Lib.hid dt_nil
  have ha := HCA.out
  have hb := HCB.out
  clear hca hcb
  have a0 := ha.cell 0 _ rfl
  have b0 := hb.cell 0 _ rfl
  have a1 := ha.cell 1 _ rfl
  have b1 := hb.cell 1 _ rfl
  have a2 := ha.cell 2 _ rfl
  have b2 := hb.cell 2 _ rfl
  have a3 := ha.cell 3 _ rfl
  have b3 := hb.cell 3 _ rfl
  have a4 := ha.cell 4 _ rfl
  have b4 := hb.cell 4 _ rfl
  have a5 := ha.cell 5 _ rfl
  have b5 := hb.cell 5 _ rfl
  have a6 := ha.cell 6 _ rfl
  have b6 := hb.cell 6 _ rfl
  have a7 := ha.cell 7 _ rfl
  have b7 := hb.cell 7 _ rfl
  have a8 := ha.cell 8 _ rfl
  have b8 := hb.cell 8 _ rfl
  have a9 := ha.cell 9 _ rfl
  have b9 := hb.cell 9 _ rfl
  have a10 := ha.cell 10 _ rfl
  have b10 := hb.cell 10 _ rfl
  have a11 := ha.cell 11 _ rfl
  have b11 := hb.cell 11 _ rfl
  have a12 := ha.cell 12 _ rfl
  have b12 := hb.cell 12 _ rfl
  have a13 := ha.cell 13 _ rfl
  have b13 := hb.cell 13 _ rfl
  have a14 := ha.cell 14 _ rfl
  have b14 := hb.cell 14 _ rfl
  have a15 := ha.cell 15 _ rfl
  have b15 := hb.cell 15 _ rfl
  clear ha hb
  rw [hw2] at a0 b0 a1 b1 a2 b2 a3 b3 a4 b4 a5 b5 a6 b6 a7 b7 a8 b8 a9 b9 a10 b10 a11 b11 a12 b12 a13 b13 a14 b14 a15 b15
  go_enter Tryz.func9, Tryz.ntmps9
  go_wp2_with (first
    | (go_at_call 25; (with_reducible refine (HH.out _).mono ?_); rintro e w3 ⟨rfl, hb3⟩; rw [← hw2] at hb3; have H3 := Lib.hid hb3; clear hb3 a0 b0 a1 b1 a2 b2 a3 b3 a4 b4 a5 b5 a6 b6 a7 b7 a8 b8 a9 b9 a10 b10 a11 b11 a12 b12 a13 b13 a14 b14 a15 b15; have ha := HCA.out.below H3.out (Nat.le_refl _); have hb := HCB.out.below H3.out (Nat.le_refl _); have a0 := ha.cell 0 _ rfl; have a1 := ha.cell 1 _ rfl; have a2 := ha.cell 2 _ rfl; have a3 := ha.cell 3 _ rfl; have a4 := ha.cell 4 _ rfl; have a5 := ha.cell 5 _ rfl; have a6 := ha.cell 6 _ rfl; have a7 := ha.cell 7 _ rfl; have a8 := ha.cell 8 _ rfl; have a9 := ha.cell 9 _ rfl; have a10 := ha.cell 10 _ rfl; have a11 := ha.cell 11 _ rfl; have a12 := ha.cell 12 _ rfl; have a13 := ha.cell 13 _ rfl; have a14 := ha.cell 14 _ rfl; have a15 := ha.cell 15 _ rfl; have b0 := hb.cell 0 _ rfl; have b1 := hb.cell 1 _ rfl; have b2 := hb.cell 2 _ rfl; have b3 := hb.cell 3 _ rfl; have b4 := hb.cell 4 _ rfl; have b5 := hb.cell 5 _ rfl; have b6 := hb.cell 6 _ rfl; have b7 := hb.cell 7 _ rfl; have b8 := hb.cell 8 _ rfl; have b9 := hb.cell 9 _ rfl; have b10 := hb.cell 10 _ rfl; have b11 := hb.cell 11 _ rfl; have b12 := hb.cell 12 _ rfl; have b13 := hb.cell 13 _ rfl; have b14 := hb.cell 14 _ rfl; have b15 := hb.cell 15 _ rfl; clear ha hb)
    | (go_at_call 26; (with_reducible refine (HP.out _).mono ?_); rintro e w4 ⟨rfl, hb4⟩; have H4 := Lib.hid (H3.out.trans (hb4.mono H3.out.size)); clear hb4 a0 b0 a1 b1 a2 b2 a3 b3 a4 b4 a5 b5 a6 b6 a7 b7 a8 b8 a9 b9 a10 b10 a11 b11 a12 b12 a13 b13 a14 b14 a15 b15; have ha := HCA.out.below H4.out (Nat.le_refl _); have hb := HCB.out.below H4.out (Nat.le_refl _); have a0 := ha.cell 0 _ rfl; have a1 := ha.cell 1 _ rfl; have a2 := ha.cell 2 _ rfl; have a3 := ha.cell 3 _ rfl; have a4 := ha.cell 4 _ rfl; have a5 := ha.cell 5 _ rfl; have a6 := ha.cell 6 _ rfl; have a7 := ha.cell 7 _ rfl; have a8 := ha.cell 8 _ rfl; have a9 := ha.cell 9 _ rfl; have a10 := ha.cell 10 _ rfl; have a11 := ha.cell 11 _ rfl; have a12 := ha.cell 12 _ rfl; have a13 := ha.cell 13 _ rfl; have a14 := ha.cell 14 _ rfl; have a15 := ha.cell 15 _ rfl; have b0 := hb.cell 0 _ rfl; have b1 := hb.cell 1 _ rfl; have b2 := hb.cell 2 _ rfl; have b3 := hb.cell 3 _ rfl; have b4 := hb.cell 4 _ rfl; have b5 := hb.cell 5 _ rfl; have b6 := hb.cell 6 _ rfl; have b7 := hb.cell 7 _ rfl; have b8 := hb.cell 8 _ rfl; have b9 := hb.cell 9 _ rfl; have b10 := hb.cell 10 _ rfl; have b11 := hb.cell 11 _ rfl; have b12 := hb.cell 12 _ rfl; have b13 := hb.cell 13 _ rfl; have b14 := hb.cell 14 _ rfl; have b15 := hb.cell 15 _ rfl; clear ha hb)
    | (go_at_call 27; (with_reducible refine (HV.out _).mono ?_); rintro e w5 ⟨rfl, hw⟩; subst hw)
    | (go_at_call 28; (with_reducible refine (HT.out _).mono ?_); rintro e w5 ⟨rfl, hw⟩; subst hw))
  go_ret
  exact ⟨by simp, HB.out.trans (H4.out.mono HB.out.size)⟩
end Ms
end Go.Proofs.YtggplgmjonnliaaGreatDoor
