/- Package message: Same of two Unlocks that differ; their bytes. Printed by tools/specs/message/heads.py. -/
import Derived.Test.YtggplgmjonnliaaGreatDoorMwc
import Derived.Test.YtggplgmjonnliaaGreatDoorRk
import Derived.Test.YtggplgmjonnliaaGreatDoorMsf
import Derived.Deep.MidRow
namespace Go.Proofs.YtggplgmjonnliaaGreatDoor
open Go.RowKit

namespace Ms
set_option maxRecDepth 10000 in
set_option maxHeartbeats 1600000 in
theorem same_ne (wk wk' : ByteArray) (inc inc' key key' task task' : Int) (w : World) (h : (wk.toList == wk'.toList) = false ∨ ((wk.toList == wk'.toList) = true ∧ (inc == inc') = false) ∨ ((wk.toList == wk'.toList) = true ∧ (inc == inc') = true ∧ (key == key') = false)) :
    Calls Tryz.prog 11 #[.agg #[.string wk, .int .i64 inc, .int .i64 key, .int .i64 5, .string ⟨#[]⟩, .slice none 0 0, .slice none 0 0, .string ⟨#[]⟩, .slice none 0 0, .slice none 0 0, .int .i64 0, .int .i64 0, .int .i64 task, .int .i64 3, .int .i64 0, .string ⟨#[]⟩], .agg #[.string wk', .int .i64 inc', .int .i64 key', .int .i64 5, .string ⟨#[]⟩, .slice none 0 0, .slice none 0 0, .string ⟨#[]⟩, .slice none 0 0, .slice none 0 0, .int .i64 0, .int .i64 0, .int .i64 task', .int .i64 3, .int .i64 0, .string ⟨#[]⟩]] w fun e w' => e = .returned (.bool false) ∧ Below w.heap.size w w' := by
  have HB := Lib.hid (bel_on (bel_on (Below.refl w.heap.size w) (.cells #[.string wk, .int .i64 inc, .int .i64 key, .int .i64 5, .string ⟨#[]⟩, .slice none 0 0, .slice none 0 0, .string ⟨#[]⟩, .slice none 0 0, .slice none 0 0, .int .i64 0, .int .i64 0, .int .i64 task, .int .i64 3, .int .i64 0, .string ⟨#[]⟩] 33)) (.cells #[.string wk', .int .i64 inc', .int .i64 key', .int .i64 5, .string ⟨#[]⟩, .slice none 0 0, .slice none 0 0, .string ⟨#[]⟩, .slice none 0 0, .slice none 0 0, .int .i64 0, .int .i64 0, .int .i64 task', .int .i64 3, .int .i64 0, .string ⟨#[]⟩] 33))
  have hca := (Cel.lit w #[.string wk, .int .i64 inc, .int .i64 key, .int .i64 5, .string ⟨#[]⟩, .slice none 0 0, .slice none 0 0, .string ⟨#[]⟩, .slice none 0 0, .slice none 0 0, .int .i64 0, .int .i64 0, .int .i64 task, .int .i64 3, .int .i64 0, .string ⟨#[]⟩] 33).alloc (.cells #[.string wk', .int .i64 inc', .int .i64 key', .int .i64 5, .string ⟨#[]⟩, .slice none 0 0, .slice none 0 0, .string ⟨#[]⟩, .slice none 0 0, .slice none 0 0, .int .i64 0, .int .i64 0, .int .i64 task', .int .i64 3, .int .i64 0, .string ⟨#[]⟩] 33)
  have hcb := Cel.lit (w.alloc (.cells #[.string wk, .int .i64 inc, .int .i64 key, .int .i64 5, .string ⟨#[]⟩, .slice none 0 0, .slice none 0 0, .string ⟨#[]⟩, .slice none 0 0, .slice none 0 0, .int .i64 0, .int .i64 0, .int .i64 task, .int .i64 3, .int .i64 0, .string ⟨#[]⟩] 33)) #[.string wk', .int .i64 inc', .int .i64 key', .int .i64 5, .string ⟨#[]⟩, .slice none 0 0, .slice none 0 0, .string ⟨#[]⟩, .slice none 0 0, .slice none 0 0, .int .i64 0, .int .i64 0, .int .i64 task', .int .i64 3, .int .i64 0, .string ⟨#[]⟩] 33
  rw [show (w.alloc (.cells #[.string wk, .int .i64 inc, .int .i64 key, .int .i64 5, .string ⟨#[]⟩, .slice none 0 0, .slice none 0 0, .string ⟨#[]⟩, .slice none 0 0, .slice none 0 0, .int .i64 0, .int .i64 0, .int .i64 task, .int .i64 3, .int .i64 0, .string ⟨#[]⟩] 33)).heap.size = w.heap.size + 1 by simp] at hcb
  have HCA := Lib.hid hca
  have HCB := Lib.hid hcb
  clear hca hcb
  go_enter Tryz.func11, Tryz.ntmps11
  go_upto_region 1 with (fail)
  generalize (w.alloc _).alloc _ = w2 at *
  generalize w.heap.size + 1 = zb at *
  have ha := HCA.out
  have hb := HCB.out
  have a0 := ha.cell 0 _ rfl
  have b0 := hb.cell 0 _ rfl
  have a1 := ha.cell 1 _ rfl
  have b1 := hb.cell 1 _ rfl
  have a2 := ha.cell 2 _ rfl
  have b2 := hb.cell 2 _ rfl
  have a3 := ha.cell 3 _ rfl
  have b3 := hb.cell 3 _ rfl
  clear ha hb
  rcases h with h | ⟨h, h2⟩ | ⟨h, h2, h3⟩
  · go_wp2
    go_ret
    exact ⟨by simp, HB.out⟩
  · go_wp2
    go_ret
    exact ⟨by simp, HB.out⟩
  · go_wp2
    go_ret
    exact ⟨by simp, HB.out⟩
theorem enc_inj {x y : Int} (hx : Ok1 x) (hy : Ok1 y) {s t : List UInt8} (h : enc (zig x) ++ s = enc (zig y) ++ t) : x = y ∧ s = t := by
  have h1 := intSays_in (lo := -9223372036854775808) (hi := 9223372036854775807) (t := s) hx.i64.1 hx.i64.2 hx.i64.1 hx.i64.2
  have h2 := intSays_in (lo := -9223372036854775808) (hi := 9223372036854775807) (t := t) hy.i64.1 hy.i64.2 hy.i64.1 hy.i64.2
  rw [h, h2] at h1
  injection h1 with e1 e2
  injection e2 with e2 _
  exact ⟨e1.symm, e2.symm⟩
theorem text_inj {x y : ByteArray} (hx : x.size ≤ 24) (hy : y.size ≤ 24) {s t : List UInt8} (h : textOf x ++ s = textOf y ++ t) : x = y ∧ s = t := by
  have h1 := textSays_in (most := 24) (t := s) (s := x) (by omega) (by omega)
  have h2 := textSays_in (most := 24) (t := t) (s := y) (by omega) (by omega)
  rw [h, h2] at h1
  injection h1 with e1 e2
  injection e2 with e2 _
  refine ⟨?_, e2.symm⟩
  rw [← ba_toList x, ← ba_toList y, e1]
theorem unl_inj {wk wk' : ByteArray} {inc inc' key key' task task' : Int} (hw : wk.size ≤ 24) (hw' : wk'.size ≤ 24) (hi : Ok1 inc) (hi' : Ok1 inc') (hk : Ok1 key) (hk' : Ok1 key') (ht : Ok1 task) (ht' : Ok1 task') (h : unl wk inc key task = unl wk' inc' key' task') : wk = wk' ∧ inc = inc' ∧ key = key' ∧ task = task' := by
  have e : ∀ (wk : ByteArray) (inc key task : Int), unl wk inc key task = textOf wk ++ (enc (zig inc) ++ (enc (zig key) ++ (enc (zig 5) ++ (enc (zig task) ++ (enc (zig 3) ++ []))))) := fun wk inc key task => by simp [unl, encs]
  rw [e, e] at h
  obtain ⟨e1, h⟩ := text_inj hw hw' h
  obtain ⟨e2, h⟩ := enc_inj hi hi' h
  obtain ⟨e3, h⟩ := enc_inj hk hk' h
  obtain ⟨_, h⟩ := enc_inj (show Ok1 5 by unfold Ok1; omega) (show Ok1 5 by unfold Ok1; omega) h
  obtain ⟨e4, _⟩ := enc_inj ht ht' h
  exact ⟨e1, e2, e3, e4⟩
end Ms
end Go.Proofs.YtggplgmjonnliaaGreatDoor
