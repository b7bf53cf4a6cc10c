/- The chapter's examples. -/
import Derived.Test.YtjababmmcejgdaaGreatDoorUaY
import Derived.Test.YtjababmmcejgdaaGreatDoorGzY
namespace Go.Proofs.YtjababmmcejgdaaGreatDoor
open Go.RowKit

namespace Pr
/-- The examples' process: five bare nodes, a flow from 3 to 4. -/
def nd0 : Nd := ⟨0, no, 0, 0, 0, no, no, 0⟩
def exP : P := ⟨no, List.replicate 5 nd0, [⟨3, 4, no⟩]⟩
theorem exP3 : outsB exP 3 = [0] := by decide +kernel
theorem exP9 : outsB exP 9 = [] := by decide +kernel
set_option maxHeartbeats 1600000 in
set_option maxRecDepth 10000 in
theorem first_any (w : World) : Calls Tryz.prog 6 #[] w fun e w' => e = .returned (.bool true) ∧ Below w.heap.size w w' := by
  obtain ⟨i0, hi0, hz0, hz1, hz2⟩ := info_parts info_node
  go_enter Tryz.func6, Tryz.ntmps6
  go_upto_region 2 with (at_make; refine wpList_make_full _ rfl _ _ 27 rfl w.heap.size 36 i0 _ 8 Tryz.underlying27 hi0 hz0 hz1 .i64 .i64 _ _ 5 rfl rfl rfl rfl (by rw [hz2]; omega) (by unfold maxLen; omega) (Nat.le_refl _) ?_; intro w1 ho1 hg1)
  have hmk : (madeCells (Value.agg #[.int .i64 0, .string ⟨#[]⟩, .int .i64 0, .int .i64 0, .int .i64 0, .string ⟨#[]⟩, .string ⟨#[]⟩, .int .i64 0]).cells (5 * 8)).toList = exP.nodes.flatMap Nd.κ.cs := by kernel_rfl
  rw [hmk] at ho1
  have hN : OwnK Nd.κ w1 w.heap.size 36 (some ⟨w.heap.size, 0, none⟩) 5 5 exP.nodes := ⟨by decide, ho1⟩
  have hw1 : Below w.heap.size w w1 := ⟨hg1.os, hg1.tape, hg1.output, hg1.size, fun b hb => hg1.block b hb (by simp)⟩
  have hba : Below w1.heap.size w1 (w1.alloc (.cells #[.int .i64 3, .int .i64 4, .string ⟨#[]⟩] 38)) := (Below.refl _ _).alloc (Nat.le_refl _) _
  have hF : KRow Fl.κ (w1.alloc (.cells #[.int .i64 3, .int .i64 4, .string ⟨#[]⟩] 38)) (w1.heap.size + 1) (some ⟨w1.heap.size, 0, none⟩) 1 exP.flows := KRow.lit (κ := Fl.κ) w1 38 exP.flows #[.int .i64 3, .int .i64 4, .string ⟨#[]⟩] rfl
  have hC := Cel.lit (w1.alloc (.cells #[.int .i64 3, .int .i64 4, .string ⟨#[]⟩] 38)) #[.string ⟨#[]⟩, .slice (some ⟨w.heap.size, 0, none⟩) 5 5, .slice (some ⟨w1.heap.size, 0, none⟩) 1 1] 30
  have hbc : Below (w1.heap.size + 1) (w1.alloc (.cells #[.int .i64 3, .int .i64 4, .string ⟨#[]⟩] 38)) ((w1.alloc (.cells #[.int .i64 3, .int .i64 4, .string ⟨#[]⟩] 38)).alloc (.cells #[.string ⟨#[]⟩, .slice (some ⟨w.heap.size, 0, none⟩) 5 5, .slice (some ⟨w1.heap.size, 0, none⟩) 1 1] 30)) := (Below.refl _ _).alloc (by simp) _
  have HF := Lib.hid (hF.below hbc (Nat.le_refl _))
  have HN := Lib.hid ((hN.below hba (Nat.le_refl _)).below hbc (by simp))
  have HC := Lib.hid hC
  have HB := Lib.hid (hw1.trans ((hba.trans (hbc.mono (by simp))).mono hw1.size))
  have hsz : w1.heap.size + 1 < ((w1.alloc (.cells #[.int .i64 3, .int .i64 4, .string ⟨#[]⟩] 38)).alloc (.cells #[.string ⟨#[]⟩, .slice (some ⟨w.heap.size, 0, none⟩) 5 5, .slice (some ⟨w1.heap.size, 0, none⟩) 1 1] 30)).heap.size := by simp
  rw [size_alloc] at HC
  clear hN hw1 hba hF hC hbc ho1 hg1
  generalize (w1.alloc _).alloc _ = w2 at *
  obtain ⟨⟨z0, z1, z2⟩, _⟩ := tri_facts HC.out
  have hn5 : exP.nodes.length = 5 := rfl
  go_wp2_with fail
  refine (outs_any (some ⟨w.heap.size, 0, none⟩) 5 5 (some ⟨w1.heap.size, 0, none⟩) 1 1 exP 3 w2 HN.out.row (HF.out.mono (by omega)) (by decide) (by decide)).mono ?_
  rintro e w3 ⟨⟨X, k, cc, rfl, ho⟩, hb3⟩
  rw [exP3] at ho
  obtain rfl : 1 = k := ho.len
  obtain ⟨b, off, rfl, _, _⟩ := ho.row.2 (by decide)
  have HB3 := Lib.hid (HB.out.trans (hb3.mono HB.out.size))
  have HC3 := Lib.hid (HC.out.below hb3 (Nat.le_refl _))
  have HN3 := Lib.hid (HN.out.below hb3 (Nat.le_refl _))
  have HF3 := Lib.hid (HF.out.below hb3 (by omega))
  have HO := Lib.hid ho
  have hs3 := hb3.size
  clear z0 z1 z2 ho hb3
  obtain ⟨⟨z0, z1, z2⟩, _⟩ := tri_facts HC3.out
  go_wp2_with fail
  refine (outs_any (some ⟨w.heap.size, 0, none⟩) 5 5 (some ⟨w1.heap.size, 0, none⟩) 1 1 exP 9 w3 HN3.out.row (HF3.out.mono (by omega)) (by decide) (by decide)).mono ?_
  rintro e w4 ⟨⟨X, k, cc', rfl, ho4⟩, hb4⟩
  rw [exP9] at ho4
  obtain rfl : 0 = k := ho4.len
  have HB4 := Lib.hid (HB3.out.trans (hb4.mono HB3.out.size))
  have hc0 := iκ_cells (HO.out.below hb4 (Nat.le_refl _)).row (j := 0) (by decide)
  have hc0 : w4.cell? ⟨b, off + 0, none⟩ = some (.int .i64 0) := hc0
  rw [Nat.add_zero] at hc0
  clear z0 z1 z2 ho4 hb4
  go_wp2
  go_ret
  exact ⟨rfl, HB4.out⟩
end Pr
end Go.Proofs.YtjababmmcejgdaaGreatDoor
