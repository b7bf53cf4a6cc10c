/- Package again: push; what slices.Index, slices.Contains, slices.Clone say. -/
import Derived.Test.YtfpennnbicclfaaAgb
import Derived.Test.YtfpennnbicclfaaClone
import Derived.Test.YtfpennnbicclfaaSg
import Derived.Sort.OwnSorted
namespace Go.Proofs.Ytfpennnbicclfaa
open Go.RowKit Go.Sort

namespace Ag
section
variable {α : Type} [Inhabited α] {enc : α → Value}
theorem own_holds {w : World} {base n c g : Nat} {e : TypeId} {l : List α} (h : w.ownsRow base e 1 (.slice (some ⟨g, 0, none⟩) n c) n (l.map enc)) :
    Holds enc w g 0 l.toArray ∧ n ≤ c ∧ c ≤ maxLen ∧ g < w.heap.size ∧ base ≤ g ∧ l.length = n := by
  have hl : l.length = n := by simpa using h.1
  rcases h.2 with ⟨hv, _⟩ | ⟨g', cap, cur, hv, hb, hh, h1, h2, h3, h4⟩
  · cases hv
  · injection hv with e1 e2 e3
    injection e1 with e1
    injection e1 with e1
    subst e1
    subst e3
    refine ⟨fun j hj => ?_, h1, h2, (Array.getElem?_eq_some_iff.1 hh).1, hb, hl⟩
    have hj' : j < l.length := by simpa using hj
    refine ⟨?_, by simp [World.frozen?, hh]⟩
    have h5 : (cur.toList.take (n * 1))[j]? = (l.map enc)[j]? := by rw [h4]
    rw [List.getElem?_take_of_lt (by omega)] at h5
    simp only [World.cell?, hh, Nat.zero_add]
    simp only [Option.isSome_none, Bool.false_eq_true, if_false]
    rw [← Array.getElem?_toList, h5]
    simp [hj']
/-- What slices.Delete of the first j leaves. -/
theorem own_deleted {w : World} {base n c g q j : Nat} {e : TypeId} {l : List α} (zr : α) (h : w.ownsRow base e 1 (.slice (some ⟨g, 0, none⟩) n c) n (l.map enc)) (hj : j ≤ n) :
    (putRow enc (Sort.ahead w q) g 0 (l.toArray.toList.take 0 ++ l.toArray.toList.drop j ++ List.replicate (j - 0) zr).toArray).ownsRow base e 1 (.slice (some ⟨g, 0, none⟩) (n - j) c) (n - j) ((l.drop j).map enc) ∧
    w.grownBy (putRow enc (Sort.ahead w q) g 0 (l.toArray.toList.take 0 ++ l.toArray.toList.drop j ++ List.replicate (j - 0) zr).toArray) (some g) := by
  have hl : l.length = n := by simpa using h.1
  have ed : l.toArray.toList.take 0 ++ l.toArray.toList.drop j ++ List.replicate (j - 0) zr = l.drop j ++ List.replicate j zr := by simp
  rw [ed]
  refine ⟨⟨by simp [hl], .inr ?_⟩, rfl, rfl, rfl, by simp, fun k hk hne => ?_⟩
  · rcases h.2 with ⟨hv, _⟩ | ⟨g', cap, cur, hv, hb, hh, h1, h2, h3, h4⟩
    · cases hv
    · injection hv with e1 e2 e3
      injection e1 with e1
      injection e1 with e1
      subst e1
      subst e3
      refine ⟨g, c, putCells enc 0 (l.drop j ++ List.replicate j zr).toArray cur, rfl, hb, by simp [putRow, mapBlock, Sort.ahead, Array.getElem?_modify, hh, onCells], by omega, h2, by simp [putCells, h3], ?_⟩
      apply List.ext_getElem?
      intro i
      by_cases hi : i < n - j
      · rw [List.getElem?_take_of_lt (by omega), Array.getElem?_toList]
        have hic : i < cur.size := by omega
        have hil : i < (l.drop j).length := by rw [List.length_drop]; omega
        have e5 : (l.drop j ++ List.replicate j zr).toArray[i]! = (l.drop j)[i] := by
          rw [getElem!_pos _ i (by simp; omega)]
          simp [List.getElem_append_left hil]
        simp only [putCells, Array.getElem?_mapIdx, Array.getElem?_eq_getElem hic, Option.map_some, Nat.sub_zero]
        rw [if_pos ⟨Nat.zero_le _, by simp; omega⟩, e5]
        rw [List.getElem?_map, List.getElem?_eq_getElem hil]
        rfl
      · rw [List.getElem?_take_eq_none (by omega), List.getElem?_eq_none (by simp; omega)]
  · have : g ≠ k := fun e => hne (by rw [e])
    simp [putRow, mapBlock, Sort.ahead, Array.getElem?_modify, this]
end
def pushed {α : Type} (l : List α) (x : α) : List α := (l ++ [x]).drop (l.length + 1 - 4)
theorem len_pushed {α : Type} (l : List α) (x : α) (h : l.length ≤ 4) : (pushed l x).length = min (l.length + 1) 4 := by
  unfold pushed
  rw [List.length_drop, List.length_append, List.length_singleton]
  omega
theorem info_int : (Try.prog.info? 3).map (fun i => (i.zero, i.size, i.bytes)) = some (some (.int .i64 0), 1, 8) := by kernel_rfl
theorem info_sl : (Try.prog.info? 32).map (fun i => (i.zero, i.size, i.bytes)) = some (some (.slice none 0 0), 1, 24) := by kernel_rfl
instance : Inhabited Part := ⟨⟨none, 0, 0, []⟩⟩
theorem grew_same {w w1 w2 : World} {A : Option Addr} {n c n1 n2 c1 : Nat} {g : Nat} (h : Grew w w1 (.slice A n c) (.slice (some ⟨g, 0, none⟩) n1 c1)) (k : w1.grownBy w2 (some g)) : Grew w w2 (.slice A n c) (.slice (some ⟨g, 0, none⟩) n2 c1) := by
  refine h.trans ⟨k, fun g' hg => .inl hg⟩
set_option maxHeartbeats 1600000 in
theorem pushi_any (A : Option Addr) (n c : Nat) (l : List Int) (x : Int) (w : World) (h : OwnK iκ w 0 3 A n c l) (hn : n ≤ 4) :
    Calls Try.prog 24 #[.slice A n c, .int .i64 x] w fun e w' => ∃ A' c', e = .returned (.slice A' (min (n + 1) 4) c') ∧ OwnK iκ w' 0 3 A' (min (n + 1) 4) c' (pushed l x) ∧ Grew w w' (.slice A n c) (.slice A' (min (n + 1) 4) c') := by
  have hln : l.length = n := h.len
  obtain ⟨i0, hi0, hz0, hz1, hz2⟩ := info_parts info_int
  have hb1 : Below w.heap.size w (w.alloc (.cells #[.int .i64 x] 3)) := (Below.refl _ _).alloc (Nat.le_refl _) _
  have ho1 := Lib.hid (h.below hb1 (Nat.le_refl _))
  have hr1 := Lib.hid (KRow.lit (κ := iκ) w 3 [x] #[.int .i64 x] rfl)
  have HG := Lib.hid (grown_alloc w (.cells #[.int .i64 x] 3) (Value.slice A n c).ownBlock)
  have HP := Lib.hid (show pushed l x = (l ++ [x]).drop (n + 1 - 4) by rw [← hln]; rfl)
  generalize pushed l x = r at *
  clear hb1 h hln
  rcases (show n = 0 ∨ n = 1 ∨ n = 2 ∨ n = 3 ∨ n = 4 by omega) with rfl | rfl | rfl | rfl | rfl
  · clear hn
    go_enter Try.func24, Try.ntmps24
    go_wp2_with (at_builtin; refine append_k (κ := iκ) rfl (.tmp 5) (.tmp 7) _ 3 i0 (.int .i64 0) 8 Try.underlying48 hi0 hz0 hz1 hz2 rfl rfl _ 0 _ A _ c l _ x rfl ho1.out rfl hr1.out (by decide) (by decide) (Nat.zero_le _) ?_)
    intro A1 c1 w1 ho2 hg2
    have hgr := Lib.hid (⟨HG.out.trans hg2.grown, fun g hg => (hg2.block g hg).imp id fun h => by have : (w.alloc (.cells #[.int .i64 x] 3)).heap.size = w.heap.size + 1 := (by simp); omega⟩ : Grew w w1 _ _)
    rcases ho2.2.2 with ⟨_, h0⟩ | ⟨g, cap, cur, hv, _⟩
    · omega
    injection hv with e1 e2 e3
    subst e1
    subst e3
    have hmx : max (0 : Int) (-3) = 0 := by decide
    have hown := ho2.2
    rw [i_flat] at hown
    obtain ⟨hH, hc1, hc2, hg1, _, hl1⟩ := own_holds (enc := (Value.int .i64)) hown
    have hm1 : c1 ≤ 9223372036854775807 := by unfold maxLen at hc2; omega
    have hds : (l ++ [x]).toArray.size = 1 := List.size_toArray.trans hl1
    have hd0 := AnyE.slices_Delete sgDi (Value.int .i64) (fun _ => rfl) (0 : Int) (fun W => by exact Try.zeroValue3 W) i0 hi0 hz1 g 0 c1 0 0 (l ++ [x]).toArray w1 hH (by rw [hds]; exact hc1) hm1 (by decide) (by rw [hds]; decide)
    rw [hds] at hd0
    have HD : Hid (Calls Try.prog 40 #[.slice (some ⟨g, 0, none⟩) 1 c1, .int .i64 0, .int .i64 0] w1 fun e w' => e = .returned (.slice (some ⟨g, 0, none⟩) 1 c1) ∧ w'.ownsRow 0 3 1 (.slice (some ⟨g, 0, none⟩) 1 c1) 1 (((l ++ [x]).drop 0).map (Value.int .i64)) ∧ w1.grownBy w' (some g)) :=
      hd0.mono (by rintro e w' ⟨rfl, q, rfl⟩; exact ⟨rfl, own_deleted (0 : Int) hown (by decide)⟩)
    clear hown ho2 hg2 hH hl1 hds hc2 ho1 hr1 HG hm1 hd0
    go_wp2_with (go_at_call 40; (with_reducible refine HD.out.mono ?_); rintro e w2 ⟨rfl, h5, h6⟩; have h5 := Lib.hid h5; have h6 := Lib.hid h6)
    go_ret
    refine ⟨_, c1, rfl, ⟨by decide, ?_⟩, grew_same hgr.out h6.out⟩
    rw [HP.out, i_flat]
    exact h5.out
  · clear hn
    go_enter Try.func24, Try.ntmps24
    go_wp2_with (at_builtin; refine append_k (κ := iκ) rfl (.tmp 5) (.tmp 7) _ 3 i0 (.int .i64 0) 8 Try.underlying48 hi0 hz0 hz1 hz2 rfl rfl _ 0 _ A _ c l _ x rfl ho1.out rfl hr1.out (by decide) (by decide) (Nat.zero_le _) ?_)
    intro A1 c1 w1 ho2 hg2
    have hgr := Lib.hid (⟨HG.out.trans hg2.grown, fun g hg => (hg2.block g hg).imp id fun h => by have : (w.alloc (.cells #[.int .i64 x] 3)).heap.size = w.heap.size + 1 := (by simp); omega⟩ : Grew w w1 _ _)
    rcases ho2.2.2 with ⟨_, h0⟩ | ⟨g, cap, cur, hv, _⟩
    · omega
    injection hv with e1 e2 e3
    subst e1
    subst e3
    have hmx : max (0 : Int) (-2) = 0 := by decide
    have hown := ho2.2
    rw [i_flat] at hown
    obtain ⟨hH, hc1, hc2, hg1, _, hl1⟩ := own_holds (enc := (Value.int .i64)) hown
    have hm1 : c1 ≤ 9223372036854775807 := by unfold maxLen at hc2; omega
    have hds : (l ++ [x]).toArray.size = 2 := List.size_toArray.trans hl1
    have hd0 := AnyE.slices_Delete sgDi (Value.int .i64) (fun _ => rfl) (0 : Int) (fun W => by exact Try.zeroValue3 W) i0 hi0 hz1 g 0 c1 0 0 (l ++ [x]).toArray w1 hH (by rw [hds]; exact hc1) hm1 (by decide) (by rw [hds]; decide)
    rw [hds] at hd0
    have HD : Hid (Calls Try.prog 40 #[.slice (some ⟨g, 0, none⟩) 2 c1, .int .i64 0, .int .i64 0] w1 fun e w' => e = .returned (.slice (some ⟨g, 0, none⟩) 2 c1) ∧ w'.ownsRow 0 3 1 (.slice (some ⟨g, 0, none⟩) 2 c1) 2 (((l ++ [x]).drop 0).map (Value.int .i64)) ∧ w1.grownBy w' (some g)) :=
      hd0.mono (by rintro e w' ⟨rfl, q, rfl⟩; exact ⟨rfl, own_deleted (0 : Int) hown (by decide)⟩)
    clear hown ho2 hg2 hH hl1 hds hc2 ho1 hr1 HG hm1 hd0
    go_wp2_with (go_at_call 40; (with_reducible refine HD.out.mono ?_); rintro e w2 ⟨rfl, h5, h6⟩; have h5 := Lib.hid h5; have h6 := Lib.hid h6)
    go_ret
    refine ⟨_, c1, rfl, ⟨by decide, ?_⟩, grew_same hgr.out h6.out⟩
    rw [HP.out, i_flat]
    exact h5.out
  · clear hn
    go_enter Try.func24, Try.ntmps24
    go_wp2_with (at_builtin; refine append_k (κ := iκ) rfl (.tmp 5) (.tmp 7) _ 3 i0 (.int .i64 0) 8 Try.underlying48 hi0 hz0 hz1 hz2 rfl rfl _ 0 _ A _ c l _ x rfl ho1.out rfl hr1.out (by decide) (by decide) (Nat.zero_le _) ?_)
    intro A1 c1 w1 ho2 hg2
    have hgr := Lib.hid (⟨HG.out.trans hg2.grown, fun g hg => (hg2.block g hg).imp id fun h => by have : (w.alloc (.cells #[.int .i64 x] 3)).heap.size = w.heap.size + 1 := (by simp); omega⟩ : Grew w w1 _ _)
    rcases ho2.2.2 with ⟨_, h0⟩ | ⟨g, cap, cur, hv, _⟩
    · omega
    injection hv with e1 e2 e3
    subst e1
    subst e3
    have hmx : max (0 : Int) (-1) = 0 := by decide
    have hown := ho2.2
    rw [i_flat] at hown
    obtain ⟨hH, hc1, hc2, hg1, _, hl1⟩ := own_holds (enc := (Value.int .i64)) hown
    have hm1 : c1 ≤ 9223372036854775807 := by unfold maxLen at hc2; omega
    have hds : (l ++ [x]).toArray.size = 3 := List.size_toArray.trans hl1
    have hd0 := AnyE.slices_Delete sgDi (Value.int .i64) (fun _ => rfl) (0 : Int) (fun W => by exact Try.zeroValue3 W) i0 hi0 hz1 g 0 c1 0 0 (l ++ [x]).toArray w1 hH (by rw [hds]; exact hc1) hm1 (by decide) (by rw [hds]; decide)
    rw [hds] at hd0
    have HD : Hid (Calls Try.prog 40 #[.slice (some ⟨g, 0, none⟩) 3 c1, .int .i64 0, .int .i64 0] w1 fun e w' => e = .returned (.slice (some ⟨g, 0, none⟩) 3 c1) ∧ w'.ownsRow 0 3 1 (.slice (some ⟨g, 0, none⟩) 3 c1) 3 (((l ++ [x]).drop 0).map (Value.int .i64)) ∧ w1.grownBy w' (some g)) :=
      hd0.mono (by rintro e w' ⟨rfl, q, rfl⟩; exact ⟨rfl, own_deleted (0 : Int) hown (by decide)⟩)
    clear hown ho2 hg2 hH hl1 hds hc2 ho1 hr1 HG hm1 hd0
    go_wp2_with (go_at_call 40; (with_reducible refine HD.out.mono ?_); rintro e w2 ⟨rfl, h5, h6⟩; have h5 := Lib.hid h5; have h6 := Lib.hid h6)
    go_ret
    refine ⟨_, c1, rfl, ⟨by decide, ?_⟩, grew_same hgr.out h6.out⟩
    rw [HP.out, i_flat]
    exact h5.out
  · clear hn
    go_enter Try.func24, Try.ntmps24
    go_wp2_with (at_builtin; refine append_k (κ := iκ) rfl (.tmp 5) (.tmp 7) _ 3 i0 (.int .i64 0) 8 Try.underlying48 hi0 hz0 hz1 hz2 rfl rfl _ 0 _ A _ c l _ x rfl ho1.out rfl hr1.out (by decide) (by decide) (Nat.zero_le _) ?_)
    intro A1 c1 w1 ho2 hg2
    have hgr := Lib.hid (⟨HG.out.trans hg2.grown, fun g hg => (hg2.block g hg).imp id fun h => by have : (w.alloc (.cells #[.int .i64 x] 3)).heap.size = w.heap.size + 1 := (by simp); omega⟩ : Grew w w1 _ _)
    rcases ho2.2.2 with ⟨_, h0⟩ | ⟨g, cap, cur, hv, _⟩
    · omega
    injection hv with e1 e2 e3
    subst e1
    subst e3
    have hmx : max (0 : Int) (0) = 0 := by decide
    have hown := ho2.2
    rw [i_flat] at hown
    obtain ⟨hH, hc1, hc2, hg1, _, hl1⟩ := own_holds (enc := (Value.int .i64)) hown
    have hm1 : c1 ≤ 9223372036854775807 := by unfold maxLen at hc2; omega
    have hds : (l ++ [x]).toArray.size = 4 := List.size_toArray.trans hl1
    have hd0 := AnyE.slices_Delete sgDi (Value.int .i64) (fun _ => rfl) (0 : Int) (fun W => by exact Try.zeroValue3 W) i0 hi0 hz1 g 0 c1 0 0 (l ++ [x]).toArray w1 hH (by rw [hds]; exact hc1) hm1 (by decide) (by rw [hds]; decide)
    rw [hds] at hd0
    have HD : Hid (Calls Try.prog 40 #[.slice (some ⟨g, 0, none⟩) 4 c1, .int .i64 0, .int .i64 0] w1 fun e w' => e = .returned (.slice (some ⟨g, 0, none⟩) 4 c1) ∧ w'.ownsRow 0 3 1 (.slice (some ⟨g, 0, none⟩) 4 c1) 4 (((l ++ [x]).drop 0).map (Value.int .i64)) ∧ w1.grownBy w' (some g)) :=
      hd0.mono (by rintro e w' ⟨rfl, q, rfl⟩; exact ⟨rfl, own_deleted (0 : Int) hown (by decide)⟩)
    clear hown ho2 hg2 hH hl1 hds hc2 ho1 hr1 HG hm1 hd0
    go_wp2_with (go_at_call 40; (with_reducible refine HD.out.mono ?_); rintro e w2 ⟨rfl, h5, h6⟩; have h5 := Lib.hid h5; have h6 := Lib.hid h6)
    go_ret
    refine ⟨_, c1, rfl, ⟨by decide, ?_⟩, grew_same hgr.out h6.out⟩
    rw [HP.out, i_flat]
    exact h5.out
  · clear hn
    go_enter Try.func24, Try.ntmps24
    go_wp2_with (at_builtin; refine append_k (κ := iκ) rfl (.tmp 5) (.tmp 7) _ 3 i0 (.int .i64 0) 8 Try.underlying48 hi0 hz0 hz1 hz2 rfl rfl _ 0 _ A _ c l _ x rfl ho1.out rfl hr1.out (by decide) (by decide) (Nat.zero_le _) ?_)
    intro A1 c1 w1 ho2 hg2
    have hgr := Lib.hid (⟨HG.out.trans hg2.grown, fun g hg => (hg2.block g hg).imp id fun h => by have : (w.alloc (.cells #[.int .i64 x] 3)).heap.size = w.heap.size + 1 := (by simp); omega⟩ : Grew w w1 _ _)
    rcases ho2.2.2 with ⟨_, h0⟩ | ⟨g, cap, cur, hv, _⟩
    · omega
    injection hv with e1 e2 e3
    subst e1
    subst e3
    have hmx : max (0 : Int) (1) = 1 := by decide
    have hown := ho2.2
    rw [i_flat] at hown
    obtain ⟨hH, hc1, hc2, hg1, _, hl1⟩ := own_holds (enc := (Value.int .i64)) hown
    have hm1 : c1 ≤ 9223372036854775807 := by unfold maxLen at hc2; omega
    have hds : (l ++ [x]).toArray.size = 5 := List.size_toArray.trans hl1
    have hd0 := AnyE.slices_Delete sgDi (Value.int .i64) (fun _ => rfl) (0 : Int) (fun W => by exact Try.zeroValue3 W) i0 hi0 hz1 g 0 c1 0 1 (l ++ [x]).toArray w1 hH (by rw [hds]; exact hc1) hm1 (by decide) (by rw [hds]; decide)
    rw [hds] at hd0
    have HD : Hid (Calls Try.prog 40 #[.slice (some ⟨g, 0, none⟩) 5 c1, .int .i64 0, .int .i64 1] w1 fun e w' => e = .returned (.slice (some ⟨g, 0, none⟩) 4 c1) ∧ w'.ownsRow 0 3 1 (.slice (some ⟨g, 0, none⟩) 4 c1) 4 (((l ++ [x]).drop 1).map (Value.int .i64)) ∧ w1.grownBy w' (some g)) :=
      hd0.mono (by rintro e w' ⟨rfl, q, rfl⟩; exact ⟨rfl, own_deleted (0 : Int) hown (by decide)⟩)
    clear hown ho2 hg2 hH hl1 hds hc2 ho1 hr1 HG hm1 hd0
    go_wp2_with (go_at_call 40; (with_reducible refine HD.out.mono ?_); rintro e w2 ⟨rfl, h5, h6⟩; have h5 := Lib.hid h5; have h6 := Lib.hid h6)
    go_ret
    refine ⟨_, c1, rfl, ⟨by decide, ?_⟩, grew_same hgr.out h6.out⟩
    rw [HP.out, i_flat]
    exact h5.out
set_option maxHeartbeats 1600000 in
theorem pushp_any (A : Option Addr) (n c : Nat) (l : List Part) (x : Part) (w : World) (h : OwnK pκ w 0 32 A n c l) (hn : n ≤ 4) :
    Calls Try.prog 25 #[.slice A n c, .slice x.a x.n x.c] w fun e w' => ∃ A' c', e = .returned (.slice A' (min (n + 1) 4) c') ∧ OwnK pκ w' 0 32 A' (min (n + 1) 4) c' (pushed l x) ∧ Grew w w' (.slice A n c) (.slice A' (min (n + 1) 4) c') := by
  have hln : l.length = n := h.len
  obtain ⟨i0, hi0, hz0, hz1, hz2⟩ := info_parts info_sl
  have hb1 : Below w.heap.size w (w.alloc (.cells #[.slice x.a x.n x.c] 32)) := (Below.refl _ _).alloc (Nat.le_refl _) _
  have ho1 := Lib.hid (h.below hb1 (Nat.le_refl _))
  have hr1 := Lib.hid (KRow.lit (κ := pκ) w 32 [x] #[.slice x.a x.n x.c] rfl)
  have HG := Lib.hid (grown_alloc w (.cells #[.slice x.a x.n x.c] 32) (Value.slice A n c).ownBlock)
  have HP := Lib.hid (show pushed l x = (l ++ [x]).drop (n + 1 - 4) by rw [← hln]; rfl)
  generalize pushed l x = r at *
  clear hb1 h hln
  rcases (show n = 0 ∨ n = 1 ∨ n = 2 ∨ n = 3 ∨ n = 4 by omega) with rfl | rfl | rfl | rfl | rfl
  · clear hn
    go_enter Try.func25, Try.ntmps25
    go_wp2_with (at_builtin; refine append_k (κ := pκ) rfl (.tmp 5) (.tmp 7) _ 32 i0 (.slice none 0 0) 24 Try.underlying49 hi0 hz0 hz1 hz2 rfl rfl _ 0 _ A _ c l _ x rfl ho1.out rfl hr1.out (by decide) (by decide) (Nat.zero_le _) ?_)
    intro A1 c1 w1 ho2 hg2
    have hgr := Lib.hid (⟨HG.out.trans hg2.grown, fun g hg => (hg2.block g hg).imp id fun h => by have : (w.alloc (.cells #[.slice x.a x.n x.c] 32)).heap.size = w.heap.size + 1 := (by simp); omega⟩ : Grew w w1 _ _)
    rcases ho2.2.2 with ⟨_, h0⟩ | ⟨g, cap, cur, hv, _⟩
    · omega
    injection hv with e1 e2 e3
    subst e1
    subst e3
    have hmx : max (0 : Int) (-3) = 0 := by decide
    have hown := ho2.2
    rw [p_flat] at hown
    obtain ⟨hH, hc1, hc2, hg1, _, hl1⟩ := own_holds (enc := Part.val) hown
    have hm1 : c1 ≤ 9223372036854775807 := by unfold maxLen at hc2; omega
    have hds : (l ++ [x]).toArray.size = 1 := List.size_toArray.trans hl1
    have hd0 := AnyE.slices_Delete sgDp Part.val (fun _ => rfl) (⟨none, 0, 0, []⟩ : Part) (fun W => by exact Try.zeroValue32 W) i0 hi0 hz1 g 0 c1 0 0 (l ++ [x]).toArray w1 hH (by rw [hds]; exact hc1) hm1 (by decide) (by rw [hds]; decide)
    rw [hds] at hd0
    have HD : Hid (Calls Try.prog 41 #[.slice (some ⟨g, 0, none⟩) 1 c1, .int .i64 0, .int .i64 0] w1 fun e w' => e = .returned (.slice (some ⟨g, 0, none⟩) 1 c1) ∧ w'.ownsRow 0 32 1 (.slice (some ⟨g, 0, none⟩) 1 c1) 1 (((l ++ [x]).drop 0).map Part.val) ∧ w1.grownBy w' (some g)) :=
      hd0.mono (by rintro e w' ⟨rfl, q, rfl⟩; exact ⟨rfl, own_deleted (⟨none, 0, 0, []⟩ : Part) hown (by decide)⟩)
    clear hown ho2 hg2 hH hl1 hds hc2 ho1 hr1 HG hm1 hd0
    go_wp2_with (go_at_call 41; (with_reducible refine HD.out.mono ?_); rintro e w2 ⟨rfl, h5, h6⟩; have h5 := Lib.hid h5; have h6 := Lib.hid h6)
    go_ret
    refine ⟨_, c1, rfl, ⟨by decide, ?_⟩, grew_same hgr.out h6.out⟩
    rw [HP.out, p_flat]
    exact h5.out
  · clear hn
    go_enter Try.func25, Try.ntmps25
    go_wp2_with (at_builtin; refine append_k (κ := pκ) rfl (.tmp 5) (.tmp 7) _ 32 i0 (.slice none 0 0) 24 Try.underlying49 hi0 hz0 hz1 hz2 rfl rfl _ 0 _ A _ c l _ x rfl ho1.out rfl hr1.out (by decide) (by decide) (Nat.zero_le _) ?_)
    intro A1 c1 w1 ho2 hg2
    have hgr := Lib.hid (⟨HG.out.trans hg2.grown, fun g hg => (hg2.block g hg).imp id fun h => by have : (w.alloc (.cells #[.slice x.a x.n x.c] 32)).heap.size = w.heap.size + 1 := (by simp); omega⟩ : Grew w w1 _ _)
    rcases ho2.2.2 with ⟨_, h0⟩ | ⟨g, cap, cur, hv, _⟩
    · omega
    injection hv with e1 e2 e3
    subst e1
    subst e3
    have hmx : max (0 : Int) (-2) = 0 := by decide
    have hown := ho2.2
    rw [p_flat] at hown
    obtain ⟨hH, hc1, hc2, hg1, _, hl1⟩ := own_holds (enc := Part.val) hown
    have hm1 : c1 ≤ 9223372036854775807 := by unfold maxLen at hc2; omega
    have hds : (l ++ [x]).toArray.size = 2 := List.size_toArray.trans hl1
    have hd0 := AnyE.slices_Delete sgDp Part.val (fun _ => rfl) (⟨none, 0, 0, []⟩ : Part) (fun W => by exact Try.zeroValue32 W) i0 hi0 hz1 g 0 c1 0 0 (l ++ [x]).toArray w1 hH (by rw [hds]; exact hc1) hm1 (by decide) (by rw [hds]; decide)
    rw [hds] at hd0
    have HD : Hid (Calls Try.prog 41 #[.slice (some ⟨g, 0, none⟩) 2 c1, .int .i64 0, .int .i64 0] w1 fun e w' => e = .returned (.slice (some ⟨g, 0, none⟩) 2 c1) ∧ w'.ownsRow 0 32 1 (.slice (some ⟨g, 0, none⟩) 2 c1) 2 (((l ++ [x]).drop 0).map Part.val) ∧ w1.grownBy w' (some g)) :=
      hd0.mono (by rintro e w' ⟨rfl, q, rfl⟩; exact ⟨rfl, own_deleted (⟨none, 0, 0, []⟩ : Part) hown (by decide)⟩)
    clear hown ho2 hg2 hH hl1 hds hc2 ho1 hr1 HG hm1 hd0
    go_wp2_with (go_at_call 41; (with_reducible refine HD.out.mono ?_); rintro e w2 ⟨rfl, h5, h6⟩; have h5 := Lib.hid h5; have h6 := Lib.hid h6)
    go_ret
    refine ⟨_, c1, rfl, ⟨by decide, ?_⟩, grew_same hgr.out h6.out⟩
    rw [HP.out, p_flat]
    exact h5.out
  · clear hn
    go_enter Try.func25, Try.ntmps25
    go_wp2_with (at_builtin; refine append_k (κ := pκ) rfl (.tmp 5) (.tmp 7) _ 32 i0 (.slice none 0 0) 24 Try.underlying49 hi0 hz0 hz1 hz2 rfl rfl _ 0 _ A _ c l _ x rfl ho1.out rfl hr1.out (by decide) (by decide) (Nat.zero_le _) ?_)
    intro A1 c1 w1 ho2 hg2
    have hgr := Lib.hid (⟨HG.out.trans hg2.grown, fun g hg => (hg2.block g hg).imp id fun h => by have : (w.alloc (.cells #[.slice x.a x.n x.c] 32)).heap.size = w.heap.size + 1 := (by simp); omega⟩ : Grew w w1 _ _)
    rcases ho2.2.2 with ⟨_, h0⟩ | ⟨g, cap, cur, hv, _⟩
    · omega
    injection hv with e1 e2 e3
    subst e1
    subst e3
    have hmx : max (0 : Int) (-1) = 0 := by decide
    have hown := ho2.2
    rw [p_flat] at hown
    obtain ⟨hH, hc1, hc2, hg1, _, hl1⟩ := own_holds (enc := Part.val) hown
    have hm1 : c1 ≤ 9223372036854775807 := by unfold maxLen at hc2; omega
    have hds : (l ++ [x]).toArray.size = 3 := List.size_toArray.trans hl1
    have hd0 := AnyE.slices_Delete sgDp Part.val (fun _ => rfl) (⟨none, 0, 0, []⟩ : Part) (fun W => by exact Try.zeroValue32 W) i0 hi0 hz1 g 0 c1 0 0 (l ++ [x]).toArray w1 hH (by rw [hds]; exact hc1) hm1 (by decide) (by rw [hds]; decide)
    rw [hds] at hd0
    have HD : Hid (Calls Try.prog 41 #[.slice (some ⟨g, 0, none⟩) 3 c1, .int .i64 0, .int .i64 0] w1 fun e w' => e = .returned (.slice (some ⟨g, 0, none⟩) 3 c1) ∧ w'.ownsRow 0 32 1 (.slice (some ⟨g, 0, none⟩) 3 c1) 3 (((l ++ [x]).drop 0).map Part.val) ∧ w1.grownBy w' (some g)) :=
      hd0.mono (by rintro e w' ⟨rfl, q, rfl⟩; exact ⟨rfl, own_deleted (⟨none, 0, 0, []⟩ : Part) hown (by decide)⟩)
    clear hown ho2 hg2 hH hl1 hds hc2 ho1 hr1 HG hm1 hd0
    go_wp2_with (go_at_call 41; (with_reducible refine HD.out.mono ?_); rintro e w2 ⟨rfl, h5, h6⟩; have h5 := Lib.hid h5; have h6 := Lib.hid h6)
    go_ret
    refine ⟨_, c1, rfl, ⟨by decide, ?_⟩, grew_same hgr.out h6.out⟩
    rw [HP.out, p_flat]
    exact h5.out
  · clear hn
    go_enter Try.func25, Try.ntmps25
    go_wp2_with (at_builtin; refine append_k (κ := pκ) rfl (.tmp 5) (.tmp 7) _ 32 i0 (.slice none 0 0) 24 Try.underlying49 hi0 hz0 hz1 hz2 rfl rfl _ 0 _ A _ c l _ x rfl ho1.out rfl hr1.out (by decide) (by decide) (Nat.zero_le _) ?_)
    intro A1 c1 w1 ho2 hg2
    have hgr := Lib.hid (⟨HG.out.trans hg2.grown, fun g hg => (hg2.block g hg).imp id fun h => by have : (w.alloc (.cells #[.slice x.a x.n x.c] 32)).heap.size = w.heap.size + 1 := (by simp); omega⟩ : Grew w w1 _ _)
    rcases ho2.2.2 with ⟨_, h0⟩ | ⟨g, cap, cur, hv, _⟩
    · omega
    injection hv with e1 e2 e3
    subst e1
    subst e3
    have hmx : max (0 : Int) (0) = 0 := by decide
    have hown := ho2.2
    rw [p_flat] at hown
    obtain ⟨hH, hc1, hc2, hg1, _, hl1⟩ := own_holds (enc := Part.val) hown
    have hm1 : c1 ≤ 9223372036854775807 := by unfold maxLen at hc2; omega
    have hds : (l ++ [x]).toArray.size = 4 := List.size_toArray.trans hl1
    have hd0 := AnyE.slices_Delete sgDp Part.val (fun _ => rfl) (⟨none, 0, 0, []⟩ : Part) (fun W => by exact Try.zeroValue32 W) i0 hi0 hz1 g 0 c1 0 0 (l ++ [x]).toArray w1 hH (by rw [hds]; exact hc1) hm1 (by decide) (by rw [hds]; decide)
    rw [hds] at hd0
    have HD : Hid (Calls Try.prog 41 #[.slice (some ⟨g, 0, none⟩) 4 c1, .int .i64 0, .int .i64 0] w1 fun e w' => e = .returned (.slice (some ⟨g, 0, none⟩) 4 c1) ∧ w'.ownsRow 0 32 1 (.slice (some ⟨g, 0, none⟩) 4 c1) 4 (((l ++ [x]).drop 0).map Part.val) ∧ w1.grownBy w' (some g)) :=
      hd0.mono (by rintro e w' ⟨rfl, q, rfl⟩; exact ⟨rfl, own_deleted (⟨none, 0, 0, []⟩ : Part) hown (by decide)⟩)
    clear hown ho2 hg2 hH hl1 hds hc2 ho1 hr1 HG hm1 hd0
    go_wp2_with (go_at_call 41; (with_reducible refine HD.out.mono ?_); rintro e w2 ⟨rfl, h5, h6⟩; have h5 := Lib.hid h5; have h6 := Lib.hid h6)
    go_ret
    refine ⟨_, c1, rfl, ⟨by decide, ?_⟩, grew_same hgr.out h6.out⟩
    rw [HP.out, p_flat]
    exact h5.out
  · clear hn
    go_enter Try.func25, Try.ntmps25
    go_wp2_with (at_builtin; refine append_k (κ := pκ) rfl (.tmp 5) (.tmp 7) _ 32 i0 (.slice none 0 0) 24 Try.underlying49 hi0 hz0 hz1 hz2 rfl rfl _ 0 _ A _ c l _ x rfl ho1.out rfl hr1.out (by decide) (by decide) (Nat.zero_le _) ?_)
    intro A1 c1 w1 ho2 hg2
    have hgr := Lib.hid (⟨HG.out.trans hg2.grown, fun g hg => (hg2.block g hg).imp id fun h => by have : (w.alloc (.cells #[.slice x.a x.n x.c] 32)).heap.size = w.heap.size + 1 := (by simp); omega⟩ : Grew w w1 _ _)
    rcases ho2.2.2 with ⟨_, h0⟩ | ⟨g, cap, cur, hv, _⟩
    · omega
    injection hv with e1 e2 e3
    subst e1
    subst e3
    have hmx : max (0 : Int) (1) = 1 := by decide
    have hown := ho2.2
    rw [p_flat] at hown
    obtain ⟨hH, hc1, hc2, hg1, _, hl1⟩ := own_holds (enc := Part.val) hown
    have hm1 : c1 ≤ 9223372036854775807 := by unfold maxLen at hc2; omega
    have hds : (l ++ [x]).toArray.size = 5 := List.size_toArray.trans hl1
    have hd0 := AnyE.slices_Delete sgDp Part.val (fun _ => rfl) (⟨none, 0, 0, []⟩ : Part) (fun W => by exact Try.zeroValue32 W) i0 hi0 hz1 g 0 c1 0 1 (l ++ [x]).toArray w1 hH (by rw [hds]; exact hc1) hm1 (by decide) (by rw [hds]; decide)
    rw [hds] at hd0
    have HD : Hid (Calls Try.prog 41 #[.slice (some ⟨g, 0, none⟩) 5 c1, .int .i64 0, .int .i64 1] w1 fun e w' => e = .returned (.slice (some ⟨g, 0, none⟩) 4 c1) ∧ w'.ownsRow 0 32 1 (.slice (some ⟨g, 0, none⟩) 4 c1) 4 (((l ++ [x]).drop 1).map Part.val) ∧ w1.grownBy w' (some g)) :=
      hd0.mono (by rintro e w' ⟨rfl, q, rfl⟩; exact ⟨rfl, own_deleted (⟨none, 0, 0, []⟩ : Part) hown (by decide)⟩)
    clear hown ho2 hg2 hH hl1 hds hc2 ho1 hr1 HG hm1 hd0
    go_wp2_with (go_at_call 41; (with_reducible refine HD.out.mono ?_); rintro e w2 ⟨rfl, h5, h6⟩; have h5 := Lib.hid h5; have h6 := Lib.hid h6)
    go_ret
    refine ⟨_, c1, rfl, ⟨by decide, ?_⟩, grew_same hgr.out h6.out⟩
    rw [HP.out, p_flat]
    exact h5.out
end Ag
end Go.Proofs.Ytfpennnbicclfaa
