/- Walks of what the statements see of errors: an error as plain data, whichever sentinel it is. -/
import Derived.Test.YtggplgmjonnliaaGreatDoorLaid
import Derived.WideLaws
import Derived.LaidEql
import Derived.Deep.QuietTactic
import Derived.BigQuiet
import Derived.Deep.RegionWith
import Derived.Deep.DeepCutAuto
namespace Go.Proofs.YtggplgmjonnliaaGreatDoor
open Go.RowKit

/-- A fault as plain data. -/
def faultV (c : Int) (p : Bool) (q : Int) : Value := .agg #[.int .i64 c, .bool p, .int .i64 q]
/-- A sentinel as a value. -/
def errV (a : Addr) : Value := .iface 224 (.pointer (some a))

set_option maxHeartbeats 400000 in
theorem bare_any (c : Int) (w : World) :
    Calls Tryz.prog 37 #[.int .i64 c] w fun e w' => e = .returned (faultV c false 0) ∧ Below w.heap.size w w' := by
  go_enter Tryz.func37, Tryz.ntmps37
  go_wp2
  exact bodyPost_ret (v := faultV c false 0) (by simp [results, Tryz.results37, go_sem, faultV]) rfl ⟨rfl, (Below.refl _ _).alloc (Nat.le_refl _) _⟩

set_option maxHeartbeats 400000 in
theorem none_any (w : World) :
    Calls Tryz.prog 81 #[] w fun e w' => e = .returned (faultV 0 false 0) ∧ Below w.heap.size w w' := by
  go_enter Tryz.func81, Tryz.ntmps81
  go_wp2
  exact bodyPost_ret (v := faultV 0 false 0) (by simp [results, Tryz.results81, go_sem, faultV]) rfl ⟨rfl, (Below.refl _ _).alloc (Nat.le_refl _) _⟩

set_option maxHeartbeats 400000 in
theorem samefault_any (c c' : Int) (p p' : Bool) (q q' : Int) (w : World) :
    Calls Tryz.prog 64 #[faultV c p q, faultV c' p' q'] w fun e w' => e = .returned (.bool (c == c' && (p == p' && q == q'))) ∧ Below w.heap.size w w' := by
  unfold faultV
  go_enter Tryz.func64, Tryz.ntmps64
  go_wp2
  all_goals
    go_ret
    refine ⟨?_, ((Below.refl _ _).alloc (Nat.le_refl _) _).alloc (by simp) _⟩
    simp [*]

/-- The sixteen sentinels, in the order in which package api has them. -/
abbrev sents : List Nat := [4, 1, 9, 5, 0, 2, 3, 10, 6, 8, 7, 11, 12, 13, 14, 15]

theorem comp_err : (Tryz.prog.info? 224).map (·.comparable) = some true := by kernel_rfl
theorem size_err : (Tryz.prog.info? 226).map (·.size) = some 1 := by kernel_rfl

set_option maxHeartbeats 400000 in
theorem alike_same (a : Addr) (w : World) :
    Calls Tryz.prog 98 #[errV a, errV a] w fun e w' => e = .returned (.bool true) ∧ w = w' := by
  obtain ⟨i, hi, hcmp⟩ := Option.map_eq_some_iff.1 comp_err
  obtain ⟨j, hj, _⟩ := Option.map_eq_some_iff.1 size_err
  have he := run_eql_iface_ptr_same w a Tryz.underlying36 Tryz.underlying224 hi hcmp hj
  unfold errV
  go_enter Tryz.func98, Tryz.ntmps98
  go_wp2
  go_ret
  exact ⟨rfl, rfl⟩

set_option maxHeartbeats 400000 in
theorem alike_other (a b : Addr) (w : World) (hne : a ≠ b) (ha : ∃ c t, w.heap[a.block]? = some (.cells c t (0, 0))) (hb : ∃ c t, w.heap[b.block]? = some (.cells c t (0, 0))) :
    Calls Tryz.prog 98 #[errV a, errV b] w fun e w' => e = .returned (.bool false) ∧ w = w' := by
  obtain ⟨i, hi, hcmp⟩ := Option.map_eq_some_iff.1 comp_err
  obtain ⟨j, hj, hjs⟩ := Option.map_eq_some_iff.1 size_err
  obtain ⟨c0, t0, h0⟩ := ha
  obtain ⟨c1, t1, h1⟩ := hb
  have he := run_eql_iface_ptr_other w Tryz.underlying36 Tryz.underlying224 hi hcmp hj (by rw [hjs]; decide) hne h0 h1
  unfold errV
  go_enter Tryz.func98, Tryz.ntmps98
  go_wp2
  go_ret
  exact ⟨rfl, rfl⟩

theorem sents_row {w : World} {ads : List Addr} (hE : Errs w 224 sents ads) : ads.length = 16 := hE.len

set_option maxHeartbeats 800000 in
theorem sentinels_any (ads : List Addr) (w : World) (hE : Errs w 224 sents ads) :
    Calls Tryz.prog 97 #[] w fun e w' => ∃ A c, e = .returned (.slice A 16 c) ∧ Row w' w'.heap.size A 16 (ads.map errV) ∧ Below w.heap.size w w' := by
  obtain ⟨a0, a1, a2, a3, a4, a5, a6, a7, a8, a9, a10, a11, a12, a13, a14, a15, rfl⟩ : ∃ a0 a1 a2 a3 a4 a5 a6 a7 a8 a9 a10 a11 a12 a13 a14 a15, ads = [a0, a1, a2, a3, a4, a5, a6, a7, a8, a9, a10, a11, a12, a13, a14, a15] := by
    have := sents_row hE
    match ads, this with
    | [a0, a1, a2, a3, a4, a5, a6, a7, a8, a9, a10, a11, a12, a13, a14, a15], _ => exact ⟨_, _, _, _, _, _, _, _, _, _, _, _, _, _, _, _, rfl⟩
  have e0 := (hE.all 0 _ _ rfl rfl).var
  have e1 := (hE.all 1 _ _ rfl rfl).var
  have e2 := (hE.all 2 _ _ rfl rfl).var
  have e3 := (hE.all 3 _ _ rfl rfl).var
  have e4 := (hE.all 4 _ _ rfl rfl).var
  have e5 := (hE.all 5 _ _ rfl rfl).var
  have e6 := (hE.all 6 _ _ rfl rfl).var
  have e7 := (hE.all 7 _ _ rfl rfl).var
  have e8 := (hE.all 8 _ _ rfl rfl).var
  have e9 := (hE.all 9 _ _ rfl rfl).var
  have e10 := (hE.all 10 _ _ rfl rfl).var
  have e11 := (hE.all 11 _ _ rfl rfl).var
  have e12 := (hE.all 12 _ _ rfl rfl).var
  have e13 := (hE.all 13 _ _ rfl rfl).var
  have e14 := (hE.all 14 _ _ rfl rfl).var
  have e15 := (hE.all 15 _ _ rfl rfl).var
  go_enter Tryz.func97, Tryz.ntmps97
  go_wp2
  go_ret
  refine ⟨_, _, rfl, ?_, (Below.refl _ _).alloc (Nat.le_refl _) _⟩
  rw [World.size_alloc]
  exact Row.lit w _ _

set_option maxHeartbeats 800000 in
theorem sentinel_any (ads : List Addr) (k : Nat) (a : Addr) (w : World) (hE : Errs w 224 sents ads) (ha : ads[k]? = some a) :
    Calls Tryz.prog 82 #[errV a] w fun e w' => e = .returned (.int .i64 (101 + k)) ∧ Below w.heap.size w w' := by
  have hl := sents_row hE
  obtain ⟨hk0, hka⟩ := List.getElem?_eq_some_iff.1 ha
  have hk : k < 16 := by omega
  go_enter Tryz.func82, Tryz.ntmps82
  go_wp2_with (go_at_call 97; refine (sentinels_any ads _ hE).mono ?_; rintro e w1 ⟨A1, c1, rfl, hr1, hb1⟩)
  have hE1 := hE.below hb1 (Nat.le_refl _)
  go_loop [4] (fun i => ∃ j : Nat, j ≤ k ∧ i = .int .i64 j) (fun i => 16 - (intOf i).toNat)
  case atStart => exact ⟨0, Nat.zero_le _, rfl⟩
  case round =>
    obtain ⟨j, hj, rfl⟩ := hrel
    have hj16 : j < 16 := by omega
    have hjl : j < ads.length := by omega
    obtain ⟨b, off, rfl, hb, hc0⟩ := hr1.2 (by decide)
    have hc : w1.cell? ⟨b, off + j, none⟩ = some (errV ads[j]) := hc0 j _ (by simp [hjl])
    clear hc0
    have hlt : (j : Int) < 16 := by omega
    have hi0 : (0 : Int) ≤ (j : Int) := by omega
    have hat : ∀ (i : Nat) (x : Addr), ads[i]? = some x → ∃ g, ErrAt w1 224 g x := by
      intro i x hx
      have h1 := (List.getElem?_eq_some_iff.1 hx).1
      have hs : (sents).length = 16 := rfl
      have hi' : i < (sents).length := by rw [hs]; omega
      exact ⟨(sents)[i], hE1.all i _ x (List.getElem?_eq_getElem hi') hx⟩
    obtain ⟨g1, ht1⟩ := hat k a ha
    obtain ⟨g2, ht2⟩ := hat j _ (List.getElem?_eq_getElem hjl)
    by_cases hjk : j = k
    · subst hjk
      rw [hka] at hc
      go_wp2_with (go_at_call 98; refine (alike_same a _).mono ?_; rintro e w2 ⟨rfl, rfl⟩)
      go_ret
      exact ⟨rfl, hb1⟩
    · have hne : a ≠ ads[j] := by
        rw [← hka]
        intro e
        exact hjk ((List.getElem_inj hE.nodup).1 e).symm
      generalize ads[j]'hjl = x at *
      go_wp2_with (go_at_call 98; refine (alike_other a x _ hne ht1.row ht2.row).mono ?_; rintro e w2 ⟨rfl, rfl⟩)
      go_round
      case rel => exact ⟨j + 1, by omega, by go_num⟩
      case measure => simp [intOf]; omega

theorem bcell {W w1 : World} (hb : Below W.heap.size W w1) : (∀ b o, b < W.heap.size → w1.cell? ⟨b, o, none⟩ = W.cell? ⟨b, o, none⟩) ∧ (∀ b o, b < W.heap.size → w1.frozen? ⟨b, o, none⟩ = W.frozen? ⟨b, o, none⟩) :=
  ⟨fun b o h => hb.cell (p := ⟨b, o, none⟩) h, fun b o h => hb.frozen (p := ⟨b, o, none⟩) h⟩

set_option maxHeartbeats 800000 in
/-- An error as plain data: no error. -/
theorem fault_nil (w : World) :
    Calls Tryz.prog 65 #[.nilIface] w fun e w' => e = .returned (faultV 0 false 0) ∧ Below w.heap.size w w' := by
  go_enter Tryz.func65, Tryz.ntmps65
  go_wp2_with fail
  refine (none_any _).mono ?_
  rintro e w1 ⟨rfl, hb1⟩
  obtain ⟨hc, hf⟩ := bcell hb1
  have hz : w.heap.size < w1.heap.size := by have := hb1.size; simp at this; omega
  unfold faultV
  go_wp2
  refine bodyPost_ret (v := faultV 0 false 0) (by simp [results, Tryz.results65, go_sem, faultV, hc]) rfl ⟨rfl, ?_⟩
  exact (((((Below.refl _ _).alloc (Nat.le_refl _) _).trans (hb1.mono (by simp))).setCell (by simp) _).setCell (by simp) _).setCell (by simp) _

theorem no_at (w : World) (a : Addr) : (Instr.typeAssert (.iface 224 (.pointer (some a))) 36 116 true).run Tryz.prog w = .ok (.tuple #[.pointer none, .bool false]) w := by kernel_rfl

set_option maxHeartbeats 800000 in
theorem fault_err (ads : List Addr) (k : Nat) (a : Addr) (w : World) (hE : Errs w 224 sents ads) (ha : ads[k]? = some a) :
    Calls Tryz.prog 65 #[errV a] w fun e w' => e = .returned (faultV (101 + k) false 0) ∧ Below w.heap.size w w' := by
  have hE0 := hE.below ((Below.refl w.heap.size w).alloc (Nat.le_refl _) (.cells #[.int .i64 0, .bool false, .int .i64 0] 70)) (Nat.le_refl _)
  have hk := (List.getElem?_eq_some_iff.1 ha).1
  have hl := sents_row hE
  have hno := fun w => no_at w a
  unfold errV
  go_enter Tryz.func65, Tryz.ntmps65
  go_wp2_with fail
  refine (sentinel_any ads k a _ hE0 ha).mono ?_
  rintro e w1 ⟨rfl, hb1⟩
  have hz1 : w.heap.size < w1.heap.size := by have := hb1.size; simp at this; omega
  go_wp2_with fail
  refine (bare_any _ _).mono ?_
  rintro e w2 ⟨rfl, hb2⟩
  have hb12 := hb1.trans (hb2.mono hb1.size)
  obtain ⟨hc, hf⟩ := bcell hb12
  have hz : w.heap.size < w2.heap.size := by have := hb12.size; simp at this; omega
  unfold faultV
  go_wp2
  refine bodyPost_ret (v := faultV (101 + k) false 0) (by simp [results, Tryz.results65, go_sem, faultV, hc]) rfl ⟨rfl, ?_⟩
  exact (((((Below.refl _ _).alloc (Nat.le_refl _) _).trans (hb12.mono (by simp))).setCell (by simp) _).setCell (by simp) _).setCell (by simp) _

/-- What an error is seen as: none, or the k-th sentinel. -/
inductive SeenAs (ads : List Addr) : Value → Int → Prop
  | nil : SeenAs ads .nilIface 0
  | err (k : Nat) (a : Addr) (h : ads[k]? = some a) : SeenAs ads (errV a) (101 + k)

theorem fault_any (ads : List Addr) (v : Value) (c : Int) (w : World) (hE : Errs w 224 sents ads) (hs : SeenAs ads v c) :
    Calls Tryz.prog 65 #[v] w fun e w' => e = .returned (faultV c false 0) ∧ Below w.heap.size w w' := by
  cases hs with
  | nil => exact fault_nil w
  | err k a h => exact fault_err ads k a w hE h

set_option maxHeartbeats 1600000 in
theorem same_fault_any (ads : List Addr) (v : Value) (c : Int) (w : World) (hE : Errs w 224 sents ads) (hs : SeenAs ads v c) (c' : Int) (p' : Bool) (q' : Int) :
    Calls Tryz.prog 36 #[v, faultV c' p' q'] w fun e w' => e = .returned (.bool (c == c' && (false == p' && 0 == q'))) ∧ Below w.heap.size w w' := by
  have hE1 := hE.below (((Below.refl w.heap.size w).alloc (Nat.le_refl _) (.cells #[.int .i64 c', .bool p', .int .i64 q'] 70)).drew) (Nat.le_refl _)
  unfold faultV
  go_enter Tryz.func36, Tryz.ntmps36
  go_wp2
  go_region_with (first
    | (go_at_call 65; refine (fault_any ads v c _ hE1 hs).mono ?_; rintro e w1 ⟨rfl, hb1⟩; obtain ⟨hc, hf⟩ := bcell hb1; have hz : w.heap.size < w1.heap.size := (by have := hb1.size; simp at this; omega))
    | (go_at_call 64; refine (samefault_any c c' false p' 0 q' _).mono ?_; rintro e w2 ⟨rfl, hb2⟩))
  all_goals
    go_wp2
    go_ret
    refine ⟨by simp [Act.put], ((((Below.refl w.heap.size w).alloc (Nat.le_refl _) _).drew.trans (hb1.mono (by simp))).trans (hb2.mono (Nat.le_of_lt hz)))⟩

set_option maxHeartbeats 800000 in
theorem is_any (ads : List Addr) (v : Value) (c : Int) (w : World) (hE : Errs w 224 sents ads) (hs : SeenAs ads v c) (k : Int) :
    Calls Tryz.prog 14 #[v, .int .i64 k] w fun e w' => e = .returned (.bool (c == k)) ∧ Below w.heap.size w w' := by
  go_enter Tryz.func14, Tryz.ntmps14
  go_wp2_with fail
  refine (bare_any _ _).mono ?_
  rintro e w1 ⟨rfl, hb1⟩
  go_wp2_with fail
  refine (same_fault_any ads v c _ (hE.below hb1 (Nat.le_refl _)) hs k false 0).mono ?_
  rintro e w2 ⟨rfl, hb2⟩
  go_wp2
  go_ret
  exact ⟨by simp, hb1.trans (hb2.mono hb1.size)⟩
end Go.Proofs.YtggplgmjonnliaaGreatDoor
