/- Walks of what the statements see of errors: one around a place. -/
import Derived.Test.YtddedbpbenkdoaaGreatDoorYProcessOne15
import Derived.Test.YtddedbpbenkdoaaGreatDoorSeeY
import Derived.Deep.RegionHeld3
import Derived.Deep.RegionLaw
namespace Go.Proofs.YtddedbpbenkdoaaGreatDoor
open Go.RowKit

/-- A fault as plain data, by its number and its place. -/
def faultP (c : Int) (o : Option Nat) : Value := faultV c o.isSome ((o.getD 0 : Nat) : Int)

set_option maxHeartbeats 400000 in
theorem placed_any (c x : Int) (hc : c ≠ 0) (w : World) :
    Calls Tryz.prog 27 #[.int .i64 c, .int .i64 x] w fun e w' => e = .returned (faultV c true x) ∧ Below w.heap.size w w' := by
  have hc' : (c == 0) = false := by simpa using hc
  go_enter Tryz.func27, Tryz.ntmps27
  go_wp2
  exact bodyPost_ret (v := faultV c true x) (by simp [results, Tryz.results27, go_sem, faultV]) rfl ⟨rfl, (Below.refl _ _).alloc (Nat.le_refl _) _⟩

theorem is_at (w : World) (q : Nat) : (Instr.typeAssert (.iface 54 (.pointer (some ⟨q, 0, none⟩))) 33 54 true).run Tryz.prog w = .ok (.tuple #[.pointer (some ⟨q, 0, none⟩), .bool true]) w := by kernel_rfl

set_option maxRecDepth 10000 in
set_option maxHeartbeats 1600000 in
theorem fault_at (ads : List Addr) (q k i : Nat) (a : Addr) (w : World) (hE : Errs w 183 sents ads) (ha : ads[k]? = some a) (h0 : w.cell? ⟨q, 0, none⟩ = some (.int .i64 i)) (h1 : w.cell? ⟨q, 1, none⟩ = some (errV a)) :
    Calls Tryz.prog 22 #[atV q] w fun e w' => e = .returned (faultV (101 + k) true i) ∧ Below w.heap.size w w' := by
  have hbA : Below w.heap.size w (w.alloc (.cells #[.int .i64 0, .bool false, .int .i64 0] 41)) := (Below.refl w.heap.size w).alloc (Nat.le_refl _) _
  have hE0 := hE.below hbA (Nat.le_refl _)
  have g0 := below_cells hbA h0
  have g1 := below_cells hbA h1
  have hno := fun w => is_at w q
  have z0 : (w.alloc (.cells #[.int .i64 0, .bool false, .int .i64 0] 41)).cell? ⟨w.heap.size, 0, none⟩ = some (.int .i64 0) := cell_of_row _ w.heap.size 0 _ _ (0, 0) (heap_alloc_new w _)
  have z1 : (w.alloc (.cells #[.int .i64 0, .bool false, .int .i64 0] 41)).cell? ⟨w.heap.size, 1, none⟩ = some (.bool false) := cell_of_row _ w.heap.size 1 _ _ (0, 0) (heap_alloc_new w _)
  have z2 : (w.alloc (.cells #[.int .i64 0, .bool false, .int .i64 0] 41)).cell? ⟨w.heap.size, 2, none⟩ = some (.int .i64 0) := cell_of_row _ w.heap.size 2 _ _ (0, 0) (heap_alloc_new w _)
  have zf : ∀ o, (w.alloc (.cells #[.int .i64 0, .bool false, .int .i64 0] 41)).frozen? ⟨w.heap.size, o, none⟩ = false := fun o => by unfold World.frozen?; rw [heap_alloc_new w]; rfl
  have f0 := zf 0
  have f1 := zf 1
  have f2 := zf 2
  unfold errV at h1 g1
  unfold atV
  go_enter Tryz.func22, Tryz.ntmps22
  go_upto_region 8 with (fail)
  clear zf h0 h1
  obtain ⟨p, hp⟩ : ∃ p, w.heap.size = p := ⟨_, rfl⟩
  rw [hp] at z0 z1 z2 f0 f1 f2
  rw [hp]
  generalize w.alloc (.cells #[.int .i64 0, .bool false, .int .i64 0] 41) = w0 at *
  rw [hp] at hbA
  have hpw : w.heap.size ≤ p := Nat.le_of_eq hp
  have HBA : Hid (Below w.heap.size w w0) := by show Below w.heap.size w w0; rw [hp]; exact hbA
  clear hp hbA
  have hS := sentinel_any ads k a w0.drew (hE0.below (Below.refl _ _).drew (Nat.le_refl _)) ha
  unfold errV at hS
  have g0 : w0.drew.cell? ⟨q, 0, none⟩ = some (.int .i64 i) := g0
  have g1 : w0.drew.cell? ⟨q, 1, none⟩ = some (.iface 183 (.pointer (some a))) := g1
  have z0 : w0.drew.cell? ⟨p, 0, none⟩ = some (.int .i64 0) := z0
  have z1 : w0.drew.cell? ⟨p, 1, none⟩ = some (.bool false) := z1
  have z2 : w0.drew.cell? ⟨p, 2, none⟩ = some (.int .i64 0) := z2
  have f0 : w0.drew.frozen? ⟨p, 0, none⟩ = false := f0
  have f1 : w0.drew.frozen? ⟨p, 1, none⟩ = false := f1
  have f2 : w0.drew.frozen? ⟨p, 2, none⟩ = false := f2
  have hpl : p < w0.drew.heap.size := cell_lt z0
  have HBD : Hid (Below w.heap.size w w0.drew) := HBA.out.drew
  clear HBA hE0
  have hPl := fun W => placed_any (101 + (k : Int)) (i : Int) (by omega) W
  unfold faultV at hPl
  go_region_law (first
    | (go_simp; go_at_call 44; refine hS.mono ?_; rintro e w1 ⟨rfl, hb1⟩; have m0 := below_cells hb1 g0; have m1 := below_cells hb1 g1)
    | (go_simp; go_at_call 27; refine (hPl _).mono ?_; rintro e w2 ⟨rfl, hb2⟩; have hb02 := hb1.trans (hb2.mono hb1.size); have y0 := below_cells hb02 z0; have y1 := below_cells hb02 z1; have y2 := below_cells hb02 z2; have e0 := (hb02.frozen (p := ⟨p, 0, none⟩) hpl).trans f0; have e1 := (hb02.frozen (p := ⟨p, 1, none⟩) hpl).trans f1; have e2 := (hb02.frozen (p := ⟨p, 2, none⟩) hpl).trans f2))
  all_goals
    go_wp2
    refine bodyPost_ret (v := faultV (101 + k) true i) (by simp [results, Tryz.results22, go_sem, faultV, y0, y1, y2]) rfl ⟨rfl, ?_⟩
    exact (((HBD.out.trans (hb02.mono HBD.out.size)).setCell hpw _).setCell hpw _).setCell hpw _

/-- The same, whatever is seen. -/
theorem fault_seen {ads : List Addr} {w : World} {ev : Value} {c : Int} {o : Option Nat} (hE : Errs w 183 sents ads) (h : SeenF (errMap pos16 ads) w ev c o) :
    Calls Tryz.prog 22 #[ev] w fun e w' => e = .returned (faultP c o) ∧ Below w.heap.size w w' := by
  have key : ∀ c a, errMap pos16 ads c = some a → ∃ k : Nat, ads[k]? = some a ∧ c = 101 + k := by
    intro c a h
    unfold errMap pos16 at h
    split at h
    · exact ⟨_, h, by omega⟩
    · rw [List.getElem?_eq_none (by have := sents_row hE; omega)] at h; cases h
  cases h with
  | nil => exact fault_nil w
  | bare c a h hc =>
    obtain ⟨k, hk, rfl⟩ := key _ _ h
    exact fault_err ads k a w hE hk
  | at_ q c a i h hc h0 h1 =>
    obtain ⟨k, hk, rfl⟩ := key _ _ h
    exact fault_at ads q k i a w hE hk h0 h1

set_option maxHeartbeats 1600000 in
theorem same_seen {ads : List Addr} {w : World} {ev : Value} {c : Int} {o : Option Nat} (hE : Errs w 183 sents ads) (h : SeenF (errMap pos16 ads) w ev c o) (c' : Int) (p' : Bool) (q' : Int) :
    Calls Tryz.prog 8 #[ev, faultV c' p' q'] w fun e w' => e = .returned (.bool (c == c' && (o.isSome == p' && ((o.getD 0 : Nat) : Int) == q'))) ∧ Below w.heap.size w w' := by
  have hbA : Below w.heap.size w ((w.alloc (.cells #[.int .i64 c', .bool p', .int .i64 q'] 41)).drew) := ((Below.refl w.heap.size w).alloc (Nat.le_refl _) _).drew
  have hE1 := hE.below hbA (Nat.le_refl _)
  have hF := fault_seen hE1 (h.below hbA (Nat.le_refl _))
  unfold faultP at hF
  generalize o.isSome = p at *
  generalize ((o.getD 0 : Nat) : Int) = q at *
  unfold faultV at hF
  unfold faultV
  go_enter Tryz.func8, Tryz.ntmps8
  go_wp2
  go_region_with (first
    | (go_at_call 22; refine hF.mono ?_; rintro e w1 ⟨rfl, hb1⟩; obtain ⟨hc, hf⟩ := bcell hb1; have hz : w.heap.size < w1.heap.size := (by have := hb1.size; simp at this; omega))
    | (go_at_call 21; refine (samefault_any c c' p p' q q' _).mono ?_; rintro e w2 ⟨rfl, hb2⟩))
  all_goals
    go_wp2
    go_ret
    refine ⟨by simp [Act.put], ((((Below.refl w.heap.size w).alloc (Nat.le_refl _) _).drew.trans (hb1.mono (by simp))).trans (hb2.mono (Nat.le_of_lt hz)))⟩
end Go.Proofs.YtddedbpbenkdoaaGreatDoor
