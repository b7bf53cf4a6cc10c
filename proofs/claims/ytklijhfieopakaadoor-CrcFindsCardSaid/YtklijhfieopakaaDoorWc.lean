/- Walks of package crc, the third part: Open. -/
import Derived.Test.YtklijhfieopakaaDoorWb
import Derived.Deep.QuietTactic
import Derived.BigQuiet
import Derived.Deep.RegionWith
import Derived.Deep.DeepCutAuto
import Derived.StillTailTactics
namespace Go.Proofs.YtklijhfieopakaaDoor
open Go.RowKit

set_option maxHeartbeats 400000 in
theorem open_short (A : Option Addr) (n c : Nat) (s : BitVec 32) (w : World) (ee : Value) (hE : w.cell? ⟨0, 0, none⟩ = some ee) (hn : n < 4) :
    Calls Tryd.prog 9 #[.slice A n c, .int .u32 (u s)] w fun e w' => e = .returned (.tuple #[.slice none 0 0, ee]) ∧ Below w.heap.size w w' := by
  go_enter Tryd.func9, Tryd.ntmps9
  go_wp2
  go_quiet (fail)
  go_wp2
  go_ret2
  exact ⟨rfl, below_drewN (Below.refl _ _) _⟩

theorem World.lt_of_cell {w : World} {b o : Nat} {v : Value} (h : w.cell? ⟨b, o, none⟩ = some v) : b < w.heap.size := by
  rcases Nat.lt_or_ge b w.heap.size with h' | h'
  · exact h'
  · simp [World.cell?, Array.getElem?_eq_none h'] at h

set_option maxHeartbeats 1600000 in
theorem open_wrong (A : Option Addr) (n c : Nat) (l : List UInt8) (s : BitVec 32) (w : World) (ee : Value) (hE : w.cell? ⟨1, 0, none⟩ = some ee) (hn : 4 ≤ n) (hr : Bytes w w.heap.size A n l) (hnc : n ≤ c) (hn2 : n ≤ 70368744177664) (ht : Steps w)
    (hx : l.drop (n - 4) ≠ Crc.tail (l.take (n - 4)) s) :
    Calls Tryd.prog 9 #[.slice A n c, .int .u32 (u s)] w fun e w' => e = .returned (.tuple #[.slice none 0 0, ee]) ∧ Below w.heap.size w w' := by
  obtain ⟨b, off, rfl, hb, hc⟩ := hr.2 (by omega)
  have hlt := World.lt_of_cell hE
  have hr1 := (hr.front (k := n - 4) (by omega)).drew
  have hr2 := (hr.back (k := n - 4) (by omega)).drew
  have HX : (l.drop (n - 4) == Crc.tail (l.take (n - 4)) s) = false := beq_eq_false_iff_ne.2 hx
  have hd := ht.below (Below.refl w.heap.size w).drew (Nat.le_refl _)
  go_enter Tryd.func9, Tryd.ntmps9
  go_upto_region 4 with (fail)
  go_cut [23] (fun s23 wx => s23 = .bool (!false) ∧ Below w.heap.size w wx)
  case first =>
    go_region_with (first
      | (go_at_call 20; refine (tail_any _ (n - 4) c _ s _ hr1 (by omega) hd).mono ?_; rintro e w1 ⟨A1, rfl, ho1, hb1⟩)
      | (go_at_call 19; refine (equal_any _ A1 (n - (n - 4)) 4 _ 4 _ _ _ w.heap.size _ (hr2.below hb1 (Nat.le_refl _)) (fun h => by cases h) ho1.bytes (fun h => (ho1.nn h).1)).mono ?_; rintro e w2 ⟨rfl, rfl⟩))
    all_goals (go_wp2_with fail; go_meet; exact ⟨rfl, (Below.refl _ _).drew.trans hb1⟩)
  case rest =>
    obtain ⟨rfl, hbw⟩ := hcut
    have hE2 : wc.cell? ⟨1, 0, none⟩ = some ee := (hbw.cell (p := ⟨1, 0, none⟩) hlt).trans hE
    go_wp2
    go_quiet (fail)
    go_wp2
    go_ret2
    exact ⟨rfl, below_drewN hbw _⟩

set_option maxHeartbeats 1600000 in
theorem open_right (A : Option Addr) (n c : Nat) (l : List UInt8) (s : BitVec 32) (w : World) (ee : Value) (hE : w.cell? ⟨1, 0, none⟩ = some ee) (hn : 4 ≤ n) (hr : Bytes w w.heap.size A n l) (hnc : n ≤ c) (hn2 : n ≤ 70368744177664) (ht : Steps w)
    (hx : l.drop (n - 4) = Crc.tail (l.take (n - 4)) s) :
    Calls Tryd.prog 9 #[.slice A n c, .int .u32 (u s)] w fun e w' => ∃ A' c', e = .returned (.tuple #[.slice A' (n - 4) c', .nilIface]) ∧ OwnBytes w' w.heap.size 5 A' (n - 4) c' (l.take (n - 4)) ∧ Below w.heap.size w w' := by
  obtain ⟨b, off, rfl, hb, hc⟩ := hr.2 (by omega)
  have hlt := World.lt_of_cell hE
  have hr1 := (hr.front (k := n - 4) (by omega)).drew
  have hr2 := (hr.back (k := n - 4) (by omega)).drew
  have HX : (l.drop (n - 4) == Crc.tail (l.take (n - 4)) s) = true := beq_iff_eq.2 hx
  have hd := ht.below (Below.refl w.heap.size w).drew (Nat.le_refl _)
  go_enter Tryd.func9, Tryd.ntmps9
  go_upto_region 4 with (fail)
  go_cut [23] (fun s23 wx => s23 = .bool (!true) ∧ Below w.heap.size w wx)
  case first =>
    go_region_with (first
      | (go_at_call 20; refine (tail_any _ (n - 4) c _ s _ hr1 (by omega) hd).mono ?_; rintro e w1 ⟨A1, rfl, ho1, hb1⟩)
      | (go_at_call 19; refine (equal_any _ A1 (n - (n - 4)) 4 _ 4 _ _ _ w.heap.size _ (hr2.below hb1 (Nat.le_refl _)) (fun h => by cases h) ho1.bytes (fun h => (ho1.nn h).1)).mono ?_; rintro e w2 ⟨rfl, rfl⟩))
    all_goals (go_wp2_with fail; go_meet; exact ⟨rfl, (Below.refl _ _).drew.trans hb1⟩)
  case rest =>
    obtain ⟨rfl, hbw⟩ := hcut
    have hs := hbw.size
    have hr3 := ((hr.front (k := n - 4) (by omega)).below hbw (Nat.le_refl _)).mono hs
    go_wp2_with (go_at_call 21; refine (clone_any _ (n - 4) c _ _ hr3 (fun h => by cases h) (by omega)).mono ?_; rintro e w3 ⟨A3, c3, rfl, ho3, hb3⟩)
    go_ret2
    exact ⟨A3, c3, rfl, ho3.base hs, hbw.trans (hb3.mono hs)⟩
end Go.Proofs.YtklijhfieopakaaDoor
