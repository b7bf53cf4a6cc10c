/- Walks of the document's Same of processes that are one. -/
import Derived.Test.YtjababmmcejgdaaGreatDoorSpY
import Derived.Test.YtjababmmcejgdaaGreatDoorYProcessBack12
import Derived.Deep.RegionHeld3
namespace Go.Proofs.YtjababmmcejgdaaGreatDoor
open Go.RowKit

namespace Pr
set_option maxHeartbeats 800000 in
theorem refsamenode_any (x : Nd) (w : World) : Calls Tryz.prog 74 #[x.val, x.val] w fun e w' => e = .returned (.bool true) ∧ Below w.heap.size w w' := by
  have h1 := Cel.lit w #[.int .i64 x.kind, .string x.topic, .int .i64 x.prio, .int .i64 x.retr, .int .i64 x.dflt, .string x.code, .string x.caught, .int .i64 x.tgt] 36
  have b1 := (Below.refl w.heap.size w).alloc (Nat.le_refl _) (.cells #[.int .i64 x.kind, .string x.topic, .int .i64 x.prio, .int .i64 x.retr, .int .i64 x.dflt, .string x.code, .string x.caught, .int .i64 x.tgt] 36)
  have h2 := Cel.lit (w.alloc (.cells #[.int .i64 x.kind, .string x.topic, .int .i64 x.prio, .int .i64 x.retr, .int .i64 x.dflt, .string x.code, .string x.caught, .int .i64 x.tgt] 36)) #[.int .i64 x.kind, .string x.topic, .int .i64 x.prio, .int .i64 x.retr, .int .i64 x.dflt, .string x.code, .string x.caught, .int .i64 x.tgt] 36
  have H1 := Lib.hid (h1.alloc (.cells #[.int .i64 x.kind, .string x.topic, .int .i64 x.prio, .int .i64 x.retr, .int .i64 x.dflt, .string x.code, .string x.caught, .int .i64 x.tgt] 36))
  have HB := Lib.hid (b1.alloc b1.size (.cells #[.int .i64 x.kind, .string x.topic, .int .i64 x.prio, .int .i64 x.retr, .int .i64 x.dflt, .string x.code, .string x.caught, .int .i64 x.tgt] 36))
  have H2 := Lib.hid h2
  have s1 : (w.alloc (.cells #[.int .i64 x.kind, .string x.topic, .int .i64 x.prio, .int .i64 x.retr, .int .i64 x.dflt, .string x.code, .string x.caught, .int .i64 x.tgt] 36)).heap.size = w.heap.size + 1 := by simp
  rw [s1] at H2
  clear h1 h2 b1 s1
  unfold Nd.val
  go_enter Tryz.func74, Tryz.ntmps74
  go_upto_region 1 with (fail)
  generalize (w.alloc _).alloc _ = wb at *
  obtain ⟨x0, x1, x2, x3, x4, x5, x6, x7⟩ := nd_facts H1.out
  obtain ⟨y0, y1, y2, y3, y4, y5, y6, y7⟩ := nd_facts H2.out
  go_wp2
  go_ret
  exact ⟨rfl, HB.out⟩
set_option maxHeartbeats 800000 in
theorem refsameflow_any (f : Fl) (w : World) : Calls Tryz.prog 75 #[f.val, f.val] w fun e w' => e = .returned (.bool true) ∧ Below w.heap.size w w' := by
  have h1 := Cel.lit w #[.int .i64 f.frm, .int .i64 f.til, .string f.cond] 38
  have b1 := (Below.refl w.heap.size w).alloc (Nat.le_refl _) (.cells #[.int .i64 f.frm, .int .i64 f.til, .string f.cond] 38)
  have h2 := Cel.lit (w.alloc (.cells #[.int .i64 f.frm, .int .i64 f.til, .string f.cond] 38)) #[.int .i64 f.frm, .int .i64 f.til, .string f.cond] 38
  have H1 := Lib.hid (h1.alloc (.cells #[.int .i64 f.frm, .int .i64 f.til, .string f.cond] 38))
  have HB := Lib.hid (b1.alloc b1.size (.cells #[.int .i64 f.frm, .int .i64 f.til, .string f.cond] 38))
  have H2 := Lib.hid h2
  have s1 : (w.alloc (.cells #[.int .i64 f.frm, .int .i64 f.til, .string f.cond] 38)).heap.size = w.heap.size + 1 := by simp
  rw [s1] at H2
  clear h1 h2 b1 s1
  unfold Fl.val
  go_enter Tryz.func75, Tryz.ntmps75
  go_upto_region 1 with (fail)
  generalize (w.alloc _).alloc _ = wb at *
  obtain ⟨⟨x0, x1, x2⟩, _⟩ := tri_facts H1.out
  obtain ⟨⟨y0, y1, y2⟩, _⟩ := tri_facts H2.out
  go_wp2
  go_ret
  exact ⟨rfl, HB.out⟩
set_option maxHeartbeats 1600000 in
set_option maxRecDepth 10000 in
theorem refsamenodes_any (A : Option Addr) (n c : Nat) (A' : Option Addr) (c' : Nat) (l : List Nd) (w : World) (h : KRow Nd.κ w w.heap.size A n l) (h' : KRow Nd.κ w w.heap.size A' n l) (hn : n ≤ 100000) :
    Calls Tryz.prog 48 #[.slice A n c, .slice A' n c'] w fun e w' => e = .returned (.bool true) ∧ Below w.heap.size w w' := by
  have H := Lib.hid h
  have H' := Lib.hid h'
  clear h h'
  go_enter Tryz.func48, Tryz.ntmps48
  go_wp2_with fail
  go_loopw [5] (fun i wr => ∃ j : Nat, j ≤ n ∧ i = .int .i64 j ∧ Below w.heap.size w wr) (fun i _ => n - (intOf i).toNat)
  case atStart => exact ⟨0, Nat.zero_le _, rfl, Below.refl _ _⟩
  case round =>
    obtain ⟨j, hj, rfl, hbr⟩ := hrel
    have hj0 : (0 : Int) ≤ (j : Int) := by omega
    have HB := Lib.hid hbr
    by_cases hlt : j < n
    · have hI : (j : Int) < (n : Int) := by omega
      obtain ⟨b, off, rfl, _, _⟩ := H.out.2 (by omega)
      obtain ⟨b', off', rfl, _, _⟩ := H'.out.2 (by omega)
      obtain ⟨x0, x1, x2, x3, x4, x5, x6, x7⟩ := nd_at (H.out.below hbr (Nat.le_refl _)) hlt
      obtain ⟨y0, y1, y2, y3, y4, y5, y6, y7⟩ := nd_at (H'.out.below hbr (Nat.le_refl _)) hlt
      generalize l[j]! = v at *
      have HS := Lib.hid (refsamenode_any v wr.drew)
      unfold Nd.val at HS
      have x0' : wr.drew.cell? ⟨b, off + j * 8, none⟩ = _ := x0
      have x1' : wr.drew.cell? ⟨b, off + j * 8 + 1, none⟩ = _ := x1
      have x2' : wr.drew.cell? ⟨b, off + j * 8 + 2, none⟩ = _ := x2
      have x3' : wr.drew.cell? ⟨b, off + j * 8 + 3, none⟩ = _ := x3
      have x4' : wr.drew.cell? ⟨b, off + j * 8 + 4, none⟩ = _ := x4
      have x5' : wr.drew.cell? ⟨b, off + j * 8 + 5, none⟩ = _ := x5
      have x6' : wr.drew.cell? ⟨b, off + j * 8 + 6, none⟩ = _ := x6
      have x7' : wr.drew.cell? ⟨b, off + j * 8 + 7, none⟩ = _ := x7
      have y0' : wr.drew.cell? ⟨b', off' + j * 8, none⟩ = _ := y0
      have y1' : wr.drew.cell? ⟨b', off' + j * 8 + 1, none⟩ = _ := y1
      have y2' : wr.drew.cell? ⟨b', off' + j * 8 + 2, none⟩ = _ := y2
      have y3' : wr.drew.cell? ⟨b', off' + j * 8 + 3, none⟩ = _ := y3
      have y4' : wr.drew.cell? ⟨b', off' + j * 8 + 4, none⟩ = _ := y4
      have y5' : wr.drew.cell? ⟨b', off' + j * 8 + 5, none⟩ = _ := y5
      have y6' : wr.drew.cell? ⟨b', off' + j * 8 + 6, none⟩ = _ := y6
      have y7' : wr.drew.cell? ⟨b', off' + j * 8 + 7, none⟩ = _ := y7
      clear hbr
      go_upto_region 6 with (fail)
      go_region_law (go_simp; go_at_call 74; refine HS.out.mono ?_; rintro e w5 ⟨rfl, hb5⟩)
      all_goals
        have hb5' : Below wr.heap.size wr w5 := ((Below.refl _ _).drew).trans hb5
        have HB2 := Lib.hid (HB.out.trans (hb5'.mono HB.out.size))
        clear hb5 hb5'
        go_wp2_with fail
        go_roundw
        case measure => simp [intOf]; omega
        case rel => exact ⟨j + 1, by omega, by go_num, HB2.out⟩
    · have hI : ¬ (j : Int) < (n : Int) := by omega
      clear hbr
      go_wp2
      go_ret
      exact ⟨rfl, HB.out⟩
set_option maxHeartbeats 1600000 in
set_option maxRecDepth 10000 in
theorem refsameflows_any (A : Option Addr) (n c : Nat) (A' : Option Addr) (c' : Nat) (l : List Fl) (w : World) (h : KRow Fl.κ w w.heap.size A n l) (h' : KRow Fl.κ w w.heap.size A' n l) (hn : n ≤ 100000) :
    Calls Tryz.prog 49 #[.slice A n c, .slice A' n c'] w fun e w' => e = .returned (.bool true) ∧ Below w.heap.size w w' := by
  have H := Lib.hid h
  have H' := Lib.hid h'
  clear h h'
  go_enter Tryz.func49, Tryz.ntmps49
  go_wp2_with fail
  go_loopw [5] (fun i wr => ∃ j : Nat, j ≤ n ∧ i = .int .i64 j ∧ Below w.heap.size w wr) (fun i _ => n - (intOf i).toNat)
  case atStart => exact ⟨0, Nat.zero_le _, rfl, Below.refl _ _⟩
  case round =>
    obtain ⟨j, hj, rfl, hbr⟩ := hrel
    have hj0 : (0 : Int) ≤ (j : Int) := by omega
    have HB := Lib.hid hbr
    by_cases hlt : j < n
    · have hI : (j : Int) < (n : Int) := by omega
      obtain ⟨b, off, rfl, _, _⟩ := H.out.2 (by omega)
      obtain ⟨b', off', rfl, _, _⟩ := H'.out.2 (by omega)
      obtain ⟨x0, x1, x2⟩ := fl_at (H.out.below hbr (Nat.le_refl _)) hlt
      obtain ⟨y0, y1, y2⟩ := fl_at (H'.out.below hbr (Nat.le_refl _)) hlt
      generalize l[j]! = v at *
      have HS := Lib.hid (refsameflow_any v wr.drew)
      unfold Fl.val at HS
      have x0' : wr.drew.cell? ⟨b, off + j * 3, none⟩ = _ := x0
      have x1' : wr.drew.cell? ⟨b, off + j * 3 + 1, none⟩ = _ := x1
      have x2' : wr.drew.cell? ⟨b, off + j * 3 + 2, none⟩ = _ := x2
      have y0' : wr.drew.cell? ⟨b', off' + j * 3, none⟩ = _ := y0
      have y1' : wr.drew.cell? ⟨b', off' + j * 3 + 1, none⟩ = _ := y1
      have y2' : wr.drew.cell? ⟨b', off' + j * 3 + 2, none⟩ = _ := y2
      clear hbr
      go_upto_region 6 with (fail)
      go_region_law (go_simp; go_at_call 75; refine HS.out.mono ?_; rintro e w5 ⟨rfl, hb5⟩)
      all_goals
        have hb5' : Below wr.heap.size wr w5 := ((Below.refl _ _).drew).trans hb5
        have HB2 := Lib.hid (HB.out.trans (hb5'.mono HB.out.size))
        clear hb5 hb5'
        go_wp2_with fail
        go_roundw
        case measure => simp [intOf]; omega
        case rel => exact ⟨j + 1, by omega, by go_num, HB2.out⟩
    · have hI : ¬ (j : Int) < (n : Int) := by omega
      clear hbr
      go_wp2
      go_ret
      exact ⟨rfl, HB.out⟩
set_option maxHeartbeats 1600000 in
theorem refsameprocess_any (A : Option Addr) (n c : Nat) (A' : Option Addr) (c' : Nat) (F : Option Addr) (m d : Nat) (F' : Option Addr) (d' : Nat) (p : P) (w : World) (hN : KRow Nd.κ w w.heap.size A n p.nodes) (hN' : KRow Nd.κ w w.heap.size A' n p.nodes) (hF : KRow Fl.κ w w.heap.size F m p.flows) (hF' : KRow Fl.κ w w.heap.size F' m p.flows) (hn : n ≤ 100000) (hm : m ≤ 100000) :
    Calls Tryz.prog 15 #[.agg #[.string p.name, .slice A n c, .slice F m d], .agg #[.string p.name, .slice A' n c', .slice F' m d']] w fun e w' => e = .returned (.bool true) ∧ Below w.heap.size w w' := by
  have h1 := Cel.lit w #[.string p.name, .slice A n c, .slice F m d] 30
  have b1 := (Below.refl w.heap.size w).alloc (Nat.le_refl _) (.cells #[.string p.name, .slice A n c, .slice F m d] 30)
  have h2 := Cel.lit (w.alloc (.cells #[.string p.name, .slice A n c, .slice F m d] 30)) #[.string p.name, .slice A' n c', .slice F' m d'] 30
  have H1 := Lib.hid (h1.alloc (.cells #[.string p.name, .slice A' n c', .slice F' m d'] 30))
  have HB := Lib.hid (b1.alloc b1.size (.cells #[.string p.name, .slice A' n c', .slice F' m d'] 30))
  have H2 := Lib.hid h2
  have s1 : (w.alloc (.cells #[.string p.name, .slice A n c, .slice F m d] 30)).heap.size = w.heap.size + 1 := by simp
  rw [s1] at H2
  have HN := Lib.hid (And.intro hN hN')
  have HF := Lib.hid (And.intro hF hF')
  clear h1 h2 b1 s1 hN hN' hF hF'
  go_enter Tryz.func15, Tryz.ntmps15
  go_upto_region 1 with (fail)
  generalize (w.alloc _).alloc _ = wb at *
  obtain ⟨⟨x0, x1, x2⟩, _⟩ := tri_facts H1.out
  obtain ⟨⟨y0, y1, y2⟩, _⟩ := tri_facts H2.out
  go_wp2_with fail
  refine (refsamenodes_any A n c A' c' p.nodes wb ((HN.out.1.below HB.out (Nat.le_refl _)).mono HB.out.size) ((HN.out.2.below HB.out (Nat.le_refl _)).mono HB.out.size) hn).mono ?_
  rintro e w3 ⟨rfl, hb3⟩
  have HB3 := Lib.hid (HB.out.trans (hb3.mono HB.out.size))
  have H13 := Lib.hid (H1.out.below hb3 (Nat.le_refl _))
  have H23 := Lib.hid (H2.out.below hb3 (Nat.le_refl _))
  clear hb3 x0 x1 x2 y0 y1 y2
  obtain ⟨⟨x0, x1, x2⟩, _⟩ := tri_facts H13.out
  obtain ⟨⟨y0, y1, y2⟩, _⟩ := tri_facts H23.out
  go_wp2_with fail
  refine (refsameflows_any F m d F' d' p.flows w3 ((HF.out.1.below HB3.out (Nat.le_refl _)).mono HB3.out.size) ((HF.out.2.below HB3.out (Nat.le_refl _)).mono HB3.out.size) hm).mono ?_
  rintro e w4 ⟨rfl, hb4⟩
  have HB4 := Lib.hid (HB3.out.trans (hb4.mono HB3.out.size))
  clear hb4
  go_wp2
  go_ret
  exact ⟨rfl, HB4.out⟩
end Pr
end Go.Proofs.YtjababmmcejgdaaGreatDoor
