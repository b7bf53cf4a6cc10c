/- The document's parser in memory; its first calls. The chapter's examples. -/
import Derived.Test.YtddedbpbenkdoaaGreatDoorYProcessOne4
import Derived.Test.YtddedbpbenkdoaaGreatDoorYProcessOne1
import Derived.Test.YtddedbpbenkdoaaGreatDoorYProcessOne10
import Derived.Test.YtddedbpbenkdoaaGreatDoorSaY
import Derived.Deep.CutRange
import Derived.Test.YtddedbpbenkdoaaGreatDoorUaY
import Derived.Test.YtddedbpbenkdoaaGreatDoorGzY
namespace Go.Proofs.YtddedbpbenkdoaaGreatDoor
open Go.RowKit

/-- The document's parser's cells. -/
structure Dq where
  a : Int
  n : Int
  word : ByteArray
  c : Int
  b : Bool
  k : Int
  d : Int
def Dq.list (s : ByteArray) (x : Dq) : List Value := [.string s, .int .i64 x.a, .int .i64 x.n, .string x.word, .int .i64 x.c, .bool x.b, .int .i64 x.k, .int .i64 x.d]
/-- What it holds of a state: all is fine by then, or what is amiss. -/
inductive Says (s : ByteArray) (st : Co.St) (d : Nat) : Dq → Prop
  | fine (h : st.err = none) (hk : Co.text s.data.toList st = [] → st.kind = 1) : Says s st d ⟨st.frm, st.till, ⟨(Co.text s.data.toList st).toArray⟩, 0, false, 0, d⟩
  | bad (a n d' : Int) (wd : ByteArray) (c : Int) (k : Nat) (hc : c ≠ 0) (h : Co.eff st = some (c, k)) : Says s st d ⟨a, n, wd, c, true, k, d'⟩
structure DpC (w : World) (q : Nat) (s : ByteArray) (st : Co.St) (d : Nat) : Prop where
  gd : Co.Gd s.data.toList st
  ex : ∃ x : Dq, Cel w q (x.list s) ∧ Says s st d x
theorem Dq.facts {w : World} {q : Nat} {s : ByteArray} {x : Dq} (h : Cel w q (x.list s)) : (w.cell? ⟨q, 0, none⟩ = some (.string s) ∧ w.cell? ⟨q, 1, none⟩ = some (.int .i64 x.a) ∧ w.cell? ⟨q, 2, none⟩ = some (.int .i64 x.n) ∧ w.cell? ⟨q, 3, none⟩ = some (.string x.word) ∧
    w.cell? ⟨q, 4, none⟩ = some (.int .i64 x.c) ∧ w.cell? ⟨q, 5, none⟩ = some (.bool x.b) ∧ w.cell? ⟨q, 6, none⟩ = some (.int .i64 x.k) ∧ w.cell? ⟨q, 7, none⟩ = some (.int .i64 x.d)) ∧
    (w.frozen? ⟨q, 1, none⟩ = false ∧ w.frozen? ⟨q, 2, none⟩ = false ∧ w.frozen? ⟨q, 3, none⟩ = false ∧ w.frozen? ⟨q, 4, none⟩ = false ∧ w.frozen? ⟨q, 5, none⟩ = false ∧ w.frozen? ⟨q, 6, none⟩ = false ∧ w.frozen? ⟨q, 7, none⟩ = false) :=
  ⟨⟨h.cell 0 _ rfl, h.cell 1 _ rfl, h.cell 2 _ rfl, h.cell 3 _ rfl, h.cell 4 _ rfl, h.cell 5 _ rfl, h.cell 6 _ rfl, h.cell 7 _ rfl⟩,
    h.froz 1 (by simp [Dq.list]), h.froz 2 (by simp [Dq.list]), h.froz 3 (by simp [Dq.list]), h.froz 4 (by simp [Dq.list]), h.froz 5 (by simp [Dq.list]), h.froz 6 (by simp [Dq.list]), h.froz 7 (by simp [Dq.list])⟩
section
variable {w : World} {q : Nat} {s : ByteArray}
set_option maxHeartbeats 400000 in
theorem dletter_any (c : UInt8) (w : World) : Calls Tryz.prog 72 #[.int .u8 (c.toNat : Int)] w fun e w' => e = .returned (.bool (Co.ofWord c)) ∧ w = w' := by
  have hc := c.toNat_lt
  have hw : Co.ofWord c = (!decide (c.toNat = 45) && Vr.sign c) := by
    unfold Co.ofWord Co.digit Vr.sign
    rw [Bool.eq_iff_iff]
    simp
    omega
  rw [hw]
  have HS := Lib.hid (refSign_any c w)
  clear hw
  by_cases h : c.toNat = 45
  · have h1 : ((c.toNat : Int) != 45) = false := by rw [h]; rfl
    rw [decide_eq_true h]
    clear h
    go_enter Tryz.func72, Tryz.ntmps72
    go_wp2
    go_ret
    exact ⟨rfl, rfl⟩
  · have h1 : ((c.toNat : Int) != 45) = true := by rw [bne_iff_ne]; omega
    have h2 : ¬ (c.toNat : Int) = 45 := by omega
    rw [decide_eq_false h]
    clear h
    go_enter Tryz.func72, Tryz.ntmps72
    go_wp2_with fail
    refine HS.out.mono ?_
    rintro e w1 ⟨rfl, rfl⟩
    go_wp2
    go_ret
    exact ⟨by simp, rfl⟩
set_option maxHeartbeats 400000 in
theorem dfine_any {x : Dq} (h : Cel w q (x.list s)) : Calls Tryz.prog 61 #[.pointer (some ⟨q, 0, none⟩)] w fun e w' => e = .returned (.bool (x.c == 0)) ∧ w = w' := by
  obtain ⟨⟨_, _, _, _, k4, _⟩, _⟩ := Dq.facts h
  clear h
  go_enter Tryz.func61, Tryz.ntmps61
  go_wp2
  go_ret
  exact ⟨rfl, rfl⟩
set_option maxHeartbeats 800000 in
theorem damiss_any {x : Dq} (h : Cel w q (x.list s)) (hx : x.c = 0) (c k : Int) (hc : c ≠ 0) :
    Calls Tryz.prog 62 #[.pointer (some ⟨q, 0, none⟩), .int .i64 c, .int .i64 k] w fun e w' => e = .returned (.tuple #[]) ∧ Cel w' q (Dq.list s ⟨x.a, x.n, x.word, c, true, k, x.d⟩) ∧ w.grownBy w' (some q) := by
  obtain ⟨⟨_, _, _, _, k4, k5, k6, _⟩, _⟩ := Dq.facts h
  rw [hx] at k4
  have HC := Lib.hid h
  clear h hx
  go_enter Tryz.func62, Tryz.ntmps62
  go_wp2_with fail
  refine (placed_any c k hc _).mono ?_
  rintro e w1 ⟨rfl, hb1⟩
  have h1 := HC.out.below hb1 (Nat.le_refl _)
  obtain ⟨⟨_, _, _, _, k4, k5, k6, _⟩, _, _, _, f4, f5, f6, _⟩ := Dq.facts h1
  have hs := ((h1.set (i := 4) (by simp [Dq.list]) (.int .i64 c)).set (i := 5) (by simp [Dq.list]) (.bool true)).set (i := 6) (by simp [Dq.list]) (.int .i64 k)
  have hg : w.grownBy (((w1.setCell ⟨q, 4, none⟩ (.int .i64 c)).setCell ⟨q, 5, none⟩ (.bool true)).setCell ⟨q, 6, none⟩ (.int .i64 k)) (some q) :=
    set_grown (set_grown (set_grown (grown_trans (World.grownBy.refl _ _) ⟨hb1.os, hb1.tape, hb1.output, hb1.size, fun b hb _ => hb1.block b hb⟩) 4 _) 5 _) 6 _
  have HS := Lib.hid hs
  have HG := Lib.hid hg
  clear h1 hs hg hb1 HC
  unfold faultV
  go_wp2
  try simp only [Exit.inBlock, Exit.then]
  first | (refine bodyPost_ret (results_none rfl _ _ _) rfl ?_) | (refine bodyPost_end (results_none rfl _ _ _) rfl ?_)
  exact ⟨rfl, HS.out, HG.out⟩
end
end Go.Proofs.YtddedbpbenkdoaaGreatDoor
namespace Go.Proofs.YtddedbpbenkdoaaGreatDoor
open Go.RowKit

namespace Pr
/-- The examples' process: five bare nodes, a flow from 3 to 4. -/
def nd0 : Nd := ⟨0, no, 0, 0, 0, no, no, 0⟩
def exP : P := ⟨no, List.replicate 5 nd0, [⟨3, 4, no⟩]⟩
theorem exP3 : outsB exP 3 = [0] := by decide +kernel
theorem exP9 : outsB exP 9 = [] := by decide +kernel
set_option maxHeartbeats 1600000 in
set_option maxRecDepth 10000 in
theorem first_any (w : World) : Calls Tryz.prog 4 #[] w fun e w' => e = .returned (.bool true) ∧ Below w.heap.size w w' := by
  obtain ⟨i0, hi0, hz0, hz1, hz2⟩ := info_parts info_node
  go_enter Tryz.func4, Tryz.ntmps4
  go_upto_region 2 with (at_make; refine wpList_make_full _ rfl _ _ 27 rfl w.heap.size 36 i0 _ 8 Tryz.underlying27 hi0 hz0 hz1 .i64 .i64 _ _ 5 rfl rfl rfl rfl (by rw [hz2]; omega) (by unfold maxLen; omega) (Nat.le_refl _) ?_; intro w1 ho1 hg1)
  have hmk : (madeCells (Value.agg #[.int .i64 0, .string ⟨#[]⟩, .int .i64 0, .int .i64 0, .int .i64 0, .string ⟨#[]⟩, .string ⟨#[]⟩, .int .i64 0]).cells (5 * 8)).toList = exP.nodes.flatMap Nd.κ.cs := by kernel_rfl
  rw [hmk] at ho1
  have hN : OwnK Nd.κ w1 w.heap.size 36 (some ⟨w.heap.size, 0, none⟩) 5 5 exP.nodes := ⟨by decide, ho1⟩
  have hw1 : Below w.heap.size w w1 := ⟨hg1.os, hg1.tape, hg1.output, hg1.size, fun b hb => hg1.block b hb (by simp)⟩
  have hba : Below w1.heap.size w1 (w1.alloc (.cells #[.int .i64 3, .int .i64 4, .string ⟨#[]⟩] 38)) := (Below.refl _ _).alloc (Nat.le_refl _) _
  have hF : KRow Fl.κ (w1.alloc (.cells #[.int .i64 3, .int .i64 4, .string ⟨#[]⟩] 38)) (w1.heap.size + 1) (some ⟨w1.heap.size, 0, none⟩) 1 exP.flows := KRow.lit (κ := Fl.κ) w1 38 exP.flows #[.int .i64 3, .int .i64 4, .string ⟨#[]⟩] rfl
  have hC := Cel.lit (w1.alloc (.cells #[.int .i64 3, .int .i64 4, .string ⟨#[]⟩] 38)) #[.string ⟨#[]⟩, .slice (some ⟨w.heap.size, 0, none⟩) 5 5, .slice (some ⟨w1.heap.size, 0, none⟩) 1 1] 30
  have hbc : Below (w1.heap.size + 1) (w1.alloc (.cells #[.int .i64 3, .int .i64 4, .string ⟨#[]⟩] 38)) ((w1.alloc (.cells #[.int .i64 3, .int .i64 4, .string ⟨#[]⟩] 38)).alloc (.cells #[.string ⟨#[]⟩, .slice (some ⟨w.heap.size, 0, none⟩) 5 5, .slice (some ⟨w1.heap.size, 0, none⟩) 1 1] 30)) := (Below.refl _ _).alloc (by simp) _
  have HF := Lib.hid (hF.below hbc (Nat.le_refl _))
  have HN := Lib.hid ((hN.below hba (Nat.le_refl _)).below hbc (by simp))
  have HC := Lib.hid hC
  have HB := Lib.hid (hw1.trans ((hba.trans (hbc.mono (by simp))).mono hw1.size))
  have hsz : w1.heap.size + 1 < ((w1.alloc (.cells #[.int .i64 3, .int .i64 4, .string ⟨#[]⟩] 38)).alloc (.cells #[.string ⟨#[]⟩, .slice (some ⟨w.heap.size, 0, none⟩) 5 5, .slice (some ⟨w1.heap.size, 0, none⟩) 1 1] 30)).heap.size := by simp
  rw [size_alloc] at HC
  clear hN hw1 hba hF hC hbc ho1 hg1
  generalize (w1.alloc _).alloc _ = w2 at *
  obtain ⟨⟨z0, z1, z2⟩, _⟩ := tri_facts HC.out
  have hn5 : exP.nodes.length = 5 := rfl
  go_wp2_with fail
  refine (outs_any (some ⟨w.heap.size, 0, none⟩) 5 5 (some ⟨w1.heap.size, 0, none⟩) 1 1 exP 3 w2 HN.out.row (HF.out.mono (by omega)) (by decide) (by decide)).mono ?_
  rintro e w3 ⟨⟨X, k, cc, rfl, ho⟩, hb3⟩
  rw [exP3] at ho
  obtain rfl : 1 = k := ho.len
  obtain ⟨b, off, rfl, _, _⟩ := ho.row.2 (by decide)
  have HB3 := Lib.hid (HB.out.trans (hb3.mono HB.out.size))
  have HC3 := Lib.hid (HC.out.below hb3 (Nat.le_refl _))
  have HN3 := Lib.hid (HN.out.below hb3 (Nat.le_refl _))
  have HF3 := Lib.hid (HF.out.below hb3 (by omega))
  have HO := Lib.hid ho
  have hs3 := hb3.size
  clear z0 z1 z2 ho hb3
  obtain ⟨⟨z0, z1, z2⟩, _⟩ := tri_facts HC3.out
  go_wp2_with fail
  refine (outs_any (some ⟨w.heap.size, 0, none⟩) 5 5 (some ⟨w1.heap.size, 0, none⟩) 1 1 exP 9 w3 HN3.out.row (HF3.out.mono (by omega)) (by decide) (by decide)).mono ?_
  rintro e w4 ⟨⟨X, k, cc', rfl, ho4⟩, hb4⟩
  rw [exP9] at ho4
  obtain rfl : 0 = k := ho4.len
  have HB4 := Lib.hid (HB3.out.trans (hb4.mono HB3.out.size))
  have hc0 := iκ_cells (HO.out.below hb4 (Nat.le_refl _)).row (j := 0) (by decide)
  have hc0 : w4.cell? ⟨b, off + 0, none⟩ = some (.int .i64 0) := hc0
  rw [Nat.add_zero] at hc0
  clear z0 z1 z2 ho4 hb4
  go_wp2
  go_ret
  exact ⟨rfl, HB4.out⟩
end Pr
end Go.Proofs.YtddedbpbenkdoaaGreatDoor
