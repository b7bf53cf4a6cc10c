/- Walk of the statement CondTypes: what is compared is of one kind; texts are put together, cut at their bound. -/
import Derived.Test.YtpjdbccndlbbhaaGreatDoorKa
import Derived.Deep.RegionHeld3
namespace Go.Proofs.YtpjdbccndlbbhaaGreatDoor
open Go.RowKit

namespace Co
/-- The texts as they stand. -/
def sT : List (List UInt8) := [[97, 32, 61, 61, 32, 98], [97, 32, 33, 61, 32, 98], [97, 32, 60, 32, 98], [97, 32, 60, 61, 32, 98], [97, 32, 62, 32, 98], [97, 32, 62, 61, 32, 98]]
def sX : List (List UInt8) := [[97, 32, 61, 61, 32, 110], [110, 32, 60, 32, 112], [112, 32, 60, 32, 112], [97, 32, 45, 32, 98], [110, 111, 116, 32, 97], [110, 32, 97, 110, 100, 32, 112], [112, 32, 43, 32, 112], [45, 97]]
theorem sT_of (i : Nat) (hi : i < 6) : sT[i]! = (tT[i]!).s := by
  have e : i = 0 ∨ i = 1 ∨ i = 2 ∨ i = 3 ∨ i = 4 ∨ i = 5 := by omega
  rcases e with rfl | rfl | rfl | rfl | rfl | rfl <;> rfl
theorem sX_of (i : Nat) (hi : i < 8) : sX[i]! = (tX[i]!).s := by
  have e : i = 0 ∨ i = 1 ∨ i = 2 ∨ i = 3 ∨ i = 4 ∨ i = 5 ∨ i = 6 ∨ i = 7 := by omega
  rcases e with rfl | rfl | rfl | rfl | rfl | rfl | rfl | rfl <;> rfl
theorem fitT (i : Nat) (hi : i < 6) : (tT[i]!).Fit := by
  obtain ⟨h1, h2, h3⟩ := okT i hi
  refine ⟨h1, h2, ?_, h3⟩
  have e : i = 0 ∨ i = 1 ∨ i = 2 ∨ i = 3 ∨ i = 4 ∨ i = 5 := by omega
  rcases e with rfl | rfl | rfl | rfl | rfl | rfl <;> rfl
theorem fitX (i : Nat) (hi : i < 8) : (tX[i]!).Fit := by
  obtain ⟨h1, h2, h3⟩ := okX i hi
  refine ⟨h1, h2, ?_, h3⟩
  have e : i = 0 ∨ i = 1 ∨ i = 2 ∨ i = 3 ∨ i = 4 ∨ i = 5 ∨ i = 6 ∨ i = 7 := by omega
  rcases e with rfl | rfl | rfl | rfl | rfl | rfl | rfl | rfl <;> rfl
theorem fitTl : txTl.Fit := ⟨txTl_ok, rfl, rfl, by decide⟩
theorem gt_of (a b : ByteArray) : Op.bytesLess b.toList a.toList = (!Op.bytesLess a.toList b.toList && !a.toList == b.toList) := by
  rcases Vr.less_total a.toList b.toList with h | h | h
  · rw [less_asym h, h]; rfl
  · rw [h, Vr.less_irrefl]; simp
  · have hne : (a.toList == b.toList) = false := by rw [beq_eq_false_iff_ne]; intro e; rw [e, Vr.less_irrefl] at h; cases h
    rw [less_asym h, h, hne]; rfl
theorem ge_of (a b : ByteArray) : (Op.bytesLess b.toList a.toList || a.toList == b.toList) = !Op.bytesLess a.toList b.toList := by
  rw [gt_of]
  cases h : Op.bytesLess a.toList b.toList
  · cases a.toList == b.toList <;> rfl
  · have hne : (a.toList == b.toList) = false := by rw [beq_eq_false_iff_ne]; intro e; rw [e, Vr.less_irrefl] at h; cases h
    rw [hne]; rfl
theorem wT_eq (a b : ByteArray) : wT a b = [a.toList == b.toList, !a.toList == b.toList, Op.bytesLess a.toList b.toList, (Op.bytesLess a.toList b.toList || a.toList == b.toList), (!Op.bytesLess a.toList b.toList && !a.toList == b.toList), !Op.bytesLess a.toList b.toList] := by
  unfold wT
  rw [ge_of a b, gt_of a b]
theorem lT_lite (a b : ByteArray) (n : Int) (p : Bool) (ha : a.size ≤ 60) (hb : b.size ≤ 60) : ∀ v ∈ lT a b n p, v.text.size ≤ 80 := by
  intro v hv
  simp only [lT, List.mem_cons, List.not_mem_nil, or_false] at hv
  rcases hv with rfl | rfl | rfl | rfl
  · show a.size ≤ 80; omega
  · show b.size ≤ 80; omega
  · show (⟨#[]⟩ : ByteArray).size ≤ 80; decide
  · show (⟨#[]⟩ : ByteArray).size ≤ 80; decide
end Co
set_option maxHeartbeats 3200000 in
set_option maxRecDepth 20000 in
theorem condTypes_walk (a b : ByteArray) (n : Int) (p : Bool) (ads : List Addr) (w : World) (_ : a.size ≤ maxLen) (_ : b.size ≤ maxLen) (_ : -9223372036854775808 ≤ n) (_ : n ≤ 9223372036854775807)
    (hE0 : Errs w 136 sents ads) (hW : CoWords w) :
    Calls Tryz.prog 7 #[.string a, .string b, .int .i64 n, .bool p] w fun e w' => e = .returned (.bool true) ∧ Below w.heap.size w w' := by
  have hE := coErrs16 hE0 hW
  have HE := Lib.hid hE
  have HE0 := Lib.hid hE0
  have HF := Lib.hid (cfirst_any hE (Below.refl w.heap.size w))
  clear hE hE0 hW
  by_cases ha : 60 < a.size
  · have haI : (60 : Int) < (a.size : Int) := by omega
    clear ha HE HE0
    go_enter Tryz.func7, Tryz.ntmps7
    go_wp2_with fail
    refine HF.out.mono ?_
    rintro e w1 ⟨rfl, hb1⟩
    have HB1 := Lib.hid hb1
    clear hb1 HF
    go_wp2
    go_ret
    exact ⟨rfl, HB1.out⟩
  have haI : ¬ (60 : Int) < (a.size : Int) := by omega
  by_cases hb : 60 < b.size
  · have hbI : (60 : Int) < (b.size : Int) := by omega
    clear ha hb HE HE0
    go_enter Tryz.func7, Tryz.ntmps7
    go_wp2_with fail
    refine HF.out.mono ?_
    rintro e w1 ⟨rfl, hb1⟩
    have HB1 := Lib.hid hb1
    clear hb1 HF
    go_wp2
    go_ret
    exact ⟨rfl, HB1.out⟩
  have hbI : ¬ (60 : Int) < (b.size : Int) := by omega
  have HAB := Lib.hid (And.intro (Nat.not_lt.1 ha) (Nat.not_lt.1 hb))
  clear ha hb
  go_enter Tryz.func7, Tryz.ntmps7
  go_wp2_with fail
  refine HF.out.mono ?_
  rintro e w1 ⟨rfl, hb1⟩
  have HB1 := Lib.hid hb1
  clear hb1 HF
  go_wp2_with fail
  refine (cflag_any _ _).mono ?_
  rintro e w2 ⟨rfl, hb2⟩
  have HB2 := Lib.hid (HB1.out.trans (hb2.mono HB1.out.size))
  clear hb2 HB1
  go_wp2_with fail
  generalize hwc : ((w2.alloc _).alloc _).alloc _ = wc at *
  have hbx : Below w2.heap.size w2 wc := by rw [← hwc]; exact below3 _ _ _ _
  have hx1 : wc.heap[w2.heap.size]? = some (.cells ((Co.lT a b n p).flatMap Vr.V.cells).toArray 26 (0, 0)) := by rw [← hwc]; exact (three_new _ _ _ _).1
  have hx2 : wc.heap[w2.heap.size + 1]? = some (.cells (Co.sT.map fun s => Value.string ⟨s.toArray⟩).toArray 9 (0, 0)) := by rw [← hwc]; exact (three_new _ _ _ _).2.1
  have hx3 : wc.heap[w2.heap.size + 1 + 1]? = some (.cells ((Co.wT a b).map Value.bool).toArray 4 (0, 0)) := by rw [← hwc, Co.wT_eq]; exact (three_new _ _ _ _).2.2
  have HV := Lib.hid (varsC_lit 4 hx1 rfl (by decide) (Co.lT_lite a b n p HAB.out.1 HAB.out.2))
  have HT : Hid (∀ i, i < 6 → wc.cell? ⟨w2.heap.size + 1, i, none⟩ = some (.string ⟨(Co.sT[i]!).toArray⟩)) := Lib.hid fun i hi => lit_texts hx2 hi
  have HQ : Hid (∀ i, i < 6 → wc.cell? ⟨w2.heap.size + 1 + 1, i, none⟩ = some (.bool (Co.wT a b)[i]!)) := Lib.hid fun i hi => lit_bools hx3 hi
  have HBC := Lib.hid (HB2.out.trans (hbx.mono HB2.out.size))
  have HEC := Lib.hid (HE.out.below HBC.out)
  have hl3 := blk_lt hx3
  clear hwc hbx hx1 hx2 hx3 HB2 HE
  go_loopw [13] (fun i wr => ∃ k : Nat, k ≤ 6 ∧ i = .int .i64 k ∧ Below wc.heap.size wc wr) (fun i _ => 6 - (intOf i).toNat)
  case atStart => exact ⟨0, Nat.zero_le _, rfl, Below.refl _ _⟩
  case round =>
    obtain ⟨k, hk, rfl, hbr⟩ := hrel
    by_cases hlt : k < 6
    · have hkI : (k : Int) < 6 := by omega
      have hk0 : (0 : Int) ≤ (k : Int) := by omega
      have c1 := cell_below hbr (HT.out k hlt)
      rw [Co.sT_of k hlt] at c1
      have hh := cholds_any (c := 4) HEC.out HV.out (Co.tT[k]!) (Co.fitT k hlt) hbr
      rw [Co.evT a b n p k hlt] at hh
      have HH := Lib.hid hh
      have HC2 := Lib.hid (fun w' h => cell_below (w := wc) (w' := w') h (HQ.out k hlt))
      generalize (Co.wT a b)[k]! = bk at *
      generalize (Co.tT[k]!).s = sk at *
      have HBR := Lib.hid hbr
      clear hbr hh
      go_wp2_with fail
      refine HH.out.mono ?_
      rintro e w5 ⟨⟨e, rfl, hs⟩, hb5⟩
      obtain rfl := seen_nil hs
      have hb6 := HBR.out.trans (hb5.mono HBR.out.size)
      have c2 := HC2.out _ hb6
      have HB6 := Lib.hid hb6
      clear hs hb5 hb6 c1
      go_wp2_with fail
      go_roundw
      case measure => simp [intOf]; omega
      case rel => exact ⟨k + 1, by omega, by go_num, HB6.out⟩
    · obtain rfl : k = 6 := by omega
      have HBR := Lib.hid hbr
      clear hbr HQ HT hk hlt
      go_wp2_with fail
      generalize hwd : wr.alloc _ = wd at *
      have hbd : Below wr.heap.size wr wd := by rw [← hwd]; exact (Below.refl _ _).alloc (Nat.le_refl _) _
      have hy : wd.heap[wr.heap.size]? = some (.cells (Co.sX.map fun s => Value.string ⟨s.toArray⟩).toArray 9 (0, 0)) := by rw [← hwd]; exact heap_alloc_new _ _
      have HX : Hid (∀ i, i < 8 → wd.cell? ⟨wr.heap.size, i, none⟩ = some (.string ⟨(Co.sX[i]!).toArray⟩)) := Lib.hid fun i hi => lit_texts hy hi
      have HBD := Lib.hid (HBR.out.trans (hbd.mono HBR.out.size))
      clear hwd hbd hy HBR
      generalize wr.heap.size = qx at *
      go_loopw [17] (fun i wr => ∃ k : Nat, k ≤ 8 ∧ i = .int .i64 k ∧ Below wd.heap.size wd wr) (fun i _ => 8 - (intOf i).toNat)
      case atStart => exact ⟨0, Nat.zero_le _, rfl, Below.refl _ _⟩
      case round =>
        obtain ⟨k, hk, rfl, hbr⟩ := hrel
        have hbrc := HBD.out.trans (hbr.mono HBD.out.size)
        by_cases hlt : k < 8
        · have hkI : (k : Int) < 8 := by omega
          have hk0 : (0 : Int) ≤ (k : Int) := by omega
          have c1 := cell_below hbr (HX.out k hlt)
          rw [Co.sX_of k hlt] at c1
          have hP := cpars_any HEC.out hbrc (Co.tX[k]!) (Co.fitX k hlt)
          have hX := ceval_any (c := 4) HEC.out HV.out (Co.tX[k]!) (Co.fitX k hlt)
          unfold EvalC at hX
          rw [Co.evX a b n p k hlt] at hX
          have HP := Lib.hid hP
          have HY0 := Lib.hid hX
          generalize Co.tX[k]! = tk at *
          have HBR := Lib.hid hbrc
          have HBRD := Lib.hid hbr
          clear hbr hbrc hP hX
          go_wp2_with fail
          refine HP.out.mono ?_
          rintro e w5 ⟨⟨y, rfl, hat⟩, hb5⟩
          have hb5a : Below wr.heap.size wr (w5.alloc (.cells #[.int .i64 y.op, .int .i64 y.kind, .int .i64 y.num, .string y.txt, .string y.name, .slice y.A y.n y.c] 39)) := hb5.alloc hb5.size _
          have hb5c := HBR.out.trans (hb5a.mono HBR.out.size)
          have HB5D := Lib.hid (HBRD.out.trans (hb5a.mono HBRD.out.size))
          have HY := Lib.hid (HY0.out _ _ y hb5c (hat.alloc _))
          have HZ := Lib.hid (Ex.lit w5 y)
          obtain ⟨⟨x0, x1, x2, x3, x4, x5⟩, _⟩ := HZ.out.six_of
          have hlx : w5.heap.size < (w5.alloc (.cells #[.int .i64 y.op, .int .i64 y.kind, .int .i64 y.num, .string y.txt, .string y.name, .slice y.A y.n y.c] 39)).heap.size := HZ.out.lt
          have HB5 := Lib.hid hb5c
          clear hat hb5 hb5a hb5c c1 HY0 HP HBR HBRD
          unfold Ex.val at *
          go_wp2_with fail
          refine HY.out.mono ?_
          rintro e w6 ⟨⟨e, rfl, hs⟩, hb6⟩
          have hb6a := (hb6.alloc hb6.size (.cells #[.int .i64 Vl.zero.kind, .int .i64 Vl.zero.num, .string Vl.zero.txt] 24))
          have hb6c := HB5.out.trans (hb6a.mono HB5.out.size)
          have HB6D := Lib.hid (HB5D.out.trans (hb6a.mono HB5D.out.size))
          have hbf := HBC.out.trans (hb6c.mono HBC.out.size)
          have HIS := Lib.hid (is_any ads e 110 _ (HE0.out.below hbf (Nat.le_refl _)) (seenAs_of HE0.out hs) 110)
          clear hs hb6 hb6a hb6c hbf x0 x1 x2 x3 x4 x5 HY HB5 HB5D HZ
          unfold Vl.val
          go_wp2_with fail
          refine HIS.out.mono ?_
          rintro e w7 ⟨rfl, hb7⟩
          have HB7D := Lib.hid (HB6D.out.trans (hb7.mono HB6D.out.size))
          clear hb7 HIS HB6D
          go_wp2_with fail
          go_roundw
          case measure => simp [intOf]; omega
          case rel => (repeat apply Exists.intro); exact ⟨⟨k + 1, by omega, by go_num, HB7D.out⟩, rfl⟩
        · obtain rfl : k = 8 := by omega
          have hP := cpars_any HEC.out hbrc Co.txTl Co.fitTl
          have hX := ceval_any (c := 4) HEC.out HV.out Co.txTl Co.fitTl
          unfold EvalC at hX
          rw [Co.evTl a b n p] at hX
          have HP := Lib.hid hP
          have HY0 := Lib.hid hX
          have HBR := Lib.hid hbrc
          clear hbr hbrc hP hX HX HBD hk hlt
          go_wp2_with fail
          refine HP.out.mono ?_
          rintro e w5 ⟨⟨y, rfl, hat⟩, hb5⟩
          have hb5a : Below wr.heap.size wr (w5.alloc (.cells #[.int .i64 y.op, .int .i64 y.kind, .int .i64 y.num, .string y.txt, .string y.name, .slice y.A y.n y.c] 39)) := hb5.alloc hb5.size _
          have hb5c := HBR.out.trans (hb5a.mono HBR.out.size)
          have HY := Lib.hid (HY0.out _ _ y hb5c (hat.alloc _))
          have HZ := Lib.hid (Ex.lit w5 y)
          obtain ⟨⟨x0, x1, x2, x3, x4, x5⟩, _⟩ := HZ.out.six_of
          have hlx : w5.heap.size < (w5.alloc (.cells #[.int .i64 y.op, .int .i64 y.kind, .int .i64 y.num, .string y.txt, .string y.name, .slice y.A y.n y.c] 39)).heap.size := HZ.out.lt
          have HB5 := Lib.hid hb5c
          clear hat hb5 hb5a hb5c HY0 HP HBR
          unfold Ex.val at *
          go_wp2_with fail
          refine HY.out.mono ?_
          rintro e w6 ⟨⟨e, rfl, hs⟩, hb6⟩
          obtain rfl := seen_nil hs
          have hb6a := (hb6.alloc hb6.size (.cells #[.int .i64 3, .int .i64 0, .string (Co.cut (a ++ b))] 24))
          have hb6c := HB5.out.trans (hb6a.mono HB5.out.size)
          have HBF := Lib.hid (HBC.out.trans (hb6c.mono HBC.out.size))
          obtain ⟨ha, hb⟩ := HAB.out
          have hsum : IntKind.i64.wrap ((a.size : Int) + (b.size : Int)) = (a.size : Int) + (b.size : Int) := by rw [IntKind.wrap_i64]; omega
          have HCUT : Hid ((a ++ b).extract 0 (min ((a ++ b).size : Int) 60).toNat = Co.cut (a ++ b)) := by
            show _ = (a ++ b).extract 0 (min (a ++ b).size 60)
            rw [show (min ((a ++ b).size : Int) 60).toNat = min (a ++ b).size 60 from by omega]
          clear hs hb6 hb6a hb6c x0 x1 x2 x3 x4 x5 HY HB5 HZ
          unfold Vl.val
          go_upto_region 26 with (fail)
          have HCW := Lib.hid (cell_of_row _ w6.heap.size 0 _ _ (0, 0) (heap_alloc_new w6 (.cells #[.int .i64 3, .int .i64 0, .string (Co.cut (a ++ b))] 24)))
          have y0 : (w6.alloc (.cells #[.int .i64 3, .int .i64 0, .string (Co.cut (a ++ b))] 24)).cell? ⟨w6.heap.size, 0, none⟩ = some (.int .i64 3) := HCW.out
          have HCX := Lib.hid (cell_of_row _ w6.heap.size 2 _ _ (0, 0) (heap_alloc_new w6 (.cells #[.int .i64 3, .int .i64 0, .string (Co.cut (a ++ b))] 24)))
          have y2 : (w6.alloc (.cells #[.int .i64 3, .int .i64 0, .string (Co.cut (a ++ b))] 24)).cell? ⟨w6.heap.size, 2, none⟩ = some (.string (Co.cut (a ++ b))) := HCX.out
          clear HCW HCX hsum ha hb HV HEC HE0 HAB HBC
          generalize w6.alloc _ = wz at *
          generalize w6.heap.size = z at *
          generalize a ++ b = ab at *
          generalize Co.cut ab = cab at *
          clear hlx haI hbI hl3
          by_cases h60 : (ab.size : Int) ≤ 60
          · go_quiet (fail)
            go_wp2
            go_ret
            exact ⟨by rw [HCUT.out]; simp, below_drewN HBF.out _⟩
          · have hJ : (60 : Int) ≤ (ab.size : Int) := by omega
            go_quiet (fail)
            go_wp2
            go_ret
            exact ⟨by rw [HCUT.out]; simp, below_drewN HBF.out _⟩
end Go.Proofs.YtpjdbccndlbbhaaGreatDoor
