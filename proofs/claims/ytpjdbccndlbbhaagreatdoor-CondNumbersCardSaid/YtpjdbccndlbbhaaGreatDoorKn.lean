/- Walk of the statement CondNumbers: numbers are reckoned with as they are; a division by nothing is told. -/
import Derived.Test.YtpjdbccndlbbhaaGreatDoorKa
namespace Go.Proofs.YtpjdbccndlbbhaaGreatDoor
open Go.RowKit

namespace Co
/-- The texts as they stand. -/
def sN : List (List UInt8) := [[97, 32, 43, 32, 98, 32, 42, 32, 99], [97, 32, 45, 32, 98, 32, 45, 32, 99], [40, 97, 32, 43, 32, 98, 41, 32, 42, 32, 99], [45, 97], [97, 32, 42, 32, 45, 98]]
theorem sN_of (i : Nat) (hi : i < 5) : sN[i]! = (tN[i]!).s := by
  have e : i = 0 ∨ i = 1 ∨ i = 2 ∨ i = 3 ∨ i = 4 := by omega
  rcases e with rfl | rfl | rfl | rfl | rfl <;> rfl
theorem fitN (i : Nat) (hi : i < 5) : (tN[i]!).Fit := by
  obtain ⟨h1, h2, h3⟩ := okN i hi
  refine ⟨h1, h2, ?_, h3⟩
  have e : i = 0 ∨ i = 1 ∨ i = 2 ∨ i = 3 ∨ i = 4 := by omega
  rcases e with rfl | rfl | rfl | rfl | rfl <;> rfl
theorem fitNl : txNl.Fit := ⟨txNl_ok, rfl, rfl, by decide⟩
theorem lN_lite (a b c : Int) : ∀ v ∈ lN a b c, v.text.size ≤ 80 := by
  intro v hv
  simp only [lN, List.mem_cons, List.not_mem_nil, or_false] at hv
  rcases hv with rfl | rfl | rfl <;> (show (⟨#[]⟩ : ByteArray).size ≤ 80; decide)
end Co
set_option maxHeartbeats 3200000 in
set_option maxRecDepth 20000 in
theorem condNumbers_walk (a b c : Int) (ads : List Addr) (w : World) (ha0 : -9223372036854775808 ≤ a) (ha1 : a ≤ 9223372036854775807) (_ : -9223372036854775808 ≤ b) (_ : b ≤ 9223372036854775807) (_ : -9223372036854775808 ≤ c) (_ : c ≤ 9223372036854775807)
    (hE0 : Errs w 136 sents ads) (hW : CoWords w) :
    Calls Tryz.prog 4 #[.int .i64 a, .int .i64 b, .int .i64 c] w fun e w' => e = .returned (.bool true) ∧ Below w.heap.size w w' := by
  have hE := coErrs16 hE0 hW
  have HE := Lib.hid hE
  have HE0 := Lib.hid hE0
  have HF := Lib.hid (cfirst_any hE (Below.refl w.heap.size w))
  have HA := Lib.hid (And.intro ha0 ha1)
  clear hE hE0 hW ha0 ha1
  go_enter Tryz.func4, Tryz.ntmps4
  go_wp2_with fail
  refine HF.out.mono ?_
  rintro e w1 ⟨rfl, hb1⟩
  have HB1 := Lib.hid hb1
  clear hb1 HF
  go_wp2_with fail
  generalize hwc : ((w1.alloc _).alloc _).alloc _ = wc at *
  have hbx : Below w1.heap.size w1 wc := by rw [← hwc]; exact below3 _ _ _ _
  have hx1 : wc.heap[w1.heap.size]? = some (.cells ((Co.lN a b c).flatMap Vr.V.cells).toArray 26 (0, 0)) := by rw [← hwc]; exact (three_new _ _ _ _).1
  have hx2 : wc.heap[w1.heap.size + 1]? = some (.cells (Co.sN.map fun s => Value.string ⟨s.toArray⟩).toArray 9 (0, 0)) := by rw [← hwc]; exact (three_new _ _ _ _).2.1
  have hx3 : wc.heap[w1.heap.size + 1 + 1]? = some (.cells ((Co.wN a b c).map (Value.int .i64)).toArray 2 (0, 0)) := by rw [← hwc]; exact (three_new _ _ _ _).2.2
  have HV := Lib.hid (varsC_lit 3 hx1 rfl (by decide) (Co.lN_lite a b c))
  have HT : Hid (∀ i, i < 5 → wc.cell? ⟨w1.heap.size + 1, i, none⟩ = some (.string ⟨(Co.sN[i]!).toArray⟩)) := Lib.hid fun i hi => lit_texts hx2 hi
  have HQ : Hid (∀ i, i < 5 → wc.cell? ⟨w1.heap.size + 1 + 1, i, none⟩ = some (.int .i64 (Co.wN a b c)[i]!)) := Lib.hid fun i hi => lit_ints hx3 hi
  have HBC := Lib.hid (HB1.out.trans (hbx.mono HB1.out.size))
  have HEC := Lib.hid (HE.out.below HBC.out)
  have hl3 := blk_lt hx3
  clear hwc hbx hx1 hx2 hx3 HB1 HE
  go_loopw [11] (fun i wr => ∃ k : Nat, k ≤ 5 ∧ i = .int .i64 k ∧ Below wc.heap.size wc wr) (fun i _ => 5 - (intOf i).toNat)
  case atStart => exact ⟨0, Nat.zero_le _, rfl, Below.refl _ _⟩
  case round =>
    obtain ⟨k, hk, rfl, hbr⟩ := hrel
    by_cases hlt : k < 5
    · have hkI : (k : Int) < 5 := by omega
      have hk0 : (0 : Int) ≤ (k : Int) := by omega
      have c1 := cell_below hbr (HT.out k hlt)
      rw [Co.sN_of k hlt] at c1
      have hP := cpars_any HEC.out hbr (Co.tN[k]!) (Co.fitN k hlt)
      have hX := ceval_any (c := 3) HEC.out HV.out (Co.tN[k]!) (Co.fitN k hlt)
      unfold EvalC at hX
      rw [Co.evN a b c k hlt] at hX
      have HC2 := Lib.hid (fun w' h => cell_below (w := wc) (w' := w') h (HQ.out k hlt))
      have HP := Lib.hid hP
      have HX := Lib.hid hX
      generalize (Co.wN a b c)[k]! = nk at *
      generalize Co.tN[k]! = tk at *
      have HBR := Lib.hid hbr
      clear hbr hP hX
      go_wp2_with fail
      refine HP.out.mono ?_
      rintro e w5 ⟨⟨y, rfl, hat⟩, hb5⟩
      have hb5a : Below wr.heap.size wr (w5.alloc (.cells #[.int .i64 y.op, .int .i64 y.kind, .int .i64 y.num, .string y.txt, .string y.name, .slice y.A y.n y.c] 39)) := hb5.alloc hb5.size _
      have hb5c := HBR.out.trans (hb5a.mono HBR.out.size)
      have HY := Lib.hid (HX.out _ _ y hb5c (hat.alloc _))
      have HZ := Lib.hid (Ex.lit w5 y)
      obtain ⟨⟨x0, x1, x2, x3, x4, x5⟩, _⟩ := HZ.out.six_of
      have hlx : w5.heap.size < (w5.alloc (.cells #[.int .i64 y.op, .int .i64 y.kind, .int .i64 y.num, .string y.txt, .string y.name, .slice y.A y.n y.c] 39)).heap.size := HZ.out.lt
      have HB5 := Lib.hid hb5c
      clear hat hb5 hb5a hb5c c1 HX HP
      unfold Ex.val at *
      go_wp2_with fail
      refine HY.out.mono ?_
      rintro e w6 ⟨⟨e, rfl, hs⟩, hb6⟩
      obtain rfl := seen_nil hs
      have hb6c := HB5.out.trans (hb6.mono HB5.out.size)
      have c2 := HC2.out _ hb6c
      have hl6 : w1.heap.size + 1 + 1 < w6.heap.size := Nat.lt_of_lt_of_le hl3 hb6c.size
      have HB6 := Lib.hid (hb6c.alloc hb6c.size (.cells #[.int .i64 1, .int .i64 nk, .string ⟨#[]⟩] 24))
      clear hs hb6 hb6c x0 x1 x2 x3 x4 x5 HY
      unfold Vl.val
      go_wp2_with fail
      go_quiet (fail)
      go_wp2_with fail
      go_roundw
      case measure => simp [intOf]; omega
      case rel => exact ⟨k + 1, by omega, by go_num, below_drewN HB6.out _⟩
    · obtain rfl : k = 5 := by omega
      by_cases hb : b = 0
      · subst hb
        have hh := cholds_any (c := 3) HEC.out HV.out Co.txNl Co.fitNl hbr
        rw [Co.evNz a c] at hh
        have HH := Lib.hid hh
        have HBR := Lib.hid hbr
        clear hbr hh
        go_wp2_with fail
        refine HH.out.mono ?_
        rintro e w5 ⟨⟨e, rfl, hs⟩, hb5⟩
        have hb5c := HBC.out.trans ((HBR.out.trans (hb5.mono HBR.out.size)).mono HBC.out.size)
        have HIS := Lib.hid (is_any ads e 113 w5 (HE0.out.below hb5c (Nat.le_refl _)) (seenAs_of HE0.out hs) 113)
        have HB5 := Lib.hid hb5c
        clear hs hb5 hb5c
        go_wp2_with fail
        refine HIS.out.mono ?_
        rintro e w6 ⟨rfl, hb6⟩
        have HB6 := Lib.hid (HB5.out.trans (hb6.mono HB5.out.size))
        clear hb6
        go_wp2
        go_ret
        exact ⟨rfl, HB6.out⟩
      · have hbI : (b == 0) = false := by rw [beq_eq_false_iff_ne]; exact hb
        have hh := cholds_any (c := 3) HEC.out HV.out Co.txNl Co.fitNl hbr
        rw [Co.evNl a b c HA.out.1 HA.out.2 hb] at hh
        have HH := Lib.hid hh
        have HBR := Lib.hid hbr
        clear hbr hh hb
        go_wp2_with fail
        refine HH.out.mono ?_
        rintro e w5 ⟨⟨e, rfl, hs⟩, hb5⟩
        obtain rfl := seen_nil hs
        have HB5 := Lib.hid (HBC.out.trans ((HBR.out.trans (hb5.mono HBR.out.size)).mono HBC.out.size))
        clear hs hb5
        go_wp2
        go_ret
        exact ⟨rfl, HB5.out⟩
end Go.Proofs.YtpjdbccndlbbhaaGreatDoor
