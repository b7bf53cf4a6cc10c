/- Walks of package vars: Check. -/
import Derived.Test.YthkgjdhbibialaaDoorVc
import Derived.Deep.QuietTactic
import Derived.BigQuiet
namespace Go.Proofs.YthkgjdhbibialaaDoor
open Go.RowKit

theorem below_cells {w w' : World} {b o : Nat} {v : Value} (hb : Below w.heap.size w w') (h : w.cell? ⟨b, o, none⟩ = some v) : w'.cell? ⟨b, o, none⟩ = some v :=
  (hb.cell (p := ⟨b, o, none⟩) (cell_lt h)).trans h
theorem below_drewN {B : Nat} {w w' : World} (hb : Below B w w') (n : Nat) : Below B w (w'.drewN n) := ⟨hb.os, hb.tape, hb.output, hb.size, hb.block⟩
theorem seen_at_new {E : Int → Option Addr} (w : World) (c : Int) (a : Addr) (x : Int) (k : Nat) (hx : x = k) (h : E c = some a) (hc : c ≠ 0) : SeenF E (w.alloc (.cells #[.int .i64 x, .iface 104 (.pointer (some a))] 71)) (atV w.heap.size) c (some k) := by
  subst hx
  refine .at_ _ c a k h hc ?_ ?_
  · exact cell_of_row _ w.heap.size 0 _ _ (0, 0) (heap_alloc_new w _)
  · exact cell_of_row _ w.heap.size 1 _ _ (0, 0) (heap_alloc_new w _)
theorem faultAt_first {l : List Vr.V} {k : Nat} {x : Int} (hx : x ≠ 0) (h : Vr.fault l[k]! = x) : Vr.faultAt l k = x := by
  unfold Vr.faultAt
  rw [h, if_pos hx]
theorem faultAt_zero {l : List Vr.V} (h : Vr.fault l[0]! = 0) : Vr.faultAt l 0 = 0 := by
  unfold Vr.faultAt
  rw [h, if_neg (by simp), if_neg (by simp)]
theorem faultAt_twice {l : List Vr.V} {j : Nat} (h : Vr.fault l[j + 1]! = 0) (h2 : Vr.lss l[j]!.name l[j + 1]!.name = false) : Vr.faultAt l (j + 1) = 109 := by
  unfold Vr.faultAt
  rw [h, if_neg (by simp), if_pos ⟨by omega, by simpa using h2⟩]
theorem faultAt_fine {l : List Vr.V} {j : Nat} (h : Vr.fault l[j + 1]! = 0) (h2 : Vr.lss l[j]!.name l[j + 1]!.name = true) : Vr.faultAt l (j + 1) = 0 := by
  unfold Vr.faultAt
  rw [h, if_neg (by simp), if_neg (fun hh => by rw [show j + 1 - 1 = j from rfl, h2] at hh; cases hh.2)]
theorem all_next {l : List Vr.V} {k : Nat} (h : ∀ j, j < k → Vr.faultAt l j = 0) (hk : Vr.faultAt l k = 0) : ∀ j, j < k + 1 → Vr.faultAt l j = 0 := by
  intro j hj
  by_cases e : j = k
  · subst e; exact hk
  · exact h j (by omega)

set_option maxRecDepth 10000 in
set_option maxHeartbeats 4000000 in
theorem check_any {E : Int → Option Addr} {W w : World} (A : Option Addr) (n c : Nat) (l : List Vr.V) (hE : VaErrs W E) (hb : Below W.heap.size W w) (hr : VRow w w.heap.size A n l) (hn : n ≤ 9223372036854775807) (hv : ∀ v ∈ l, Vr.InV v) :
    Calls Tryd.prog 17 #[.slice A n c] w fun e w' => (∃ ev, e = .returned ev ∧ SeenF E w' ev (Vr.check l).1 (Vr.check l).2) ∧ Below w.heap.size w w' := by
  have hl := hr.len
  by_cases h12 : 12 < n
  · rw [Vr.check_many (by omega)]
    obtain ⟨a4, hk4, hg4⟩ := (hE.below hb).e104
    unfold errV at hg4
    clear hl
    go_enter Tryd.func17, Tryd.ntmps17
    go_wp2
    go_ret
    exact ⟨⟨_, rfl, .bare 104 a4 hk4 (by decide)⟩, Below.refl _ _⟩
  · have HL := Lib.hid hl
    have HV := Lib.hid hv
    clear hl hv
    go_enter Tryd.func17, Tryd.ntmps17
    go_wp2_with fail
    go_loopw [12] (fun i wr => ∃ k : Nat, k ≤ n ∧ i = .int .i64 k ∧ Below w.heap.size w wr ∧ Hid (∀ j, j < k → Vr.faultAt l j = 0)) (fun i _ => n - (intOf i).toNat)
    case atStart => exact ⟨0, Nat.zero_le _, rfl, Below.refl _ _, fun j h => absurd h (Nat.not_lt_zero j)⟩
    case round =>
      obtain ⟨k, hk, rfl, hbw, hall⟩ := hrel
      by_cases hkn : k < n
      · obtain ⟨b, off, rfl, hbb, c0, c1, c2, c3⟩ := (hr.below hbw (Nat.le_refl _)).at_ hkn
        have hF := fun W' hW' => vfault_any (W := W) (w := W') l[k]! hE hW' (HV.out _ (by rw [getElem!_pos l k (by rw [HL.out]; exact hkn)]; exact List.getElem_mem _))
        have HC := Lib.hid (@Vr.check_at l k (by rw [HL.out]; omega) (by rw [HL.out]; exact hkn) hall.out)
        have hb2 : Below w.heap.size w (wr.alloc (.cells #[.string l[k]!.name, .int .i64 l[k]!.kind, .int .i64 l[k]!.num, .string l[k]!.text] 45)) := hbw.alloc hbw.size _
        have hF2 := hF _ (hb.trans (hb2.mono hb.size))
        unfold Vr.V.val at hF2
        clear hF
        by_cases hf0 : Vr.fault l[k]! = 0
        · rw [hf0] at hF2
          cases k with
          | zero =>
            have HF0 := Lib.hid (faultAt_zero hf0)
            clear hf0 HC
            simp only [Nat.zero_mul, Nat.add_zero] at c0 c1 c2 c3
            generalize l[0]! = v at *
            go_wp2_with fail
            refine hF2.mono ?_
            rintro e w2 ⟨⟨ev, rfl, hs⟩, hb3⟩
            have hbw2 : Below w.heap.size w w2 := hb2.trans (hb3.mono hb2.size)
            obtain rfl := seen_nil hs
            clear hs
            go_wp2_with fail
            go_quiet (fail)
            go_wp2
            go_roundw
            case measure => simp [intOf]; omega
            case rel => exact ⟨1, by omega, by go_num, below_drewN hbw2 _, all_next hall.out HF0.out⟩
          | succ j =>
            obtain ⟨p0, p1, p2, p3⟩ := (hr.below hbw (Nat.le_refl _)).of (k := j) (by omega)
            clear p1 p2 p3
            have HT := Lib.hid (@faultAt_twice l j hf0)
            have HN := Lib.hid (@faultAt_fine l j hf0)
            have hlq := Vr.leq_of l[j + 1]!.name l[j]!.name
            clear hf0
            generalize l[j + 1]! = v at *
            generalize l[j]! = u at *
            go_wp2_with fail
            refine hF2.mono ?_
            rintro e w2 ⟨⟨ev, rfl, hs⟩, hb3⟩
            have hbw2 : Below w.heap.size w w2 := hb2.trans (hb3.mono hb2.size)
            obtain rfl := seen_nil hs
            have q0 := below_cells hb3 ((World.cell?_alloc_lt wr _ ⟨b, off + j * 4, none⟩ (Nat.lt_of_lt_of_le hbb hbw.size)).trans p0)
            have q1 := hb3.cell (p := ⟨wr.heap.size, 0, none⟩) (by simp)
            clear hs
            cases hls : Vr.lss u.name v.name with
            | true =>
              rw [hls] at hlq
              have hlq : (Op.bytesLess v.name.toList u.name.toList || v.name.toList == u.name.toList) = false := hlq
              have HLS := Lib.hid hls
              clear hls
              go_wp2_with fail
              go_quiet (fail)
              go_wp2
              go_roundw
              case measure => simp [intOf]; omega
              case rel => exact ⟨j + 2, by omega, by go_num, below_drewN hbw2 _, all_next hall.out (HN.out HLS.out)⟩
            | false =>
              rw [hls] at hlq
              have hlq : (Op.bytesLess v.name.toList u.name.toList || v.name.toList == u.name.toList) = true := hlq
              have HLS := Lib.hid hls
              clear hls
              go_wp2_with fail
              go_quiet (fail)
              obtain ⟨a9, hk9, hg9⟩ := (hE.below (hb.trans ((below_drewN hbw2 nq).mono hb.size))).e109
              unfold errV at hg9
              go_wp2
              go_ret
              have e9 := HT.out HLS.out
              rw [HC.out (by rw [e9]; decide), e9]
              exact ⟨⟨_, rfl, seen_at_new _ 109 a9 _ (j + 1) rfl hk9 (by decide)⟩, (below_drewN hbw2 nq).alloc (below_drewN hbw2 nq).size _⟩
        · have HF0 := Lib.hid (faultAt_first hf0 rfl)
          have HFN := Lib.hid hf0
          clear hf0
          generalize l[k]! = v at *
          go_wp2_with fail
          refine hF2.mono ?_
          rintro e w2 ⟨⟨ev, rfl, hs⟩, hb3⟩
          have hbw2 : Below w.heap.size w w2 := hb2.trans (hb3.mono hb2.size)
          obtain ⟨x, rfl, hx⟩ := seen_err hs HFN.out
          have HX := Lib.hid hx
          clear hs hx
          unfold errV
          go_wp2_with fail
          go_quiet (fail)
          go_wp2
          go_ret
          rw [HC.out (by rw [HF0.out]; exact HFN.out), HF0.out]
          exact ⟨⟨_, rfl, seen_at_new _ _ x _ k rfl HX.out HFN.out⟩, (below_drewN hbw2 nq).alloc (below_drewN hbw2 nq).size _⟩
      · have : k = n := by omega
        subst this
        go_wp2
        go_ret
        rw [Vr.check_fine (by rw [HL.out]; omega) (by rw [HL.out]; exact hall.out)]
        exact ⟨⟨_, rfl, .nil⟩, hbw⟩
end Go.Proofs.YthkgjdhbibialaaDoor
