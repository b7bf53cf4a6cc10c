/- Walks of the document's Has, within; its Outs, Ins. -/
import Derived.Test.YtddedbpbenkdoaaGreatDoorYProcessOne11
import Derived.Test.YtddedbpbenkdoaaGreatDoorYProcessOne2
import Derived.Test.YtddedbpbenkdoaaGreatDoorYProcessOne10
import Derived.Test.YtddedbpbenkdoaaGreatDoorYProcessOne4
namespace Go.Proofs.YtddedbpbenkdoaaGreatDoor
open Go.RowKit

namespace Pr
theorem refwithin_any (x lo hi : Int) (w : World) :
    Calls Tryz.prog 25 #[.int .i64 x, .int .i64 lo, .int .i64 hi] w fun e w' => e = .returned (.bool (within x lo hi)) ∧ w = w' := by
  unfold within
  go_enter Tryz.func25, Tryz.ntmps25
  by_cases h1 : lo ≤ x
  · have h1' : x ≥ lo := h1
    go_wp2
    go_ret
    exact ⟨by simp [h1], rfl⟩
  · have h1' : ¬ x ≥ lo := h1
    go_wp2
    go_ret
    exact ⟨by simp; omega, rfl⟩
set_option maxHeartbeats 800000 in
theorem refhas_any (A : Option Addr) (n c : Nat) (l : List Int) (B : Nat) (x : Int) (w : World) (hr : KRow iκ w B A n l) (hn : n ≤ 100000) :
    Calls Tryz.prog 49 #[.slice A n c, .int .i64 x] w fun e w' => e = .returned (.bool (l.any fun y => y == x)) ∧ w = w' := by
  have hl := hr.len (by decide)
  have HR := Lib.hid hr
  clear hr
  go_enter Tryz.func49, Tryz.ntmps49
  go_wp2_with fail
  go_loopw [5] (fun i wr => ∃ j : Nat, j ≤ n ∧ i = .int .i64 j ∧ (∀ t, t < j → l[t]! ≠ x) ∧ w = wr) (fun i _ => n - (intOf i).toNat)
  case atStart => exact ⟨0, Nat.zero_le _, rfl, fun t h => absurd h (Nat.not_lt_zero t), rfl⟩
  case round =>
    obtain ⟨j, hj, rfl, hall, rfl⟩ := hrel
    have hj0 : (0 : Int) ≤ (j : Int) := by omega
    by_cases hlt : j < n
    · obtain ⟨b, off, rfl, _, _⟩ := HR.out.2 (by omega)
      have c1 := iκ_cells HR.out hlt
      have hI : (j : Int) < (n : Int) := by omega
      by_cases hx : l[j]! = x
      · have hB : (l[j]! == x) = true := beq_iff_eq.2 hx
        have hany : (l.any fun y => y == x) = true := by
          rw [List.any_eq_true]
          exact ⟨l[j]!, by rw [getElem!_pos l j (by omega)]; exact List.getElem_mem _, hB⟩
        have HA := Lib.hid hany
        rw [hx] at c1
        clear hany hall hx hB
        go_wp2
        go_ret
        exact ⟨by rw [HA.out]; rfl, rfl⟩
      · have hB : (l[j]! == x) = false := by rw [beq_eq_false_iff_ne]; exact hx
        have HALL := Lib.hid hall
        have HX := Lib.hid hx
        obtain ⟨y, hy⟩ : ∃ y, l[j]! = y := ⟨_, rfl⟩
        rw [hy] at hB c1
        clear hall hx hy
        go_wp2_with fail
        go_roundw
        case measure => simp [intOf]; omega
        case rel =>
          refine ⟨j + 1, by omega, by go_num, fun t ht => ?_, by first | trivial | rfl⟩
          by_cases e : t = j
          · subst e; exact HX.out
          · exact HALL.out t (by omega)
    · obtain rfl : j = n := by omega
      have hI : ¬ (j : Int) < (j : Int) := by omega
      have hany : (l.any fun y => y == x) = false := by
        rw [List.any_eq_false]
        intro y hy
        obtain ⟨t, ht, rfl⟩ := List.getElem_of_mem hy
        have := hall t (by omega)
        rw [getElem!_pos l t ht] at this
        simpa using this
      have HA := Lib.hid hany
      clear hany hall
      go_wp2
      go_ret
      exact ⟨by rw [HA.out]; rfl, rfl⟩
set_option maxHeartbeats 1600000 in
set_option maxRecDepth 10000 in
theorem refouts_any (A : Option Addr) (n c : Nat) (F : Option Addr) (m d : Nat) (p : P) (i : Int) (w : World) (hN : KRow Nd.κ w w.heap.size A n p.nodes) (hF : KRow Fl.κ w w.heap.size F m p.flows) (hm : m ≤ 100000) :
    Calls Tryz.prog 48 #[.agg #[.string p.name, .slice A n c, .slice F m d], .int .i64 i] w fun e w' =>
      (∃ (X : Option Addr) (k cc : Nat), e = .returned (.slice X k cc) ∧ OwnK iκ w' w.heap.size 3 X k cc ((outsB p i).map Int.ofNat)) ∧ Below w.heap.size w w' := by
  obtain rfl : p.n = n := hN.len (by decide)
  obtain rfl : p.m = m := hF.len (by decide)
  have HF := Lib.hid hF
  have HB := Lib.hid ((Below.refl w.heap.size w).alloc (Nat.le_refl _) (.cells #[.string p.name, .slice A p.n c, .slice F p.m d] 30))
  have hcel := Cel.lit w #[.string p.name, .slice A p.n c, .slice F p.m d] 30
  obtain ⟨i0, hi0, hz0, hz1, hz2⟩ := info_parts info_int
  clear hN hF
  go_enter Tryz.func48, Tryz.ntmps48
  go_wp2_with fail
  generalize w.alloc _ = wb at *
  have HC := Lib.hid hcel
  clear hcel
  go_loopw [5, 6] (fun s k wr => ∃ (j : Nat) (X : Option Addr) (kk cc : Nat), j ≤ p.m ∧ k = .int .i64 j ∧ s = .slice X kk cc ∧ kk ≤ j ∧ OwnK iκ wr wb.heap.size 3 X kk cc (((List.range j).filter fun j => decide (0 ≤ i) && (decide (i < p.n) && ((p.flows[j]!).frm == i))).map Int.ofNat) ∧ Below wb.heap.size wb wr) (fun _ k _ => p.m - (intOf k).toNat)
  case atStart => exact ⟨0, none, 0, 0, Nat.zero_le _, rfl, rfl, Nat.le_refl _, ⟨by decide, World.ownsRow_nil _ _ _ _⟩, Below.refl _ _⟩
  case round =>
    obtain ⟨j, X, kk, cc, hj, rfl, rfl, hkk, ho, hbr⟩ := hrel
    obtain ⟨⟨z0, z1, z2⟩, _⟩ := tri_facts (HC.out.below hbr (Nat.le_refl _))
    have hj0 : (0 : Int) ≤ (j : Int) := by omega
    have hbw := HB.out.trans (hbr.mono HB.out.size)
    have hwsz : w.heap.size ≤ wb.heap.size := HB.out.size
    have HO := Lib.hid ho
    have HBR := Lib.hid hbr
    have HBW := Lib.hid hbw
    clear ho hbr hbw
    by_cases hi : 0 ≤ i ∧ i < p.n
    · obtain ⟨hi1, hi2⟩ := hi
      have hi1' : i ≥ 0 := hi1
      by_cases hlt : j < p.m
      · have hI : (j : Int) < (p.m : Int) := by omega
        obtain ⟨b, off, rfl, _, _⟩ := HF.out.2 (by omega)
        have c1 := ((KRow.of (κ := Fl.κ) (HF.out.below HBW.out (Nat.le_refl _)) (by decide) hlt) 0 _ rfl)
        rw [show off + j * Fl.κ.k + 0 = off + j * 3 from rfl] at c1
        by_cases hx : (p.flows[j]!).frm = i
        · have hfl : (List.range (j + 1)).filter (fun j => decide (0 ≤ i) && (decide (i < p.n) && ((p.flows[j]!).frm == i))) = (List.range j).filter (fun j => decide (0 ≤ i) && (decide (i < p.n) && ((p.flows[j]!).frm == i))) ++ [j] := by
            rw [List.range_succ, List.filter_append, List.filter_cons, if_pos (by rw [decide_eq_true hi1, decide_eq_true hi2, hx]; simp)]
            rfl
          have HFL := Lib.hid hfl
          rw [hx] at c1
          have hba : Below wr.heap.size wr (wr.alloc (.cells #[.int .i64 j] 3)) := (Below.refl _ _).alloc (Nat.le_refl _) _
          have HOa := Lib.hid (HO.out.below hba (Nat.le_refl _))
          have HBa := Lib.hid (HBR.out.trans (hba.mono HBR.out.size))
          have HR : Hid (KRow iκ (wr.alloc (.cells #[.int .i64 j] 3)) (wr.heap.size + 1) (some ⟨wr.heap.size, 0, none⟩) 1 [(j : Int)]) := Lib.hid (KRow.lit (κ := iκ) wr 3 [(j : Int)] #[.int .i64 j] rfl)
          have hbase : wb.heap.size ≤ (wr.alloc (.cells #[.int .i64 j] 3)).heap.size := HBa.out.size
          clear hfl hx hba
          go_wp2_with (at_builtin; refine append_k (κ := iκ) rfl (.tmp 33) (.tmp 35) 22 3 i0 _ 8 Tryz.underlying22 hi0 hz0 hz1 hz2 rfl rfl _ wb.heap.size _ X kk cc _ ⟨wr.heap.size, 0, none⟩ (j : Int) rfl HOa.out rfl HR.out (by omega) (by decide) hbase ?_; intro X' cc' w' ho' hg')
          have hbf := HBa.out.trans (hg'.below HOa.out.2 hbase)
          go_wp2_with fail
          go_roundw
          case measure => simp [intOf]; omega
          case rel => exact ⟨j + 1, X', kk + 1, cc', by omega, by go_num, rfl, by omega, by rw [HFL.out, List.map_append]; exact ho', hbf⟩
        · have hxB : ((p.flows[j]!).frm == i) = false := by rw [beq_eq_false_iff_ne]; exact hx
          have hfl : (List.range (j + 1)).filter (fun j => decide (0 ≤ i) && (decide (i < p.n) && ((p.flows[j]!).frm == i))) = (List.range j).filter (fun j => decide (0 ≤ i) && (decide (i < p.n) && ((p.flows[j]!).frm == i))) := by
            rw [List.range_succ, List.filter_append, List.filter_cons, if_neg (by rw [hxB]; simp)]
            simp
          have HFL := Lib.hid hfl
          obtain ⟨y, hy⟩ : ∃ y, (p.flows[j]!).frm = y := ⟨_, rfl⟩
          rw [hy] at hxB c1
          clear hfl hx hy
          go_wp2_with fail
          go_roundw
          case measure => simp [intOf]; omega
          case rel => exact ⟨j + 1, X, kk, cc, by omega, by go_num, rfl, by omega, by rw [HFL.out]; exact HO.out, HBR.out⟩
      · obtain rfl : j = p.m := by omega
        have hI : ¬ ((p.m : Nat) : Int) < (p.m : Int) := by omega
        go_wp2
        go_ret
        exact ⟨⟨X, kk, cc, rfl, HO.out.lower hwsz⟩, HBW.out⟩
    · have hnil : ∀ k, (List.range k).filter (fun j => decide (0 ≤ i) && (decide (i < p.n) && ((p.flows[j]!).frm == i))) = [] := by
        intro k
        rw [List.filter_eq_nil_iff]
        intro t _ hh
        simp only [Bool.and_eq_true, decide_eq_true_eq] at hh
        exact hi ⟨hh.1, hh.2.1⟩
      have hres : outsB p i = [] := hnil p.m
      rw [hnil j] at HO
      have HO2 : Hid (OwnK iκ wr wb.heap.size 3 X kk cc ((outsB p i).map Int.ofNat)) := Lib.hid (by rw [hres]; exact HO.out)
      clear hnil hres
      by_cases hlt : j < p.m
      · have hI : (j : Int) < (p.m : Int) := by omega
        by_cases hi1 : 0 ≤ i
        · have hi1' : i ≥ 0 := hi1
          have hi2 : ¬ i < (p.n : Int) := fun e => hi ⟨hi1, e⟩
          clear hi
          go_wp2
          go_ret
          exact ⟨⟨X, kk, cc, rfl, HO2.out.lower hwsz⟩, HBW.out⟩
        · have hi1' : ¬ i ≥ 0 := hi1
          have hi2 : i < (p.n : Int) := by omega
          clear hi
          go_wp2
          go_ret
          exact ⟨⟨X, kk, cc, rfl, HO2.out.lower hwsz⟩, HBW.out⟩
      · have hI : ¬ (j : Int) < (p.m : Int) := by omega
        clear hi
        go_wp2
        go_ret
        exact ⟨⟨X, kk, cc, rfl, HO2.out.lower hwsz⟩, HBW.out⟩
set_option maxHeartbeats 1600000 in
set_option maxRecDepth 10000 in
theorem refins_any (A : Option Addr) (n c : Nat) (F : Option Addr) (m d : Nat) (p : P) (i : Int) (w : World) (hN : KRow Nd.κ w w.heap.size A n p.nodes) (hF : KRow Fl.κ w w.heap.size F m p.flows) (hm : m ≤ 100000) :
    Calls Tryz.prog 63 #[.agg #[.string p.name, .slice A n c, .slice F m d], .int .i64 i] w fun e w' =>
      (∃ (X : Option Addr) (k cc : Nat), e = .returned (.slice X k cc) ∧ OwnK iκ w' w.heap.size 3 X k cc ((insB p i).map Int.ofNat)) ∧ Below w.heap.size w w' := by
  obtain rfl : p.n = n := hN.len (by decide)
  obtain rfl : p.m = m := hF.len (by decide)
  have HF := Lib.hid hF
  have HB := Lib.hid ((Below.refl w.heap.size w).alloc (Nat.le_refl _) (.cells #[.string p.name, .slice A p.n c, .slice F p.m d] 30))
  have hcel := Cel.lit w #[.string p.name, .slice A p.n c, .slice F p.m d] 30
  obtain ⟨i0, hi0, hz0, hz1, hz2⟩ := info_parts info_int
  clear hN hF
  go_enter Tryz.func63, Tryz.ntmps63
  go_wp2_with fail
  generalize w.alloc _ = wb at *
  have HC := Lib.hid hcel
  clear hcel
  go_loopw [5, 6] (fun s k wr => ∃ (j : Nat) (X : Option Addr) (kk cc : Nat), j ≤ p.m ∧ k = .int .i64 j ∧ s = .slice X kk cc ∧ kk ≤ j ∧ OwnK iκ wr wb.heap.size 3 X kk cc (((List.range j).filter fun j => decide (0 ≤ i) && (decide (i < p.n) && ((p.flows[j]!).til == i))).map Int.ofNat) ∧ Below wb.heap.size wb wr) (fun _ k _ => p.m - (intOf k).toNat)
  case atStart => exact ⟨0, none, 0, 0, Nat.zero_le _, rfl, rfl, Nat.le_refl _, ⟨by decide, World.ownsRow_nil _ _ _ _⟩, Below.refl _ _⟩
  case round =>
    obtain ⟨j, X, kk, cc, hj, rfl, rfl, hkk, ho, hbr⟩ := hrel
    obtain ⟨⟨z0, z1, z2⟩, _⟩ := tri_facts (HC.out.below hbr (Nat.le_refl _))
    have hj0 : (0 : Int) ≤ (j : Int) := by omega
    have hbw := HB.out.trans (hbr.mono HB.out.size)
    have hwsz : w.heap.size ≤ wb.heap.size := HB.out.size
    have HO := Lib.hid ho
    have HBR := Lib.hid hbr
    have HBW := Lib.hid hbw
    clear ho hbr hbw
    by_cases hi : 0 ≤ i ∧ i < p.n
    · obtain ⟨hi1, hi2⟩ := hi
      have hi1' : i ≥ 0 := hi1
      by_cases hlt : j < p.m
      · have hI : (j : Int) < (p.m : Int) := by omega
        obtain ⟨b, off, rfl, _, _⟩ := HF.out.2 (by omega)
        have c1 := ((KRow.of (κ := Fl.κ) (HF.out.below HBW.out (Nat.le_refl _)) (by decide) hlt) 1 _ rfl)
        rw [show off + j * Fl.κ.k + 1 = off + j * 3 + 1 from rfl] at c1
        by_cases hx : (p.flows[j]!).til = i
        · have hfl : (List.range (j + 1)).filter (fun j => decide (0 ≤ i) && (decide (i < p.n) && ((p.flows[j]!).til == i))) = (List.range j).filter (fun j => decide (0 ≤ i) && (decide (i < p.n) && ((p.flows[j]!).til == i))) ++ [j] := by
            rw [List.range_succ, List.filter_append, List.filter_cons, if_pos (by rw [decide_eq_true hi1, decide_eq_true hi2, hx]; simp)]
            rfl
          have HFL := Lib.hid hfl
          rw [hx] at c1
          have hba : Below wr.heap.size wr (wr.alloc (.cells #[.int .i64 j] 3)) := (Below.refl _ _).alloc (Nat.le_refl _) _
          have HOa := Lib.hid (HO.out.below hba (Nat.le_refl _))
          have HBa := Lib.hid (HBR.out.trans (hba.mono HBR.out.size))
          have HR : Hid (KRow iκ (wr.alloc (.cells #[.int .i64 j] 3)) (wr.heap.size + 1) (some ⟨wr.heap.size, 0, none⟩) 1 [(j : Int)]) := Lib.hid (KRow.lit (κ := iκ) wr 3 [(j : Int)] #[.int .i64 j] rfl)
          have hbase : wb.heap.size ≤ (wr.alloc (.cells #[.int .i64 j] 3)).heap.size := HBa.out.size
          clear hfl hx hba
          go_wp2_with (at_builtin; refine append_k (κ := iκ) rfl (.tmp 33) (.tmp 35) 22 3 i0 _ 8 Tryz.underlying22 hi0 hz0 hz1 hz2 rfl rfl _ wb.heap.size _ X kk cc _ ⟨wr.heap.size, 0, none⟩ (j : Int) rfl HOa.out rfl HR.out (by omega) (by decide) hbase ?_; intro X' cc' w' ho' hg')
          have hbf := HBa.out.trans (hg'.below HOa.out.2 hbase)
          go_wp2_with fail
          go_roundw
          case measure => simp [intOf]; omega
          case rel => exact ⟨j + 1, X', kk + 1, cc', by omega, by go_num, rfl, by omega, by rw [HFL.out, List.map_append]; exact ho', hbf⟩
        · have hxB : ((p.flows[j]!).til == i) = false := by rw [beq_eq_false_iff_ne]; exact hx
          have hfl : (List.range (j + 1)).filter (fun j => decide (0 ≤ i) && (decide (i < p.n) && ((p.flows[j]!).til == i))) = (List.range j).filter (fun j => decide (0 ≤ i) && (decide (i < p.n) && ((p.flows[j]!).til == i))) := by
            rw [List.range_succ, List.filter_append, List.filter_cons, if_neg (by rw [hxB]; simp)]
            simp
          have HFL := Lib.hid hfl
          obtain ⟨y, hy⟩ : ∃ y, (p.flows[j]!).til = y := ⟨_, rfl⟩
          rw [hy] at hxB c1
          clear hfl hx hy
          go_wp2_with fail
          go_roundw
          case measure => simp [intOf]; omega
          case rel => exact ⟨j + 1, X, kk, cc, by omega, by go_num, rfl, by omega, by rw [HFL.out]; exact HO.out, HBR.out⟩
      · obtain rfl : j = p.m := by omega
        have hI : ¬ ((p.m : Nat) : Int) < (p.m : Int) := by omega
        go_wp2
        go_ret
        exact ⟨⟨X, kk, cc, rfl, HO.out.lower hwsz⟩, HBW.out⟩
    · have hnil : ∀ k, (List.range k).filter (fun j => decide (0 ≤ i) && (decide (i < p.n) && ((p.flows[j]!).til == i))) = [] := by
        intro k
        rw [List.filter_eq_nil_iff]
        intro t _ hh
        simp only [Bool.and_eq_true, decide_eq_true_eq] at hh
        exact hi ⟨hh.1, hh.2.1⟩
      have hres : insB p i = [] := hnil p.m
      rw [hnil j] at HO
      have HO2 : Hid (OwnK iκ wr wb.heap.size 3 X kk cc ((insB p i).map Int.ofNat)) := Lib.hid (by rw [hres]; exact HO.out)
      clear hnil hres
      by_cases hlt : j < p.m
      · have hI : (j : Int) < (p.m : Int) := by omega
        by_cases hi1 : 0 ≤ i
        · have hi1' : i ≥ 0 := hi1
          have hi2 : ¬ i < (p.n : Int) := fun e => hi ⟨hi1, e⟩
          clear hi
          go_wp2
          go_ret
          exact ⟨⟨X, kk, cc, rfl, HO2.out.lower hwsz⟩, HBW.out⟩
        · have hi1' : ¬ i ≥ 0 := hi1
          have hi2 : i < (p.n : Int) := by omega
          clear hi
          go_wp2
          go_ret
          exact ⟨⟨X, kk, cc, rfl, HO2.out.lower hwsz⟩, HBW.out⟩
      · have hI : ¬ (j : Int) < (p.m : Int) := by omega
        clear hi
        go_wp2
        go_ret
        exact ⟨⟨X, kk, cc, rfl, HO2.out.lower hwsz⟩, HBW.out⟩
end Pr
end Go.Proofs.YtddedbpbenkdoaaGreatDoor
