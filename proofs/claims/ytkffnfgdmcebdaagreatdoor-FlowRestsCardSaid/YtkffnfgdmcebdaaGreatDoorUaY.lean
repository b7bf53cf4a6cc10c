/- The program's isNode, places, Outs, Ins. -/
import Derived.Test.YtkffnfgdmcebdaaGreatDoorYJoint11
namespace Go.Proofs.YtkffnfgdmcebdaaGreatDoor
open Go.RowKit

namespace Pr
section
variable {w : World}
theorem outs_end (f : Fl) : Calls Tryz.prog 106 #[f.val] w fun e w' => e = .returned (.int .i64 f.frm) ∧ Below w.heap.size w w' := by
  have HB := Lib.hid ((Below.refl w.heap.size w).alloc (Nat.le_refl _) (.cells #[.int .i64 f.frm, .int .i64 f.til, .string f.cond] 82))
  unfold Fl.val
  go_enter Tryz.func106, Tryz.ntmps106
  go_wp2
  go_ret
  exact ⟨rfl, HB.out⟩
theorem ins_end (f : Fl) : Calls Tryz.prog 87 #[f.val] w fun e w' => e = .returned (.int .i64 f.til) ∧ Below w.heap.size w w' := by
  have HB := Lib.hid ((Below.refl w.heap.size w).alloc (Nat.le_refl _) (.cells #[.int .i64 f.frm, .int .i64 f.til, .string f.cond] 82))
  unfold Fl.val
  go_enter Tryz.func87, Tryz.ntmps87
  go_wp2
  go_ret
  exact ⟨rfl, HB.out⟩
set_option maxHeartbeats 1600000 in
set_option maxRecDepth 10000 in
theorem places_outs (A : Option Addr) (n c : Nat) (F : Option Addr) (m d : Nat) (p : P) (i : Int) (w : World) (hN : KRow Nd.κ w w.heap.size A n p.nodes) (hF : KRow Fl.κ w w.heap.size F m p.flows) (hn : n ≤ 100000) (hm : m ≤ 100000) :
    Calls Tryz.prog 86 #[.agg #[.string p.name, .slice A n c, .slice F m d], .int .i64 i, .func (.func 106) #[] #[]] w fun e w' =>
      (∃ (X : Option Addr) (k cc : Nat), e = .returned (.slice X k cc) ∧ OwnK iκ w' w.heap.size 3 X k cc ((outsB p i).map Int.ofNat)) ∧ Below w.heap.size w w' := by
  obtain rfl : p.n = n := hN.len (by decide)
  obtain rfl : p.m = m := hF.len (by decide)
  have HF := Lib.hid hF
  have HB := Lib.hid ((Below.refl w.heap.size w).alloc (Nat.le_refl _) (.cells #[.string p.name, .slice A p.n c, .slice F p.m d] 30))
  have hcel := Cel.lit w #[.string p.name, .slice A p.n c, .slice F p.m d] 30
  obtain ⟨i0, hi0, hz0, hz1, hz2⟩ := info_parts info_int
  clear hN hF
  obtain ⟨R, hR⟩ : ∃ R, (outsB p i).map Int.ofNat = R := ⟨_, rfl⟩
  rw [hR]
  have hR := Lib.hid hR
  go_enter Tryz.func86, Tryz.ntmps86
  go_upto_region 1 with (fail)
  generalize w.alloc _ = wb at *
  have HC := Lib.hid hcel
  obtain ⟨⟨z0, z1, z2⟩, _⟩ := tri_facts hcel
  clear hcel
  go_wp2_with fail
  refine (isnode_any (w := wb) p.name A p.n c F p.m d i).mono ?_
  rintro e w2 ⟨rfl, hb2⟩
  have HC2 := Lib.hid (HC.out.below hb2 (Nat.le_refl _))
  have HB2 := Lib.hid (HB.out.trans (hb2.mono HB.out.size))
  have hwsz : w.heap.size ≤ wb.heap.size := HB.out.size
  have hwsz2 : wb.heap.size ≤ w2.heap.size := hb2.size
  clear z0 z1 z2 hb2
  by_cases hi : 0 ≤ i ∧ i < p.n
  · obtain ⟨hi1, hi2⟩ := hi
    rw [decide_eq_true hi1, decide_eq_true hi2]
    obtain ⟨⟨z0, z1, z2⟩, _⟩ := tri_facts HC2.out
    go_wp2_with fail
    clear z0 z1 z2
    go_loopw [7, 17] (fun s k wr => ∃ (j : Nat) (X : Option Addr) (kk cc : Nat), j ≤ p.m ∧ k = .int .i64 j ∧ s = .slice X kk cc ∧ kk ≤ j ∧ OwnK iκ wr w2.heap.size 3 X kk cc (((List.range j).filter fun j => decide (0 ≤ i) && (decide (i < p.n) && ((p.flows[j]!).frm == i))).map Int.ofNat) ∧ Below w2.heap.size w2 wr) (fun _ k _ => p.m - (intOf k).toNat)
    case atStart => exact ⟨0, none, 0, 0, Nat.zero_le _, rfl, rfl, Nat.le_refl _, ⟨by decide, World.ownsRow_nil _ _ _ _⟩, Below.refl _ _⟩
    case round =>
      obtain ⟨j, X, kk, cc, hj, rfl, rfl, hkk, ho, hbr⟩ := hrel
      have hj0 : (0 : Int) ≤ (j : Int) := by omega
      have hbw := HB2.out.trans (hbr.mono HB2.out.size)
      have HO := Lib.hid ho
      have HBR := Lib.hid hbr
      have HBW := Lib.hid hbw
      clear ho hbr hbw
      by_cases hlt : j < p.m
      · have hI : (j : Int) < (p.m : Int) := by omega
        obtain ⟨b, off, rfl, _, _⟩ := HF.out.2 (by omega)
        have c0 := ((KRow.of (κ := Fl.κ) (HF.out.below HBW.out (Nat.le_refl _)) (by decide) hlt) 0 _ rfl)
        rw [show off + j * Fl.κ.k + 0 = off + j * 3 from rfl] at c0
        have c1 := ((KRow.of (κ := Fl.κ) (HF.out.below HBW.out (Nat.le_refl _)) (by decide) hlt) 1 _ rfl)
        rw [show off + j * Fl.κ.k + 1 = off + j * 3 + 1 from rfl] at c1
        have c2 := ((KRow.of (κ := Fl.κ) (HF.out.below HBW.out (Nat.le_refl _)) (by decide) hlt) 2 _ rfl)
        rw [show off + j * Fl.κ.k + 2 = off + j * 3 + 2 from rfl] at c2
        have hfl : (List.range (j + 1)).filter (fun j => decide (0 ≤ i) && (decide (i < p.n) && ((p.flows[j]!).frm == i))) = (List.range j).filter (fun j => decide (0 ≤ i) && (decide (i < p.n) && ((p.flows[j]!).frm == i))) ++ (if (p.flows[j]!).frm = i then [j] else []) := by
          rw [List.range_succ, List.filter_append, List.filter_cons]
          by_cases hx : (p.flows[j]!).frm = i
          · rw [if_pos hx, if_pos (by rw [decide_eq_true hi1, decide_eq_true hi2, hx]; simp)]; rfl
          · rw [if_neg hx, if_neg (by rw [beq_eq_false_iff_ne.2 hx]; simp)]; simp
        have HFL := Lib.hid hfl
        clear hfl
        generalize p.flows[j]! = f at *
        have HE := Lib.hid (fun W => outs_end (w := W) f)
        unfold Fl.val at HE
        go_wp2_with fail
        have hba : Below wr.heap.size wr (wr.alloc (.cells #[.int .i64 f.frm, .int .i64 f.til, .string f.cond] 82)) := (Below.refl _ _).alloc (Nat.le_refl _) _
        generalize wr.alloc _ = wc at *
        refine (HE.out wc).mono ?_
        rintro e w3 ⟨rfl, hb3⟩
        have hb3' := hba.trans (hb3.mono hba.size)
        have HO3 := Lib.hid (HO.out.below hb3' (Nat.le_refl _))
        have HBR3 := Lib.hid (HBR.out.trans (hb3'.mono HBR.out.size))
        clear hba hb3 hb3' HE c0 c1 c2
        by_cases hx : f.frm = i
        · rw [if_pos hx] at HFL
          have hba : Below w3.heap.size w3 (w3.alloc (.cells #[.int .i64 j] 3)) := (Below.refl _ _).alloc (Nat.le_refl _) _
          have HOa := Lib.hid (HO3.out.below hba (Nat.le_refl _))
          have HBa := Lib.hid (HBR3.out.trans (hba.mono HBR3.out.size))
          have HR : Hid (KRow iκ (w3.alloc (.cells #[.int .i64 j] 3)) (w3.heap.size + 1) (some ⟨w3.heap.size, 0, none⟩) 1 [(j : Int)]) := Lib.hid (KRow.lit (κ := iκ) w3 3 [(j : Int)] #[.int .i64 j] rfl)
          have hbase : w2.heap.size ≤ (w3.alloc (.cells #[.int .i64 j] 3)).heap.size := HBa.out.size
          clear hba
          rw [hx]
          clear hx
          go_wp2_with (at_builtin; refine append_k (κ := iκ) rfl (.tmp 27) (.tmp 29) 22 3 i0 _ 8 Tryz.underlying22 hi0 hz0 hz1 hz2 rfl rfl _ w2.heap.size _ X kk cc _ ⟨w3.heap.size, 0, none⟩ (j : Int) rfl HOa.out rfl HR.out (by omega) (by decide) hbase ?_; intro X' cc' w' ho' hg')
          have hbf := HBa.out.trans (hg'.below HOa.out.2 hbase)
          go_wp2_with fail
          go_roundw
          case measure => simp [intOf]; omega
          case rel => exact ⟨j + 1, X', kk + 1, cc', by omega, by go_num, rfl, by omega, by rw [HFL.out, List.map_append]; exact ho', hbf⟩
        · have hxB : (f.frm == i) = false := by rw [beq_eq_false_iff_ne]; exact hx
          rw [if_neg hx, List.append_nil] at HFL
          generalize f.frm = y at *
          clear hx
          go_wp2_with fail
          go_roundw
          case measure => simp [intOf]; omega
          case rel => exact ⟨j + 1, X, kk, cc, by omega, by go_num, rfl, by omega, by rw [HFL.out]; exact HO3.out, HBR3.out⟩
      · obtain rfl : j = p.m := by omega
        have hI : ¬ ((p.m : Nat) : Int) < (p.m : Int) := by omega
        go_wp2
        go_ret
        exact ⟨⟨X, kk, cc, rfl, by rw [← hR.out]; exact HO.out.lower (by omega)⟩, HBW.out⟩
  · have hres : outsB p i = [] := by
      unfold outsB
      rw [List.filter_eq_nil_iff]
      intro t _ hh
      simp only [Bool.and_eq_true, decide_eq_true_eq] at hh
      exact hi ⟨hh.1, hh.2.1⟩
    have hR := hR.out
    rw [hres] at hR
    obtain rfl : [] = R := hR
    have hf : (decide (0 ≤ i) && decide (i < p.n)) = false := by
      rw [Bool.and_eq_false_iff, decide_eq_false_iff_not, decide_eq_false_iff_not]; omega
    rw [hf]
    clear hf hres hi hR
    go_wp2
    go_ret
    exact ⟨⟨none, 0, 0, rfl, by decide, World.ownsRow_nil _ _ _ _⟩, HB2.out⟩
theorem outs_any (A : Option Addr) (n c : Nat) (F : Option Addr) (m d : Nat) (p : P) (i : Int) (w : World) (hN : KRow Nd.κ w w.heap.size A n p.nodes) (hF : KRow Fl.κ w w.heap.size F m p.flows) (hn : n ≤ 100000) (hm : m ≤ 100000) :
    Calls Tryz.prog 75 #[.agg #[.string p.name, .slice A n c, .slice F m d], .int .i64 i] w fun e w' =>
      (∃ (X : Option Addr) (k cc : Nat), e = .returned (.slice X k cc) ∧ OwnK iκ w' w.heap.size 3 X k cc ((outsB p i).map Int.ofNat)) ∧ Below w.heap.size w w' := by
  have HB := Lib.hid ((Below.refl w.heap.size w).alloc (Nat.le_refl _) (.cells #[.string p.name, .slice A n c, .slice F m d] 30))
  have hcel := Cel.lit w #[.string p.name, .slice A n c, .slice F m d] 30
  have HP := Lib.hid (fun W hb => places_outs A n c F m d p i W ((hN.below (b0 := w.heap.size) hb (Nat.le_refl _)).mono hb.size) ((hF.below hb (Nat.le_refl _)).mono hb.size) hn hm)
  clear hN hF
  go_enter Tryz.func75, Tryz.ntmps75
  go_upto_region 1 with (fail)
  generalize w.alloc _ = wb at *
  obtain ⟨⟨z0, z1, z2⟩, _⟩ := tri_facts hcel
  have hwsz : w.heap.size ≤ wb.heap.size := HB.out.size
  clear hcel
  go_wp2_with fail
  refine (HP.out wb HB.out).mono ?_
  rintro e w2 ⟨⟨X, k, cc, rfl, ho⟩, hb2⟩
  have HB2 := Lib.hid (HB.out.trans (hb2.mono HB.out.size))
  have HO := Lib.hid (ho.lower hwsz)
  clear ho hb2 z0 z1 z2 HP
  go_wp2
  go_ret
  exact ⟨⟨X, k, cc, rfl, HO.out⟩, HB2.out⟩
set_option maxHeartbeats 1600000 in
set_option maxRecDepth 10000 in
theorem places_ins (A : Option Addr) (n c : Nat) (F : Option Addr) (m d : Nat) (p : P) (i : Int) (w : World) (hN : KRow Nd.κ w w.heap.size A n p.nodes) (hF : KRow Fl.κ w w.heap.size F m p.flows) (hn : n ≤ 100000) (hm : m ≤ 100000) :
    Calls Tryz.prog 86 #[.agg #[.string p.name, .slice A n c, .slice F m d], .int .i64 i, .func (.func 87) #[] #[]] w fun e w' =>
      (∃ (X : Option Addr) (k cc : Nat), e = .returned (.slice X k cc) ∧ OwnK iκ w' w.heap.size 3 X k cc ((insB p i).map Int.ofNat)) ∧ Below w.heap.size w w' := by
  obtain rfl : p.n = n := hN.len (by decide)
  obtain rfl : p.m = m := hF.len (by decide)
  have HF := Lib.hid hF
  have HB := Lib.hid ((Below.refl w.heap.size w).alloc (Nat.le_refl _) (.cells #[.string p.name, .slice A p.n c, .slice F p.m d] 30))
  have hcel := Cel.lit w #[.string p.name, .slice A p.n c, .slice F p.m d] 30
  obtain ⟨i0, hi0, hz0, hz1, hz2⟩ := info_parts info_int
  clear hN hF
  obtain ⟨R, hR⟩ : ∃ R, (insB p i).map Int.ofNat = R := ⟨_, rfl⟩
  rw [hR]
  have hR := Lib.hid hR
  go_enter Tryz.func86, Tryz.ntmps86
  go_upto_region 1 with (fail)
  generalize w.alloc _ = wb at *
  have HC := Lib.hid hcel
  obtain ⟨⟨z0, z1, z2⟩, _⟩ := tri_facts hcel
  clear hcel
  go_wp2_with fail
  refine (isnode_any (w := wb) p.name A p.n c F p.m d i).mono ?_
  rintro e w2 ⟨rfl, hb2⟩
  have HC2 := Lib.hid (HC.out.below hb2 (Nat.le_refl _))
  have HB2 := Lib.hid (HB.out.trans (hb2.mono HB.out.size))
  have hwsz : w.heap.size ≤ wb.heap.size := HB.out.size
  have hwsz2 : wb.heap.size ≤ w2.heap.size := hb2.size
  clear z0 z1 z2 hb2
  by_cases hi : 0 ≤ i ∧ i < p.n
  · obtain ⟨hi1, hi2⟩ := hi
    rw [decide_eq_true hi1, decide_eq_true hi2]
    obtain ⟨⟨z0, z1, z2⟩, _⟩ := tri_facts HC2.out
    go_wp2_with fail
    clear z0 z1 z2
    go_loopw [7, 17] (fun s k wr => ∃ (j : Nat) (X : Option Addr) (kk cc : Nat), j ≤ p.m ∧ k = .int .i64 j ∧ s = .slice X kk cc ∧ kk ≤ j ∧ OwnK iκ wr w2.heap.size 3 X kk cc (((List.range j).filter fun j => decide (0 ≤ i) && (decide (i < p.n) && ((p.flows[j]!).til == i))).map Int.ofNat) ∧ Below w2.heap.size w2 wr) (fun _ k _ => p.m - (intOf k).toNat)
    case atStart => exact ⟨0, none, 0, 0, Nat.zero_le _, rfl, rfl, Nat.le_refl _, ⟨by decide, World.ownsRow_nil _ _ _ _⟩, Below.refl _ _⟩
    case round =>
      obtain ⟨j, X, kk, cc, hj, rfl, rfl, hkk, ho, hbr⟩ := hrel
      have hj0 : (0 : Int) ≤ (j : Int) := by omega
      have hbw := HB2.out.trans (hbr.mono HB2.out.size)
      have HO := Lib.hid ho
      have HBR := Lib.hid hbr
      have HBW := Lib.hid hbw
      clear ho hbr hbw
      by_cases hlt : j < p.m
      · have hI : (j : Int) < (p.m : Int) := by omega
        obtain ⟨b, off, rfl, _, _⟩ := HF.out.2 (by omega)
        have c0 := ((KRow.of (κ := Fl.κ) (HF.out.below HBW.out (Nat.le_refl _)) (by decide) hlt) 0 _ rfl)
        rw [show off + j * Fl.κ.k + 0 = off + j * 3 from rfl] at c0
        have c1 := ((KRow.of (κ := Fl.κ) (HF.out.below HBW.out (Nat.le_refl _)) (by decide) hlt) 1 _ rfl)
        rw [show off + j * Fl.κ.k + 1 = off + j * 3 + 1 from rfl] at c1
        have c2 := ((KRow.of (κ := Fl.κ) (HF.out.below HBW.out (Nat.le_refl _)) (by decide) hlt) 2 _ rfl)
        rw [show off + j * Fl.κ.k + 2 = off + j * 3 + 2 from rfl] at c2
        have hfl : (List.range (j + 1)).filter (fun j => decide (0 ≤ i) && (decide (i < p.n) && ((p.flows[j]!).til == i))) = (List.range j).filter (fun j => decide (0 ≤ i) && (decide (i < p.n) && ((p.flows[j]!).til == i))) ++ (if (p.flows[j]!).til = i then [j] else []) := by
          rw [List.range_succ, List.filter_append, List.filter_cons]
          by_cases hx : (p.flows[j]!).til = i
          · rw [if_pos hx, if_pos (by rw [decide_eq_true hi1, decide_eq_true hi2, hx]; simp)]; rfl
          · rw [if_neg hx, if_neg (by rw [beq_eq_false_iff_ne.2 hx]; simp)]; simp
        have HFL := Lib.hid hfl
        clear hfl
        generalize p.flows[j]! = f at *
        have HE := Lib.hid (fun W => ins_end (w := W) f)
        unfold Fl.val at HE
        go_wp2_with fail
        have hba : Below wr.heap.size wr (wr.alloc (.cells #[.int .i64 f.frm, .int .i64 f.til, .string f.cond] 82)) := (Below.refl _ _).alloc (Nat.le_refl _) _
        generalize wr.alloc _ = wc at *
        refine (HE.out wc).mono ?_
        rintro e w3 ⟨rfl, hb3⟩
        have hb3' := hba.trans (hb3.mono hba.size)
        have HO3 := Lib.hid (HO.out.below hb3' (Nat.le_refl _))
        have HBR3 := Lib.hid (HBR.out.trans (hb3'.mono HBR.out.size))
        clear hba hb3 hb3' HE c0 c1 c2
        by_cases hx : f.til = i
        · rw [if_pos hx] at HFL
          have hba : Below w3.heap.size w3 (w3.alloc (.cells #[.int .i64 j] 3)) := (Below.refl _ _).alloc (Nat.le_refl _) _
          have HOa := Lib.hid (HO3.out.below hba (Nat.le_refl _))
          have HBa := Lib.hid (HBR3.out.trans (hba.mono HBR3.out.size))
          have HR : Hid (KRow iκ (w3.alloc (.cells #[.int .i64 j] 3)) (w3.heap.size + 1) (some ⟨w3.heap.size, 0, none⟩) 1 [(j : Int)]) := Lib.hid (KRow.lit (κ := iκ) w3 3 [(j : Int)] #[.int .i64 j] rfl)
          have hbase : w2.heap.size ≤ (w3.alloc (.cells #[.int .i64 j] 3)).heap.size := HBa.out.size
          clear hba
          rw [hx]
          clear hx
          go_wp2_with (at_builtin; refine append_k (κ := iκ) rfl (.tmp 27) (.tmp 29) 22 3 i0 _ 8 Tryz.underlying22 hi0 hz0 hz1 hz2 rfl rfl _ w2.heap.size _ X kk cc _ ⟨w3.heap.size, 0, none⟩ (j : Int) rfl HOa.out rfl HR.out (by omega) (by decide) hbase ?_; intro X' cc' w' ho' hg')
          have hbf := HBa.out.trans (hg'.below HOa.out.2 hbase)
          go_wp2_with fail
          go_roundw
          case measure => simp [intOf]; omega
          case rel => exact ⟨j + 1, X', kk + 1, cc', by omega, by go_num, rfl, by omega, by rw [HFL.out, List.map_append]; exact ho', hbf⟩
        · have hxB : (f.til == i) = false := by rw [beq_eq_false_iff_ne]; exact hx
          rw [if_neg hx, List.append_nil] at HFL
          generalize f.til = y at *
          clear hx
          go_wp2_with fail
          go_roundw
          case measure => simp [intOf]; omega
          case rel => exact ⟨j + 1, X, kk, cc, by omega, by go_num, rfl, by omega, by rw [HFL.out]; exact HO3.out, HBR3.out⟩
      · obtain rfl : j = p.m := by omega
        have hI : ¬ ((p.m : Nat) : Int) < (p.m : Int) := by omega
        go_wp2
        go_ret
        exact ⟨⟨X, kk, cc, rfl, by rw [← hR.out]; exact HO.out.lower (by omega)⟩, HBW.out⟩
  · have hres : insB p i = [] := by
      unfold insB
      rw [List.filter_eq_nil_iff]
      intro t _ hh
      simp only [Bool.and_eq_true, decide_eq_true_eq] at hh
      exact hi ⟨hh.1, hh.2.1⟩
    have hR := hR.out
    rw [hres] at hR
    obtain rfl : [] = R := hR
    have hf : (decide (0 ≤ i) && decide (i < p.n)) = false := by
      rw [Bool.and_eq_false_iff, decide_eq_false_iff_not, decide_eq_false_iff_not]; omega
    rw [hf]
    clear hf hres hi hR
    go_wp2
    go_ret
    exact ⟨⟨none, 0, 0, rfl, by decide, World.ownsRow_nil _ _ _ _⟩, HB2.out⟩
theorem ins_any (A : Option Addr) (n c : Nat) (F : Option Addr) (m d : Nat) (p : P) (i : Int) (w : World) (hN : KRow Nd.κ w w.heap.size A n p.nodes) (hF : KRow Fl.κ w w.heap.size F m p.flows) (hn : n ≤ 100000) (hm : m ≤ 100000) :
    Calls Tryz.prog 50 #[.agg #[.string p.name, .slice A n c, .slice F m d], .int .i64 i] w fun e w' =>
      (∃ (X : Option Addr) (k cc : Nat), e = .returned (.slice X k cc) ∧ OwnK iκ w' w.heap.size 3 X k cc ((insB p i).map Int.ofNat)) ∧ Below w.heap.size w w' := by
  have HB := Lib.hid ((Below.refl w.heap.size w).alloc (Nat.le_refl _) (.cells #[.string p.name, .slice A n c, .slice F m d] 30))
  have hcel := Cel.lit w #[.string p.name, .slice A n c, .slice F m d] 30
  have HP := Lib.hid (fun W hb => places_ins A n c F m d p i W ((hN.below (b0 := w.heap.size) hb (Nat.le_refl _)).mono hb.size) ((hF.below hb (Nat.le_refl _)).mono hb.size) hn hm)
  clear hN hF
  go_enter Tryz.func50, Tryz.ntmps50
  go_upto_region 1 with (fail)
  generalize w.alloc _ = wb at *
  obtain ⟨⟨z0, z1, z2⟩, _⟩ := tri_facts hcel
  have hwsz : w.heap.size ≤ wb.heap.size := HB.out.size
  clear hcel
  go_wp2_with fail
  refine (HP.out wb HB.out).mono ?_
  rintro e w2 ⟨⟨X, k, cc, rfl, ho⟩, hb2⟩
  have HB2 := Lib.hid (HB.out.trans (hb2.mono HB.out.size))
  have HO := Lib.hid (ho.lower hwsz)
  clear ho hb2 z0 z1 z2 HP
  go_wp2
  go_ret
  exact ⟨⟨X, k, cc, rfl, HO.out⟩, HB2.out⟩
end
end Pr
end Go.Proofs.YtkffnfgdmcebdaaGreatDoor
