/- The program's flowFault. -/
import Derived.Test.YtjababmmcejgdaaGreatDoorBcY
import Derived.Test.YtjababmmcejgdaaGreatDoorYProcessBack11
import Derived.Test.YtjababmmcejgdaaGreatDoorCjY
import Derived.Test.YtjababmmcejgdaaGreatDoorYProcessBack7
namespace Go.Proofs.YtjababmmcejgdaaGreatDoor
open Go.RowKit

namespace Pr
theorem node_within (i : Int) (n : Nat) : (decide (0 ≤ i) && decide (i < (n : Int))) = within i 0 ((n : Int) - 1) := by
  unfold within
  congr 1
  rw [decide_eq_decide]
  omega
/-- What Parse tells of a text. -/
def erC : Option (Int × Nat) → Int
  | some x => x.1
  | none => 0
theorem condBad_of (s : ByteArray) {e : Co.Tr} {er : Option (Int × Nat)} (h : Co.parse s.data.toList = some (e, er)) : condBad s = erC er := by
  unfold condBad
  rw [h]
  cases er with
  | none => rfl
  | some x => rfl
set_option maxHeartbeats 6400000 in
set_option maxRecDepth 10000 in
theorem flowfault_any {W : World} {E : Int → Option Addr} (hE : PrErrs W E) (hC : CoErrs W E) (hT : ErrTy W) (A : Option Addr) (n c : Nat) (F : Option Addr) (m d : Nat) (p : P) (f : Fl) (w : World) (hW : Below W.heap.size W w) (hN : KRow Nd.κ w w.heap.size A n p.nodes) (hs : f.cond.size ≤ 80) :
    Calls Tryz.prog 28 #[.agg #[.string p.name, .slice A n c, .slice F m d], .agg #[.int .i64 f.frm, .int .i64 f.til, .string f.cond]] w fun e w' => (∃ ev, e = .returned ev ∧ SeenBy E ev (flowBad p f)) ∧ Below w.heap.size w w' := by
  obtain rfl : p.n = n := hN.len (by decide)
  obtain ⟨R, hR⟩ : ∃ R, R = flowBad p f := ⟨_, rfl⟩
  rw [← hR]
  unfold flowBad at hR
  have HE := Lib.hid (fun W' (hb : Below w.heap.size w W') => hE.below (w := W') (hW.trans (hb.mono hW.size)))
  have HT := Lib.hid (fun W' (hb : Below w.heap.size w W') => hT.below (w' := W') (hW.trans (hb.mono hW.size)))
  obtain ⟨pe, er, hp⟩ := Co.parse_tot f.cond.data.toList
  have HBD := Lib.hid (condBad_of f.cond hp)
  have HPA := Lib.hid (fun W' (hb : Below w.heap.size w W') => cparse_any (w := W') hC (hW.trans (hb.mono hW.size)) hs pe er hp)
  have HN := Lib.hid hN
  have hp1 := Cel.lit w #[.string p.name, .slice A p.n c, .slice F m d] 30
  have hb1 := (Below.refl w.heap.size w).alloc (Nat.le_refl _) (.cells #[.string p.name, .slice A p.n c, .slice F m d] 30)
  have hp2 := Cel.lit (w.alloc (.cells #[.string p.name, .slice A p.n c, .slice F m d] 30)) #[.int .i64 f.frm, .int .i64 f.til, .string f.cond] 38
  have HB := Lib.hid (hb1.alloc hb1.size (.cells #[.int .i64 f.frm, .int .i64 f.til, .string f.cond] 38))
  have HP := Lib.hid (hp1.alloc (.cells #[.int .i64 f.frm, .int .i64 f.til, .string f.cond] 38))
  have HF := Lib.hid hp2
  have s1 : (w.alloc (.cells #[.string p.name, .slice A p.n c, .slice F m d] 30)).heap.size = w.heap.size + 1 := by simp
  rw [s1] at HF
  have I1 := Lib.hid (fun W => isnode_any (w := W) p.name A p.n c F m d f.frm)
  have I2 := Lib.hid (fun W => isnode_any (w := W) p.name A p.n c F m d f.til)
  rw [node_within] at I1 I2
  obtain ⟨b1, hb1'⟩ : ∃ b, within f.frm 0 ((p.n : Int) - 1) = b := ⟨_, rfl⟩
  obtain ⟨b2, hb2'⟩ : ∃ b, within f.til 0 ((p.n : Int) - 1) = b := ⟨_, rfl⟩
  rw [hb1', hb2'] at hR
  rw [hb1'] at I1
  rw [hb2'] at I2
  have HB1 := Lib.hid hb1'
  clear hN hs hb1 hp1 hp2 s1 hp hE hC hT hW hb1' hb2'
  go_enter Tryz.func28, Tryz.ntmps28
  go_upto_region 1 with (fail)
  generalize (w.alloc _).alloc _ = wb at *
  obtain ⟨⟨z0, z1, z2⟩, _⟩ := tri_facts HP.out
  obtain ⟨⟨y0, y1, y2⟩, _⟩ := tri_facts HF.out
  go_wp2_with fail
  refine (I1.out _).mono ?_
  rintro e w2 ⟨rfl, hb2⟩
  have HB2 := Lib.hid (HB.out.trans (hb2.mono HB.out.size))
  have HP2 := Lib.hid (HP.out.below hb2 (Nat.le_refl _))
  have HF2 := Lib.hid (HF.out.below hb2 (Nat.le_refl _))
  clear z0 z1 z2 y0 y1 y2 hb2 HP HF HB
  cases b1 with
  | false =>
    rw [Bool.false_and, if_pos rfl] at hR
    subst hR
    obtain ⟨a7, ha7, g7⟩ := (HE.out _ HB2.out).e107
    go_wp2
    go_ret
    exact ⟨⟨_, rfl, .err 107 a7 ha7 (by decide)⟩, HB2.out⟩
  | true =>
    obtain ⟨⟨z0, z1, z2⟩, _⟩ := tri_facts HP2.out
    obtain ⟨⟨y0, y1, y2⟩, _⟩ := tri_facts HF2.out
    go_wp2_with fail
    refine (I2.out _).mono ?_
    rintro e w3 ⟨rfl, hb3⟩
    have HB3 := Lib.hid (HB2.out.trans (hb3.mono HB2.out.size))
    have HP3 := Lib.hid (HP2.out.below hb3 (Nat.le_refl _))
    have HF3 := Lib.hid (HF2.out.below hb3 (Nat.le_refl _))
    clear z0 z1 z2 y0 y1 y2 hb3 HP2 HF2 HB2
    cases b2 with
    | false =>
      rw [Bool.and_false, if_pos rfl] at hR
      subst hR
      obtain ⟨a7, ha7, g7⟩ := (HE.out _ HB3.out).e107
      go_wp2
      go_ret
      exact ⟨⟨_, rfl, .err 107 a7 ha7 (by decide)⟩, HB3.out⟩
    | true =>
      rw [Bool.and_true, if_neg (by decide)] at hR
      obtain ⟨⟨z0, z1, z2⟩, _⟩ := tri_facts HP3.out
      obtain ⟨⟨y0, y1, y2⟩, _⟩ := tri_facts HF3.out
      obtain ⟨z, hz⟩ : ∃ z, f.cond.toList.isEmpty = z := ⟨_, rfl⟩
      have hzs := emp_iff f.cond
      rw [hz] at hzs
      cases z with
      | true =>
        have h0 : f.cond.size = 0 := beq_iff_eq.1 hzs.symm
        rw [if_pos h0] at hR
        subst hR
        clear hzs h0
        go_wp2
        go_ret
        exact ⟨⟨_, rfl, .nil⟩, HB3.out⟩
      | false =>
        have h0 : ¬ f.cond.size = 0 := beq_eq_false_iff_ne.1 hzs.symm
        rw [if_neg h0] at hR
        clear hzs h0
        obtain ⟨a, ha, hap⟩ : ∃ a : Nat, f.frm = a ∧ a < p.n := by
          have h1 := HB1.out
          unfold within at h1
          simp only [Bool.and_eq_true, decide_eq_true_eq] at h1
          exact ⟨f.frm.toNat, by omega, by omega⟩
        have haI : (a : Int) < (p.n : Int) := by omega
        have ha0 : (0 : Int) ≤ (a : Int) := by omega
        rw [ha] at hR y0
        rw [show ((a : Int)).toNat = a from by omega] at hR
        obtain ⟨bx, off, rfl, _, _⟩ := HN.out.2 (by omega)
        obtain ⟨n0, n1, n2, n3, n4, n5, n6, n7⟩ := nd_at (HN.out.below HB3.out (Nat.le_refl _)) hap
        have hg : ((p.nodes[a]!).kind ≠ 5 ∧ (p.nodes[a]!).kind ≠ 7) ↔ ((p.nodes[a]!).kind == 5 || (p.nodes[a]!).kind == 7) = false := by
          rw [Bool.or_eq_false_iff, beq_eq_false_iff_ne, beq_eq_false_iff_ne]
        generalize p.nodes[a]! = x at *
        have HCH := Lib.hid (fun W => chooses_any x W)
        unfold Nd.val at HCH
        obtain ⟨g, hgv⟩ : ∃ g, (x.kind == 5 || x.kind == 7) = g := ⟨_, rfl⟩
        rw [hgv] at HCH hg
        clear hgv
        go_wp2_with fail
        refine (HCH.out _).mono ?_
        rintro e w4 ⟨rfl, hb4⟩
        have HB4 := Lib.hid (HB3.out.trans (hb4.mono HB3.out.size))
        have HF4 := Lib.hid (HF3.out.below hb4 (Nat.le_refl _))
        clear z0 z1 z2 y0 y1 y2 hb4 HP3 HF3 HB3 n0 n1 n2 n3 n4 n5 n6 n7
        cases g with
        | false =>
          rw [if_pos (hg.2 rfl)] at hR
          subst hR
          obtain ⟨a2, ha2, g2⟩ := (HE.out _ HB4.out).e102
          clear hg
          go_wp2
          go_ret
          exact ⟨⟨_, rfl, .err 102 a2 ha2 (by decide)⟩, HB4.out⟩
        | true =>
          rw [if_neg (fun h => by have := hg.1 h; cases this)] at hR
          rw [HBD.out] at hR
          clear hg
          obtain ⟨⟨y0, y1, y2⟩, _⟩ := tri_facts HF4.out
          go_wp2_with fail
          refine (HPA.out _ HB4.out).mono ?_
          rintro e w5 ⟨⟨y, ev, rfl, _, herr⟩, hb5⟩
          have HB5 := Lib.hid (HB4.out.trans (hb5.mono HB4.out.size))
          have HERR := Lib.hid herr
          clear y0 y1 y2 hb5 HF4 HB4 herr
          unfold Ex.val
          have hba : Below w5.heap.size w5 (w5.alloc (.cells #[.int .i64 y.op, .int .i64 y.kind, .int .i64 y.num, .string y.txt, .string y.name, .slice y.A y.n y.c] 100)) := (Below.refl _ _).alloc (Nat.le_refl _) _
          have HB6 := Lib.hid (HB5.out.trans (hba.mono HB5.out.size))
          have HBA := Lib.hid hba
          clear hba
          cases er with
          | none =>
            subst hR
            obtain rfl : ev = .nilIface := HERR.out
            go_wp2_with fail
            generalize w5.alloc _ = w6 at *
            refine (wop_nil _).mono ?_
            rintro e w7 ⟨rfl, hb7⟩
            have HB7 := Lib.hid (HB6.out.trans (hb7.mono HB6.out.size))
            clear hb7
            go_wp2
            go_ret
            exact ⟨⟨_, rfl, .nil⟩, HB7.out⟩
          | some cx =>
            obtain ⟨c, k⟩ := cx
            have hR : R = c := hR
            subst hR
            obtain ⟨b, a', rfl, hEc, hc0, hbl⟩ := HERR.out
            have hbl6 := (HBA.out.block b (blk_lt hbl)).trans hbl
            have HW := Lib.hid (wop_at _ b k (errV a') (HT.out _ HB6.out) hbl6)
            unfold atV
            have HEC := Lib.hid hEc
            have HC0 := Lib.hid hc0
            clear hbl hbl6 hEc hc0
            go_wp2_with fail
            generalize w5.alloc _ = w6 at *
            refine HW.out.mono ?_
            rintro e w7 ⟨rfl, hb7⟩
            have HB7 := Lib.hid (HB6.out.trans (hb7.mono HB6.out.size))
            clear hb7
            go_wp2
            go_ret
            exact ⟨⟨_, rfl, .err _ a' HEC.out HC0.out⟩, HB7.out⟩
end Pr
end Go.Proofs.YtjababmmcejgdaaGreatDoor
