/- Walks of package cond: a text; the word that begins at a place. Package flow: one step of a runner. -/
import Derived.Test.YtkffnfgdmcebdaaGreatDoorYJoint3
namespace Go.Proofs.YtkffnfgdmcebdaaGreatDoor
open Go.RowKit

/-- A word as a value. -/
def wordV (r : Nat × Nat × Nat) : Value := .agg #[.int .i64 (r.1 : Int), .int .i64 (r.2.1 : Int), .int .i64 (r.2.2 : Int)]
theorem Co.text_yes {l : List UInt8} {k m : Nat} (h : k + 1 ≤ m) (hm : m < l.length) (ha : ∀ j, k + 1 ≤ j → j < m → Co.inText l[j]! = true) (h34 : l[m]! = 34) : Co.textAt l k = (3, k, m + 1) := by
  have he : Co.ends Co.inText l (k + 1) = m := Co.ends_eq h (by omega) ha (.inr (by rw [h34]; decide))
  unfold Co.textAt
  rw [he, if_pos ⟨hm, h34⟩]
theorem Co.text_no {l : List UInt8} {k m : Nat} (h : k + 1 ≤ m) (hm : m ≤ l.length) (ha : ∀ j, k + 1 ≤ j → j < m → Co.inText l[j]! = true) (hn : m = l.length ∨ (Co.inText l[m]! = false ∧ l[m]! ≠ 34)) : Co.textAt l k = (0, k, k) := by
  have he : Co.ends Co.inText l (k + 1) = m := Co.ends_eq h hm ha (hn.imp id (·.1))
  unfold Co.textAt
  rw [he, if_neg (by rcases hn with rfl | hn <;> simp_all)]

set_option maxHeartbeats 1600000 in
theorem ctext_any (s : ByteArray) (k : Nat) (w : World) (hk : k < s.size) (hsz : s.size ≤ 80) :
    Calls Tryz.prog 168 #[.string s, .int .i64 (k : Int)] w fun e w' => e = .returned (wordV (Co.textAt s.data.toList k)) ∧ Below w.heap.size w w' := by
  have hl : s.data.toList.length = s.size := by simp
  have HL := Lib.hid hl
  clear hl
  go_enter Tryz.func168, Tryz.ntmps168
  go_wp2_with fail
  go_loop [5] (fun i => ∃ m : Nat, k + 1 ≤ m ∧ m ≤ s.size ∧ i = .int .i64 m ∧ Hid (∀ j, k + 1 ≤ j → j < m → Co.inText s.data.toList[j]! = true)) (fun i => s.size - (intOf i).toNat)
  case atStart => exact ⟨k + 1, Nat.le_refl _, by omega, by simp, fun j h1 h2 => by omega⟩
  case round =>
    obtain ⟨m, hm1, hm, rfl, hall⟩ := hrel
    by_cases hlt : m < s.size
    · have hat := at_list s m hlt
      have hc := s[m].toNat_lt
      have hin : Co.inText s[m] = true ↔ (32 ≤ (s[m].toNat : Int) ∧ (s[m].toNat : Int) ≤ 126 ∧ ¬ (s[m].toNat : Int) = 34) := by
        unfold Co.inText; simp; omega
      have h34 : (s[m].toNat : Int) = 34 → s[m] = 34 := fun h => UInt8.toNat_inj.1 (by simp; omega)
      have H1 := Lib.hid (@Co.text_yes s.data.toList k m hm1 (by rw [HL.out]; exact hlt) hall.out)
      have H2 := Lib.hid (@Co.text_no s.data.toList k m hm1 (by rw [HL.out]; exact hm) hall.out)
      rw [hat] at H1 H2
      have HI := Lib.hid hin
      have HQ := Lib.hid h34
      have HA := Lib.hid hat
      clear hin h34 hat
      go_wp2_with fail
      · have hc : ((s[m].toNat : Int) == 34) = true := by assumption
        have e34 := HQ.out (by simpa using hc)
        refine bodyPost_ret (v := .agg #[.int .i64 3, .int .i64 (k : Int), .int .i64 ((m : Int) + 1)]) (by simp [results, Tryz.results168, go_sem]) rfl ⟨?_, (Below.refl _ _).alloc (Nat.le_refl _) _⟩
        rw [H1.out (by rw [e34])]
        rfl
      · have ha : 32 ≤ (s[m].toNat : Int) := by assumption
        have hb : (s[m].toNat : Int) ≤ 126 := by assumption
        have hc : ((s[m].toNat : Int) == 34) = false := by assumption
        go_round
        case measure => simp [intOf]; omega
        case rel =>
          refine ⟨m + 1, by omega, by omega, by go_num, fun j hj hjm => ?_⟩
          by_cases e : j = m
          · subst e
            rw [HA.out, HI.out]
            exact ⟨ha, hb, by simpa using hc⟩
          · exact hall.out j hj (by omega)
      · have hb : 126 < (s[m].toNat : Int) := by assumption
        refine bodyPost_ret (v := .agg #[.int .i64 0, .int .i64 (k : Int), .int .i64 (k : Int)]) (by simp [results, Tryz.results168, go_sem]) rfl ⟨?_, (Below.refl _ _).alloc (Nat.le_refl _) _⟩
        rw [H2.out (.inr ⟨by rw [Bool.eq_false_iff, ne_eq, HI.out]; omega, fun e => by rw [e] at hb; revert hb; decide⟩)]
        rfl
      · have ha : (s[m].toNat : Int) < 32 := by assumption
        refine bodyPost_ret (v := .agg #[.int .i64 0, .int .i64 (k : Int), .int .i64 (k : Int)]) (by simp [results, Tryz.results168, go_sem]) rfl ⟨?_, (Below.refl _ _).alloc (Nat.le_refl _) _⟩
        rw [H2.out (.inr ⟨by rw [Bool.eq_false_iff, ne_eq, HI.out]; omega, fun e => by rw [e] at ha; revert ha; decide⟩)]
        rfl
    · have : m = s.size := by omega
      subst this
      go_wp2
      have H2 := @Co.text_no s.data.toList k s.size hm1 (by rw [HL.out]; exact Nat.le_refl _) hall.out (.inl HL.out.symm)
      refine bodyPost_ret (v := .agg #[.int .i64 0, .int .i64 (k : Int), .int .i64 (k : Int)]) (by simp [results, Tryz.results168, go_sem]) rfl ⟨?_, ?_⟩
      · rw [H2]; rfl
      · exact (Below.refl _ _).alloc (Nat.le_refl _) _
end Go.Proofs.YtkffnfgdmcebdaaGreatDoor
namespace Go.Proofs.YtkffnfgdmcebdaaGreatDoor
open Go.RowKit

namespace Pr
theorem six8_cel {w : World} {z : Nat} {x : BdV} {mv : Nat} {fl : ByteArray} (h : Cel w z (rnL x mv fl)) (y : BdV) : Cel (six w z y) z (rnL y mv fl) :=
  (((((h.set (i := 0) (by simp [rnL]) _).set (i := 1) (by simp [rnL]) _).set (i := 2) (by simp [rnL]) _).set (i := 3) (by simp [rnL]) _).set (i := 4) (by simp [rnL]) _).set (i := 5) (by simp [rnL]) _
theorem emp_of {c : ByteArray} (h : c.size = 0) : c = ⟨#[]⟩ := by
  obtain ⟨⟨l⟩⟩ := c
  simp [ByteArray.size] at h
  simp [h]
set_option maxHeartbeats 3200000 in
set_option maxRecDepth 10000 in
theorem fstep_any (E : Int → Option Addr) (q : Nat) (x : BdV) (r : Rn) (w0 w : World) (k most : Nat) (h : RnC w q x r) (hb0 : Below w0.heap.size w0 w) (hE : Env E w0 r.b.p r.b.vars) (ho : Ok r.b most) (hk : Fst r.b k) (hm : r.moves ≤ 1000000000) :
    Calls Tryz.prog 68 #[.pointer (some ⟨q, 0, none⟩), .int .i64 (k : Int)] w fun e w' => e = .returned (.tuple #[]) ∧ (∃ x', RnC w' q x' (adv r k)) ∧ w.grownBy w' (some q) := by
  obtain ⟨b, mv, fl⟩ := r
  dsimp only at *
  have HST := Lib.hid (step_any E k x b w h.inn ho.few ho.m ho.ids.asc hk.1 (fun u hu f hf => hE.ok hb0 h.inn f) (hE.e116.below hb0) (hE.e104.below hb0))
  have HC := Lib.hid h.cel
  have hql := h.cel.lt
  unfold adv
  dsimp only
  clear h hb0 hE ho hk
  generalize bstep b k = R at *
  obtain ⟨b2, mo, cd, ec⟩ := R
  unfold StepOut BdV.val at HST
  obtain ⟨s, A, n, c, F, m, d, V, nv, cv, T, nt, ct, kx⟩ := x
  dsimp only [rnL] at *
  have hwm : IntKind.i64.wrap ((mv : Int) + 1) = (mv : Int) + 1 := by rw [IntKind.wrap_i64]; omega
  obtain ⟨⟨z0, z1, z2, z3, z4, z5, z6, z7⟩, _⟩ := eight_facts HC.out
  go_enter Tryz.func68, Tryz.ntmps68
  go_upto_region 1 with (go_at_call 20; refine HST.out.mono ?_; rintro e w1 ⟨⟨⟨ys, yA, yn, yc, yF, ym, yd, yV, ynv, ycv, yT, ynt, yct, yk⟩, ev, rfl, hs, hO⟩, hb1⟩; dsimp only)
  clear z0 z1 z2 z3 z4 z5 z6 z7
  have hba : Below w1.heap.size w1 (w1.alloc (.cells #[.string ys, .slice yA yn yc, .slice yF ym yd, .slice yV ynv ycv, .slice yT ynt yct, .int .i64 yk] 38)) := (Below.refl _ _).alloc (Nat.le_refl _) _
  have esz : (w1.alloc (.cells #[.string ys, .slice yA yn yc, .slice yF ym yd, .slice yV ynv ycv, .slice yT ynt yct, .int .i64 yk] 38)).heap.size = w1.heap.size + 1 := by simp
  have HBX := Lib.hid ((Cel.lit w1 #[.string ys, .slice yA yn yc, .slice yF ym yd, .slice yV ynv ycv, .slice yT ynt yct, .int .i64 yk] 38).alloc (.cells #[.bool mo, .string cd] 54))
  have HMX := Lib.hid (Cel.lit (w1.alloc (.cells #[.string ys, .slice yA yn yc, .slice yF ym yd, .slice yV ynv ycv, .slice yT ynt yct, .int .i64 yk] 38)) #[.bool mo, .string cd] 54)
  rw [esz] at HMX
  have hbB : Below w1.heap.size w1 ((w1.alloc (.cells #[.string ys, .slice yA yn yc, .slice yF ym yd, .slice yV ynv ycv, .slice yT ynt yct, .int .i64 yk] 38)).alloc (.cells #[.bool mo, .string cd] 54)) := hba.alloc (by rw [esz]; omega) _
  have HO1 := Lib.hid (hO.below hbB)
  have HB := Lib.hid (hb1.trans (hbB.mono hb1.size))
  have hq1 : q < w1.heap.size := Nat.lt_of_lt_of_le hql hb1.size
  clear hba esz hbB hO hs hb1 HST
  generalize (w1.alloc _).alloc _ = wB at *
  generalize w1.heap.size = p1 at *
  have HC1 : Hid (Cel wB q [.string s, .slice A n c, .slice F m d, .slice V nv cv, .slice T nt ct, .int .i64 kx, .int .i64 (mv : Int), .string fl]) := Lib.hid (HC.out.below HB.out (Nat.le_refl _))
  obtain ⟨⟨z0, z1, z2, z3, z4, z5, z6, z7⟩, f0, f1, f2, f3, f4, f5, f6, f7⟩ := eight_facts HC1.out
  obtain ⟨⟨o0, o1, o2, o3, o4, o5⟩, _⟩ := six_facts HBX.out
  go_upto_region 2 with (fail)
  change Code.wp _ _ _ _ (six wB q ⟨ys, yA, yn, yc, yF, ym, yd, yV, ynv, ycv, yT, ynt, yct, yk⟩)
  clear z0 z1 z2 z3 z4 z5 z6 z7 f0 f1 f2 f3 f4 f5 f6 f7 o0 o1 o2 o3 o4 o5
  have HC2 : Hid (Cel (six wB q ⟨ys, yA, yn, yc, yF, ym, yd, yV, ynv, ycv, yT, ynt, yct, yk⟩) q [.string ys, .slice yA yn yc, .slice yF ym yd, .slice yV ynv ycv, .slice yT ynt yct, .int .i64 yk, .int .i64 (mv : Int), .string fl]) := Lib.hid (six8_cel (x := ⟨s, A, n, c, F, m, d, V, nv, cv, T, nt, ct, kx⟩) HC1.out ⟨ys, yA, yn, yc, yF, ym, yd, yV, ynv, ycv, yT, ynt, yct, yk⟩)
  have hsg := six_grown wB q ⟨ys, yA, yn, yc, yF, ym, yd, yV, ynv, ycv, yT, ynt, yct, yk⟩
  have HO2 := Lib.hid (HO1.out.grown hql hsg)
  have HM2 := Lib.hid (HMX.out.kept hsg (fun e => by have h2 : q = p1 + 1 := Option.some.inj e; omega))
  have HG2 := Lib.hid (grown_trans (grown_below (q := q) HB.out) hsg)
  clear hsg
  generalize six wB q ⟨ys, yA, yn, yc, yF, ym, yd, yV, ynv, ycv, yT, ynt, yct, yk⟩ = w3 at *
  obtain ⟨⟨z0, z1, z2, z3, z4, z5, z6, z7⟩, f0, f1, f2, f3, f4, f5, f6, f7⟩ := eight_facts HC2.out
  go_upto_region 3 with (fail)
  clear z0 z1 z2 z3 z4 z5 z6 z7 f0 f1 f2 f3 f4 f5 f6 f7
  have HC3 : Hid (Cel (w3.setCell ⟨q, 6, none⟩ (.int .i64 ((mv : Int) + 1))) q [.string ys, .slice yA yn yc, .slice yF ym yd, .slice yV ynv ycv, .slice yT ynt yct, .int .i64 yk, .int .i64 ((mv : Int) + 1), .string fl]) := Lib.hid (HC2.out.set (i := 6) (by simp) _)
  have hsg : w3.grownBy (w3.setCell ⟨q, 6, none⟩ (.int .i64 ((mv : Int) + 1))) (some q) := grown_setCell w3 ⟨q, 6, none⟩ _
  have HO3 := Lib.hid (HO2.out.grown hql hsg)
  have HM3 := Lib.hid (HM2.out.kept hsg (fun e => by have h2 : q = p1 + 1 := Option.some.inj e; omega))
  have HG3 := Lib.hid (grown_trans HG2.out hsg)
  clear hsg
  generalize w3.setCell ⟨q, 6, none⟩ (.int .i64 ((mv : Int) + 1)) = w4 at *
  have m1 := HM3.out.cell 1 _ rfl
  by_cases h0 : cd.size = 0
  · obtain rfl := emp_of h0
    go_wp2
    go_end0
    exact ⟨rfl, ⟨⟨ys, yA, yn, yc, yF, ym, yd, yV, ynv, ycv, yT, ynt, yct, yk⟩, ⟨HC3.out, HO3.out.inn, HO3.out.off_of hql⟩⟩, HG3.out⟩
  · have hce : cd.toList.isEmpty = false := by rw [empB]; simpa using h0
    obtain ⟨⟨z0, z1, z2, z3, z4, z5, z6, z7⟩, f0, f1, f2, f3, f4, f5, f6, f7⟩ := eight_facts HC3.out
    go_wp2
    go_end0
    have hsg : w4.grownBy (w4.setCell ⟨q, 7, none⟩ (.string cd)) (some q) := grown_setCell w4 ⟨q, 7, none⟩ _
    have HO4 := HO3.out.grown hql hsg
    refine ⟨rfl, ⟨⟨ys, yA, yn, yc, yF, ym, yd, yV, ynv, ycv, yT, ynt, yct, yk⟩, ⟨?_, HO4.inn, HO4.off_of hql⟩⟩, grown_trans HG3.out hsg⟩
    exact HC3.out.set (i := 7) (by simp) _
end Pr
end Go.Proofs.YtkffnfgdmcebdaaGreatDoor
