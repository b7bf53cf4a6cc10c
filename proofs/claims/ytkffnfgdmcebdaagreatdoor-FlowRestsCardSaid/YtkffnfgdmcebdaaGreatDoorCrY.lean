/- Walks of package cond: a row of parts with operators between them. -/
import Derived.Test.YtkffnfgdmcebdaaGreatDoorYJoint4
import Derived.Deep.LoopGhost
namespace Go.Proofs.YtkffnfgdmcebdaaGreatDoor
open Go.RowKit

section
variable {E : Int → Option Addr} {W w w' : World} {q d : Nat} {s : ByteArray} {st : Co.St}
theorem Cel.int1 {z : Nat} {y : Ex} (h : Cel w z y.list) : ∃ k v, w.cell? ⟨z, 1, none⟩ = some (.int k v) := ⟨_, _, h.cell 1 _ rfl⟩

set_option maxHeartbeats 3200000 in
theorem crow_any (hE : CoErrs W E) (hWq : W.heap.size ≤ q) (g : Nat) (eg : ∀ args w, (callFunc g args).run Tryz.prog w = .ok (.enter g args) w) (part : Co.St → Co.Out) (HP : PartC E W q s g d part)
    (a b : Nat) (hab : a ≤ b) (hb18 : b < 18) (st : Co.St) (eF : Co.Tr) (stF : Co.St) (hrow : Co.rowAll s.data.toList part a b st = some (eF, stF)) (w : World) (hb : Below W.heap.size W w) (h : PaC E w q s st d) :
    Calls Tryz.prog 154 #[.pointer (some ⟨q, 0, none⟩), .int .i64 (a : Int), .int .i64 (b : Int), .func (.func g) #[.pointer (some ⟨q, 0, none⟩)] #[]] w
      fun x w' => (∃ y, x = .returned (Ex.val y) ∧ At w' (fun b => w.heap.size ≤ b) eF y) ∧ PaC E w' q s stF d ∧ w.grownBy w' (some q) := by
  unfold Co.rowAll at hrow
  cases hp : part st with
  | none => rw [hp] at hrow; cases hrow
  | some r =>
    obtain ⟨e0, st1⟩ := r
    rw [hp] at hrow
    have hrow : Co.row s.data.toList part a b 60 e0 st1 = some (eF, stF) := hrow
    have hlt := h.lt
    have HR := Lib.hid hrow
    have hc1 := HP st e0 st1 hp _ (hb.alloc hb.size _) (h.alloc (.cells #[.int .i64 0, .int .i64 0, .int .i64 0, .string ⟨#[]⟩, .string ⟨#[]⟩, .slice none 0 0] 185))
    have HZ := Lib.hid (Cel.lit w #[.int .i64 0, .int .i64 0, .int .i64 0, .string ⟨#[]⟩, .string ⟨#[]⟩, .slice none 0 0] 185)
    have HC1 := Lib.hid hc1
    have HPP := Lib.hid HP
    have HE := Lib.hid hE
    have HB := Lib.hid hb
    clear hrow hp hc1 h HP hE hb
    go_enter Tryz.func154, Tryz.ntmps154
    go_wp2_with fail
    refine HC1.out.mono ?_
    rintro e w1 ⟨⟨y, rfl, hat⟩, hpa, hgr⟩
    have HG : Hid (w.grownBy w1 (some q)) := grown_trans (grown_alloc _ _ _) hgr
    have HP1 := Lib.hid (hpa.alloc (.cells #[.int .i64 y.op, .int .i64 y.kind, .int .i64 y.num, .string y.txt, .string y.name, .slice y.A y.n y.c] 185))
    have hb1 : Below W.heap.size W (w1.alloc (.cells #[.int .i64 y.op, .int .i64 y.kind, .int .i64 y.num, .string y.txt, .string y.name, .slice y.A y.n y.c] 185)) :=
      (HB.out.grown HG.out HB.out.size (fun k hk => by obtain rfl := Option.some.inj hk; exact hWq)).alloc (Nat.le_trans HB.out.size HG.out.size) _
    have HB1 := Lib.hid hb1
    have HO := Lib.hid (cop_any HE.out hb1 HP1.out a b hab hb18)
    have HY := Lib.hid (Cel.lit w1 #[.int .i64 y.op, .int .i64 y.kind, .int .i64 y.num, .string y.txt, .string y.name, .slice y.A y.n y.c] 185)
    have HZ1 := Lib.hid ((HZ.out.kept hgr (by intro e; have := Option.some.inj e; omega)).alloc (.cells #[.int .i64 y.op, .int .i64 y.kind, .int .i64 y.num, .string y.txt, .string y.name, .slice y.A y.n y.c] 185))
    have HAT := Lib.hid ((hat.mono (N' := fun c => w.heap.size < c ∧ c ≠ w1.heap.size) (fun c hc hl => ⟨by simp at hc; omega, by omega⟩)).alloc (.cells #[.int .i64 y.op, .int .i64 y.kind, .int .i64 y.num, .string y.txt, .string y.name, .slice y.A y.n y.c] 185))
    have hw1 : w.heap.size < w1.heap.size := by have := hgr.size; simp at this; omega
    clear hat hpa hgr hb1 HC1
    unfold Ex.val
    go_wp2_with fail
    refine HO.out.mono ?_
    rintro e w' ⟨rfl, n, rfl⟩
    go_wp2_with fail
    go_loopg [10] 60 (fun f i wr => ∃ e st y, i = .int .i64 (Co.op s.data.toList st a b : Int) ∧ Hid (Co.row s.data.toList part a b f e st = some (eF, stF)) ∧ Hid (Cel wr w1.heap.size (Ex.list y)) ∧
      Hid (At wr (fun c => w.heap.size < c ∧ c ≠ w1.heap.size) e y) ∧ Hid (PaC E wr q s st d) ∧ Hid (Cel wr w.heap.size Ex.zero.list) ∧ Hid (w.grownBy wr (some q)))
    case atStart =>
      refine ⟨e0, st1, y, rfl, HR, HY.out.drewN n, ?_, HP1.out.drewN n, HZ1.out.drewN n, ?_⟩
      · exact HAT.out.below (below_drewN (Below.refl _ _) n) (Nat.le_refl _)
      · exact grown_of (grown_trans HG.out (grown_alloc _ _ _)) (below_drewN (Below.refl _ _) n) (Nat.le_refl _)
    case round =>
      obtain ⟨e, st, y, rfl, HR, HY, HAT, HP1, HZ, HG⟩ := hrel
      by_cases h0 : Co.op s.data.toList st a b = 0
      · have h0I : (Co.op s.data.toList st a b : Int) = 0 := by rw [h0]; rfl
        obtain ⟨⟨y0, y1, y2, y3, y4, y5⟩, _⟩ := HY.out.six_of
        obtain ⟨⟨z0, z1, z2, z3, z4, z5⟩, g0, g1, g2, g3, g4, g5⟩ := HZ.out.six_of
        rw [h0I]
        have H0 := Lib.hid h0
        clear h0 h0I
        go_wp2
        have hF : some (e, st) = some (eF, stF) := by
          have := HR.out
          cases gk with
          | zero => cases this
          | succ f => rw [Co.row, if_pos H0.out] at this; exact this
        obtain ⟨rfl, rfl⟩ : e = eF ∧ st = stF := by cases hF; exact ⟨rfl, rfl⟩
        have hfin := Cel.six HZ.out y
        have hAF : At (set6 wr w.heap.size y) (fun b => w.heap.size ≤ b) e y := At.kept (set6_grown _ _ _) (fun c hc _ => ⟨fun e => by have := Option.some.inj e; omega, by omega⟩) HAT.out
        have hPF := HP1.out.other (set6_grown wr w.heap.size y) (by omega) HZ.out.int1
        have hGF := grown_past HG.out (set6_grown wr w.heap.size y) (Nat.le_refl _)
        show bodyPost _ _ _ _ _ (set6 wr w.heap.size y)
        generalize set6 wr w.heap.size y = wf at *
        obtain ⟨⟨k0, k1, k2, k3, k4, k5⟩, _⟩ := hfin.six_of
        refine bodyPost_ret (v := y.val) (by simp [results, Tryz.results154, go_sem, k0, k1, k2, k3, k4, k5, Ex.val]) rfl ⟨⟨y, rfl, hAF⟩, hPF, hGF⟩
      · have h0I : ((Co.op s.data.toList st a b : Int) == 0) = false := by rw [beq_eq_false_iff_ne]; omega
        cases gk with
        | zero => cases HR.out
        | succ f =>
          have hR := HR.out
          rw [Co.row, if_neg h0] at hR
          cases hp : part (Co.next s.data.toList st) with
          | none => rw [hp] at hR; cases hR
          | some r =>
            obtain ⟨e2, st2⟩ := r
            rw [hp] at hR
            have HR2 : Hid (Co.row s.data.toList part a b f (.two (Co.op s.data.toList st a b) e e2) st2 = some (eF, stF)) := hR
            have HNX := Lib.hid (cnext_any HP1.out)
            have HPP2 := Lib.hid (HPP.out _ _ _ hp)
            clear hp hR HR
            generalize Co.op s.data.toList st a b = o at *
            go_wp2_with fail
            refine HNX.out.mono ?_
            rintro x wn ⟨rfl, hpn, hgn⟩
            have HGN := Lib.hid hgn
            have hbn : Below W.heap.size W wn := HB.out.grown (grown_trans HG.out hgn) HB.out.size (fun k hk => by obtain rfl := Option.some.inj hk; exact hWq)
            have HP2 := Lib.hid (HPP2.out wn hbn hpn)
            have HBN := Lib.hid hbn
            clear hpn hgn hbn
            go_wp2_with fail
            refine HP2.out.mono ?_
            rintro x w2 ⟨⟨y2, rfl, hat2⟩, hpa2, hgr2⟩
            have hg2 : wr.grownBy w2 (some q) := grown_trans HGN.out hgr2
            have hqb : q ≠ w1.heap.size := by omega
            have hY2 := HY.out.kept hg2 (by intro e; have := Option.some.inj e; omega)
            have HY2 := Lib.hid hY2
            have HZ2 := Lib.hid (HZ.out.kept hg2 (by intro e; have := Option.some.inj e; omega))
            have hlt2 : w1.heap.size < wn.heap.size := Nat.lt_of_lt_of_le HY.out.lt HGN.out.size
            have HAT2 : Hid (At w2 (fun c => w.heap.size < c ∧ c ≠ w1.heap.size) e y) := At.kept hg2 (fun c hc _ => ⟨fun e => by have := Option.some.inj e; omega, hc⟩) HAT.out
            have HAT3 : Hid (At w2 (fun c => w.heap.size < c ∧ c ≠ w1.heap.size) e2 y2) := hat2.mono (fun c hc _ => by omega)
            have HPA2 := Lib.hid hpa2
            have HG2 := Lib.hid (grown_trans HG.out hg2)
            obtain ⟨⟨y0, y1, y2', y3, y4, y5⟩, g0, g1, g2, g3, g4, g5⟩ := hY2.six_of
            have hlt3 : w1.heap.size < w2.heap.size := hY2.lt
            clear hat2 hpa2 hgr2 hg2 hY2 HP2 HPP2 HNX HY HZ HAT
            unfold Ex.val
            go_wp2_with fail
            obtain ⟨w3, hw3⟩ : ∃ w3, w3 = set6 w2 w1.heap.size ⟨(o : Int), 0, 0, ⟨#[]⟩, ⟨#[]⟩, some ⟨w2.heap.size + 1, 0, none⟩, 2, 2⟩ := ⟨_, rfl⟩
            have hg3 : w2.grownBy w3 (some w1.heap.size) := hw3 ▸ set6_grown _ _ _
            have hs3 : w3.heap.size = w2.heap.size := by rw [hw3]; simp [set6]
            have hp3 : PaC E w3 q s st2 d := HPA2.out.other hg3 (by omega) HY2.out.int1
            have hy3 : Cel w3 w1.heap.size (Ex.list ⟨(o : Int), 0, 0, ⟨#[]⟩, ⟨#[]⟩, some ⟨w2.heap.size + 1, 0, none⟩, 2, 2⟩) := hw3 ▸ HY2.out.six _
            have hz3 : Cel w3 w.heap.size Ex.zero.list := HZ2.out.kept hg3 (by intro e; have := Option.some.inj e; omega)
            have ha3 : At w3 (fun c => w.heap.size < c ∧ c ≠ w1.heap.size) e y := At.kept hg3 (fun c hc _ => ⟨fun e => by have := Option.some.inj e; omega, hc⟩) HAT2.out
            have hb3 : At w3 (fun c => w.heap.size < c ∧ c ≠ w1.heap.size) e2 y2 := At.kept hg3 (fun c hc _ => ⟨fun e => by have := Option.some.inj e; omega, hc⟩) HAT3.out
            have hgg : w.grownBy w3 (some q) := grown_past HG2.out hg3 (by omega)
            show Calls _ _ _ (((set6 w2 w1.heap.size ⟨(o : Int), 0, 0, ⟨#[]⟩, ⟨#[]⟩, some ⟨w2.heap.size + 1, 0, none⟩, 2, 2⟩).alloc (.cells #[.int .i64 y2.op, .int .i64 y2.kind, .int .i64 y2.num, .string y2.txt, .string y2.name, .slice y2.A y2.n y2.c] 185)).alloc (.cells #[.int .i64 y.op, .int .i64 y.kind, .int .i64 y.num, .string y.txt, .string y.name, .slice y.A y.n y.c, .int .i64 y2.op, .int .i64 y2.kind, .int .i64 y2.num, .string y2.txt, .string y2.name, .slice y2.A y2.n y2.c] 185)) _
            rw [← hw3]
            obtain ⟨w4, hw4⟩ : ∃ w4, w4 = w3.alloc (.cells #[.int .i64 y2.op, .int .i64 y2.kind, .int .i64 y2.num, .string y2.txt, .string y2.name, .slice y2.A y2.n y2.c] 185) := ⟨_, rfl⟩
            rw [← hw4]
            have hs4 : w4.heap.size = w2.heap.size + 1 := by rw [hw4]; simp [hs3]
            have hlow : w3.grownBy w4 none := hw4 ▸ grown_alloc _ _ _
            obtain ⟨w5, hw5⟩ : ∃ w5, w5 = w4.alloc (.cells #[.int .i64 y.op, .int .i64 y.kind, .int .i64 y.num, .string y.txt, .string y.name, .slice y.A y.n y.c, .int .i64 y2.op, .int .i64 y2.kind, .int .i64 y2.num, .string y2.txt, .string y2.name, .slice y2.A y2.n y2.c] 185) := ⟨_, rfl⟩
            have hh5 : w5.heap[w2.heap.size + 1]? = some (.cells #[.int .i64 y.op, .int .i64 y.kind, .int .i64 y.num, .string y.txt, .string y.name, .slice y.A y.n y.c, .int .i64 y2.op, .int .i64 y2.kind, .int .i64 y2.num, .string y2.txt, .string y2.name, .slice y2.A y2.n y2.c] 185 (0, 0)) := by
              rw [hw5, ← hs4]; exact heap_alloc_new _ _
            rw [← hw5]
            have hb35 : Below w3.heap.size w3 w5 := by rw [hw5, hw4]; exact ((Below.refl _ _).alloc (Nat.le_refl _) _).alloc (by simp) _
            have HP5 := Lib.hid (hp3.below hb35 (Nat.le_refl _))
            have HY5 := Lib.hid (hy3.below hb35 (Nat.le_refl _))
            have HZ5 := Lib.hid (hz3.below hb35 (Nat.le_refl _))
            have HG5 := Lib.hid (grown_of hgg hb35 (Nat.le_refl _))
            have HA5 : Hid (At w5 (fun c => w.heap.size < c ∧ c ≠ w1.heap.size) (.two o e e2) ⟨(o : Int), 0, 0, ⟨#[]⟩, ⟨#[]⟩, some ⟨w2.heap.size + 1, 0, none⟩, 2, 2⟩) :=
              ⟨w2.heap.size + 1, y, y2, rfl, ⟨by omega, by omega⟩, hh5, ha3.below hb35 (Nat.le_refl _), hb3.below hb35 (Nat.le_refl _)⟩
            have hbW : Below W.heap.size W w5 := HB.out.grown HG5.out HB.out.size (fun k hk => by obtain rfl := Option.some.inj hk; exact hWq)
            have HO5 := Lib.hid (cop_any HE.out hbW HP5.out a b hab hb18)
            clear hw3 hg3 hs3 hp3 hy3 hz3 ha3 hb3 hgg hw4 hs4 hlow hw5 hh5 hb35 hbW
            refine HO5.out.mono ?_
            rintro x w' ⟨rfl, n', rfl⟩
            go_wp2_with fail
            go_roundg f
            case measure => omega
            case rel =>
              exact ⟨_, _, _, rfl, HR2.out, HY5.out.drewN _, HA5.out.below (below_drewN (Below.refl _ _) _) (Nat.le_refl _), HP5.out.drewN _, HZ5.out.drewN _, grown_of HG5.out (below_drewN (Below.refl _ _) _) (Nat.le_refl _)⟩
end
end Go.Proofs.YtkffnfgdmcebdaaGreatDoor
