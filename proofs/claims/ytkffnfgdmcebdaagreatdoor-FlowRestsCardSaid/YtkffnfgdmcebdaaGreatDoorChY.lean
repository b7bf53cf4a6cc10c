/- Walks of package cond: what is compared. -/
import Derived.Test.YtkffnfgdmcebdaaGreatDoorYJoint2
namespace Go.Proofs.YtkffnfgdmcebdaaGreatDoor
open Go.RowKit

section
variable {E : Int → Option Addr} {W w w1 : World} {q d : Nat} {s : ByteArray} {st : Co.St} {e : Co.Tr} {y : Ex}
theorem close6b {cs1 cs : Array Value} {t : TypeId} (hz : Cel w1 w.heap.size Ex.zero.list) (hp : PaC E w1 q s st d) (hg : w.grownBy w1 (some q)) (hq : q < w.heap.size)
    (ha : ∀ wf, w1.grownBy wf (some w.heap.size) → wf.heap[w1.heap.size + 1]? = some (.cells cs t (0, 0)) → At wf (fun b => w.heap.size ≤ b) e y) :
    Cel (((set6 w1 w.heap.size y).alloc (.cells cs1 t)).alloc (.cells cs t)) w.heap.size y.list ∧ ((∃ y', Ending.returned y.val = .returned (Ex.val y') ∧ At (((set6 w1 w.heap.size y).alloc (.cells cs1 t)).alloc (.cells cs t)) (fun b => w.heap.size ≤ b) e y') ∧
      PaC E (((set6 w1 w.heap.size y).alloc (.cells cs1 t)).alloc (.cells cs t)) q s st d ∧ w.grownBy (((set6 w1 w.heap.size y).alloc (.cells cs1 t)).alloc (.cells cs t)) (some q)) := by
  have hg4 := set6_grown w1 w.heap.size y
  have hs : ((set6 w1 w.heap.size y).alloc (.cells cs1 t)).heap.size = w1.heap.size + 1 := by simp [set6]
  have hh := heap_alloc_new ((set6 w1 w.heap.size y).alloc (.cells cs1 t)) (.cells cs t)
  rw [hs] at hh
  exact ⟨((hz.six y).alloc _).alloc _, ⟨y, rfl, ha _ (grown_trans (grown_trans hg4 (grown_alloc _ _ _)) (grown_alloc _ _ _)) hh⟩, ((hp.other hg4 (by omega) hz.int1).alloc _).alloc _,
    grown_trans (grown_trans (grown_past hg hg4 (Nat.le_refl _)) (grown_alloc _ _ _)) (grown_alloc _ _ _)⟩
set_option maxHeartbeats 3200000 in
theorem ccomp_any (hE : CoErrs W E) (hWq : W.heap.size ≤ q) (part : Co.St → Co.Out) (HP : PartC E W q s 196 d part) : PartC E W q s 180 d (Co.compared s.data.toList part) := by
    intro st eF stF hrow w hb h
    have hlt := h.lt
    have h1 := h.alloc (.cells #[.int .i64 0, .int .i64 0, .int .i64 0, .string ⟨#[]⟩, .string ⟨#[]⟩, .slice none 0 0] 185)
    have hb1 : Below W.heap.size W (w.alloc (.cells #[.int .i64 0, .int .i64 0, .int .i64 0, .string ⟨#[]⟩, .string ⟨#[]⟩, .slice none 0 0] 185)) := hb.alloc hb.size _
    have HZ := Lib.hid (Cel.lit w #[.int .i64 0, .int .i64 0, .int .i64 0, .string ⟨#[]⟩, .string ⟨#[]⟩, .slice none 0 0] 185)
    unfold Co.compared at hrow
    cases hp : part st with
    | none => rw [hp] at hrow; cases hrow
    | some r =>
      obtain ⟨e1, st1⟩ := r
      rw [hp] at hrow
      have HR := Lib.hid hrow
      have HD := Lib.hid (HP _ _ _ hp _ hb1 h1)
      have HPP := Lib.hid HP
      have HE := Lib.hid hE
      have HB1 := Lib.hid hb1
      clear hrow h HP hE h1 hb1 hp hb
      go_enter Tryz.func180, Tryz.ntmps180
      go_wp2_with fail
      refine HD.out.mono ?_
      rintro x w1 ⟨⟨y, rfl, hat⟩, hp1, hg1⟩
      have hHZ1 : Cel w1 w.heap.size Ex.zero.list := HZ.out.kept hg1 (by intro e; have := Option.some.inj e; omega)
      have hl1 : w.heap.size < w1.heap.size := hHZ1.lt
      have HZ2 := Lib.hid (hHZ1.alloc (.cells #[.int .i64 y.op, .int .i64 y.kind, .int .i64 y.num, .string y.txt, .string y.name, .slice y.A y.n y.c] 185))
      have HY2 : Hid (Cel (w1.alloc (.cells #[.int .i64 y.op, .int .i64 y.kind, .int .i64 y.num, .string y.txt, .string y.name, .slice y.A y.n y.c] 185)) w1.heap.size y.list) := Cel.lit w1 #[.int .i64 y.op, .int .i64 y.kind, .int .i64 y.num, .string y.txt, .string y.name, .slice y.A y.n y.c] 185
      have HAT2 : Hid (At (w1.alloc (.cells #[.int .i64 y.op, .int .i64 y.kind, .int .i64 y.num, .string y.txt, .string y.name, .slice y.A y.n y.c] 185)) (fun b => w.heap.size < b) e1 y) := (hat.mono (fun c hc _ => by simp at hc; omega)).alloc _
      have hp2 := hp1.alloc (.cells #[.int .i64 y.op, .int .i64 y.kind, .int .i64 y.num, .string y.txt, .string y.name, .slice y.A y.n y.c] 185)
      have HG2 : Hid (w.grownBy (w1.alloc (.cells #[.int .i64 y.op, .int .i64 y.kind, .int .i64 y.num, .string y.txt, .string y.name, .slice y.A y.n y.c] 185)) (some q)) := grown_trans (grown_trans (grown_alloc _ _ _) hg1) (grown_alloc _ _ _)
      have hb2 : Below W.heap.size W (w1.alloc (.cells #[.int .i64 y.op, .int .i64 y.kind, .int .i64 y.num, .string y.txt, .string y.name, .slice y.A y.n y.c] 185)) := (HB1.out.grown hg1 HB1.out.size (fun k hk => by obtain rfl := Option.some.inj hk; exact hWq)).alloc (Nat.le_trans HB1.out.size hg1.size) _
      have HO := Lib.hid (cop_any HE.out hb2 hp2 6 11 (by decide) (by decide))
      have HB2 := Lib.hid hb2
      have HP2 := Lib.hid hp2
      clear hat hp1 hg1 hHZ1 hp2 hb2 HZ HD
      unfold Ex.val
      by_cases h0 : Co.op s.data.toList st1 6 11 = 0
      · have hF : some (e1, st1) = some (eF, stF) := by
          have := HR.out
          rw [if_pos h0] at this; exact this
        obtain ⟨rfl, rfl⟩ : e1 = eF ∧ st1 = stF := by cases hF; exact ⟨rfl, rfl⟩
        rw [h0] at HO
        clear h0 hF HR
        go_wp2_with fail
        refine HO.out.mono ?_
        rintro x w' ⟨rfl, n, rfl⟩
        have HZ3 := Lib.hid (HZ2.out.drewN n)
        have HY3 := Lib.hid (HY2.out.drewN n)
        have HAT3 := Lib.hid (HAT2.out.below (below_drewN (Below.refl _ _) n) (Nat.le_refl _))
        have HG3 := Lib.hid (grown_of HG2.out (below_drewN (Below.refl _ _) n) (Nat.le_refl _))
        have HP3 := Lib.hid (HP2.out.drewN n)
        obtain ⟨⟨y0, y1, y2, y3, y4, y5⟩, _⟩ := HY3.out.six_of
        obtain ⟨⟨z0, z1, z2, z3, z4, z5⟩, g0, g1, g2, g3, g4, g5⟩ := HZ3.out.six_of
        generalize ((w1.alloc (.cells #[.int .i64 y.op, .int .i64 y.kind, .int .i64 y.num, .string y.txt, .string y.name, .slice y.A y.n y.c] 185)).drewN n) = w3 at *
        go_wp2
        show bodyPost _ _ _ _ _ (set6 w3 w.heap.size y)
        obtain ⟨hfin, hpost⟩ := close6 HZ3.out HAT3.out HP3.out HG3.out hlt
        generalize set6 w3 w.heap.size y = wf at *
        obtain ⟨⟨k0, k1, k2, k3, k4, k5⟩, _⟩ := hfin.six_of
        exact bodyPost_ret (v := y.val) (by simp [results, Tryz.results180, go_sem, k0, k1, k2, k3, k4, k5, Ex.val]) rfl hpost
      · have hR := HR.out
        rw [if_neg h0] at hR
        cases hp : part (Co.next s.data.toList st1) with
        | none => rw [hp] at hR; cases hR
        | some r =>
          obtain ⟨e2, st2⟩ := r
          rw [hp] at hR
          obtain ⟨rfl, rfl⟩ : Co.Tr.two (Co.op s.data.toList st1 6 11) e1 e2 = eF ∧ st2 = stF := by cases hR; exact ⟨rfl, rfl⟩
          have h0I : ((Co.op s.data.toList st1 6 11 : Int) == 0) = false := by rw [beq_eq_false_iff_ne]; omega
          have HP4 := Lib.hid (HPP.out _ _ _ hp)
          have HN := fun n : Nat => Lib.hid (cnext_any (HP2.out.drewN n))
          have HNN := Lib.hid HN
          clear HN hR hp HR h0
          obtain ⟨oo, hoo⟩ : ∃ oo, oo = Co.op s.data.toList st1 6 11 := ⟨_, rfl⟩
          rw [← hoo] at h0I HO
          have HOO := Lib.hid hoo
          clear hoo
          go_wp2_with fail
          refine HO.out.mono ?_
          rintro x w' ⟨rfl, n, rfl⟩
          go_wp2_with fail
          refine (HNN.out n).out.mono ?_
          rintro x w3 ⟨rfl, hp3, hg3⟩
          have hg23 := grown_trans (grown_of (World.grownBy.refl _ (some q)) (below_drewN (Below.refl (w1.alloc (.cells #[.int .i64 y.op, .int .i64 y.kind, .int .i64 y.num, .string y.txt, .string y.name, .slice y.A y.n y.c] 185)).heap.size _) n) (Nat.le_refl _)) hg3
          have HG23 := Lib.hid hg23
          have HPP4 := Lib.hid (HP4.out w3 (HB2.out.grown hg23 HB2.out.size (fun k hk => by obtain rfl := Option.some.inj hk; exact hWq)) hp3)
          have hs3 : w1.heap.size < w3.heap.size := by have := hg23.size; simp at this; omega
          clear hp3 hg3 hg23
          go_wp2_with fail
          refine HPP4.out.mono ?_
          rintro x w4 ⟨⟨y2, rfl, hat4⟩, hp4, hg4⟩
          have HG24 := Lib.hid (grown_trans HG23.out hg4)
          have HZ4 := Lib.hid (HZ2.out.kept HG24.out (by intro e; have := Option.some.inj e; omega))
          have HY4 := Lib.hid (HY2.out.kept HG24.out (by intro e; have := Option.some.inj e; omega))
          have HAT4 : Hid (At w4 (fun b => w.heap.size < b) e1 y) := At.kept HG24.out (fun c hc _ => ⟨fun e => by have := Option.some.inj e; omega, hc⟩) HAT2.out
          have HAT5 : Hid (At w4 (fun b => w.heap.size < b) e2 y2) := hat4.mono (fun c hc _ => by omega)
          have HG4 := Lib.hid (grown_trans HG2.out HG24.out)
          have HP4' := Lib.hid hp4
          obtain ⟨⟨y0, y1, y2', y3, y4, y5⟩, _⟩ := HY4.out.six_of
          obtain ⟨⟨z0, z1, z2, z3, z4, z5⟩, g0, g1, g2, g3, g4, g5⟩ := HZ4.out.six_of
          have hl4 : w1.heap.size < w4.heap.size := HY4.out.lt
          have hl0 : w.heap.size < w4.heap.size := HZ4.out.lt
          clear hat4 hp4 hg4
          unfold Ex.val
          go_wp2
          show bodyPost _ _ _ _ _ (((set6 w4 w.heap.size ⟨(oo : Int), 0, 0, ⟨#[]⟩, ⟨#[]⟩, some ⟨w4.heap.size + 1, 0, none⟩, 2, 2⟩).alloc (.cells #[.int .i64 y2.op, .int .i64 y2.kind, .int .i64 y2.num, .string y2.txt, .string y2.name, .slice y2.A y2.n y2.c] 185)).alloc (.cells #[.int .i64 y.op, .int .i64 y.kind, .int .i64 y.num, .string y.txt, .string y.name, .slice y.A y.n y.c, .int .i64 y2.op, .int .i64 y2.kind, .int .i64 y2.num, .string y2.txt, .string y2.name, .slice y2.A y2.n y2.c] 185))
          obtain ⟨hfin, hpost⟩ := close6b (e := .two (oo : Int) e1 e2) (y := ⟨(oo : Int), 0, 0, ⟨#[]⟩, ⟨#[]⟩, some ⟨w4.heap.size + 1, 0, none⟩, 2, 2⟩) (cs1 := #[.int .i64 y2.op, .int .i64 y2.kind, .int .i64 y2.num, .string y2.txt, .string y2.name, .slice y2.A y2.n y2.c]) (cs := #[.int .i64 y.op, .int .i64 y.kind, .int .i64 y.num, .string y.txt, .string y.name, .slice y.A y.n y.c, .int .i64 y2.op, .int .i64 y2.kind, .int .i64 y2.num, .string y2.txt, .string y2.name, .slice y2.A y2.n y2.c]) (t := 185) HZ4.out HP4'.out HG4.out hlt
            (fun wf hgf hh => ⟨w4.heap.size + 1, y, y2, rfl, by omega, hh, At.kept hgf (fun c hc _ => ⟨fun e => by have := Option.some.inj e; omega, by omega⟩) HAT4.out, At.kept hgf (fun c hc _ => ⟨fun e => by have := Option.some.inj e; omega, by omega⟩) HAT5.out⟩)
          generalize ((set6 w4 w.heap.size _).alloc _).alloc _ = wf at *
          obtain ⟨⟨k0, k1, k2, k3, k4, k5⟩, _⟩ := hfin.six_of
          obtain ⟨⟨y', hy', ha'⟩, hr'⟩ := hpost
          exact bodyPost_ret (v := Ex.val ⟨(oo : Int), 0, 0, ⟨#[]⟩, ⟨#[]⟩, some ⟨w4.heap.size + 1, 0, none⟩, 2, 2⟩) (by simp [results, Tryz.results180, go_sem, k0, k1, k2, k3, k4, k5, Ex.val]) rfl ⟨⟨y', hy', HOO.out ▸ ha'⟩, hr'⟩
end
end Go.Proofs.YtkffnfgdmcebdaaGreatDoor
