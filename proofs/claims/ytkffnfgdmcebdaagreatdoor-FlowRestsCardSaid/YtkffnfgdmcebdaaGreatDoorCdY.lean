/- Walks of package cond: a part one deeper. -/
import Derived.Test.YtkffnfgdmcebdaaGreatDoorCrY
namespace Go.Proofs.YtkffnfgdmcebdaaGreatDoor
open Go.RowKit

section
variable {E : Int → Option Addr} {W w w' : World} {q d : Nat} {s : ByteArray} {st : Co.St}
theorem PaC.deep (h : PaC E w q s st d) (d' : Nat) (v : Int) (hv : v = d') : PaC E (w.setCell ⟨q, 4, none⟩ (.int .i64 v)) q s st d' := by
  subst hv
  obtain ⟨ev, hc, he⟩ := h.ex
  exact ⟨⟨ev, hc.set (i := 4) (by simp) _, he.kept (grown_setCell w ⟨q, 4, none⟩ _) ⟨_, _, hc.cell 1 _ rfl⟩⟩, h.ord, h.top, h.size⟩
theorem At.zero (w : World) (N : Nat → Prop) : At w N Co.Tr.none Ex.zero := rfl
theorem Co.deeper_stop {l : List UInt8} {part : Nat → Co.St → Co.Out} : Co.deeper l part 12 st = some (.none, Co.fail 112 st) := if_pos rfl
theorem Co.deeper_go {l : List UInt8} {part : Nat → Co.St → Co.Out} (h : d ≠ 12) : Co.deeper l part d st = part (d + 1) (Co.next l st) := if_neg h

set_option maxHeartbeats 3200000 in
theorem cdeep_any (hE : CoErrs W E) (hWq : W.heap.size ≤ q) (g : Nat) (eg : ∀ args w, (callFunc g args).run Tryz.prog w = .ok (.enter g args) w) (part : Nat → Co.St → Co.Out) (hd : d ≤ 12) (HP : d ≠ 12 → PartC E W q s g (d + 1) (part (d + 1)))
    (st : Co.St) (eF : Co.Tr) (stF : Co.St) (hrow : Co.deeper s.data.toList part d st = some (eF, stF)) (w : World) (hb : Below W.heap.size W w) (h : PaC E w q s st d) :
    Calls Tryz.prog 181 #[.pointer (some ⟨q, 0, none⟩), .func (.func g) #[.pointer (some ⟨q, 0, none⟩)] #[]] w
      fun x w' => (∃ y, x = .returned (Ex.val y) ∧ At w' (fun b => w.heap.size ≤ b) eF y) ∧ PaC E w' q s stF d ∧ w.grownBy w' (some q) := by
  have hlt := h.lt
  obtain ⟨ev, ⟨c0, c1, c2, c3, c4, c5⟩, he⟩ := h.cells
  have f4 := h.froz (i := 4) (by decide)
  by_cases h12 : d = 12
  · subst h12
    rw [Co.deeper_stop] at hrow
    obtain ⟨rfl, rfl⟩ : Co.Tr.none = eF ∧ Co.fail 112 st = stF := by cases hrow; exact ⟨rfl, rfl⟩
    obtain ⟨a, hka, hg⟩ := (hE.below hb).e112
    have HF := Lib.hid (cfail_any (h.alloc (.cells #[.int .i64 0, .int .i64 0, .int .i64 0, .string ⟨#[]⟩, .string ⟨#[]⟩, .slice none 0 0] 185)) 112 a hka (by decide))
    have HZ := Lib.hid (Cel.lit w #[.int .i64 0, .int .i64 0, .int .i64 0, .string ⟨#[]⟩, .string ⟨#[]⟩, .slice none 0 0] 185)
    have hgl := cell_lt hg
    unfold errV at hg HF
    have c4' : w.cell? ⟨q, 4, none⟩ = some (.int .i64 12) := c4
    clear c0 c1 c2 c3 c4 c5 he h HP hrow hE hb hka
    go_enter Tryz.func181, Tryz.ntmps181
    go_wp2_with fail
    refine HF.out.mono ?_
    rintro x w1 ⟨rfl, hp1, hg1⟩
    have hz1 := HZ.out.kept hg1 (by intro e; have := Option.some.inj e; omega)
    have HZ1 : Hid (Cel w1 w.heap.size Ex.zero.list) := hz1
    have HP1 := Lib.hid hp1
    have HG1 : Hid (w.grownBy w1 (some q)) := grown_trans (grown_alloc _ _ _) hg1
    obtain ⟨⟨z0, z1, z2, z3, z4, z5⟩, g0, g1, g2, g3, g4, g5⟩ := HZ1.out.six_of
    clear hz1 hp1 hg1 HZ HF
    go_wp2
    show bodyPost _ _ _ _ _ (set6 w1 w.heap.size Ex.zero)
    have hfin := Cel.six HZ1.out Ex.zero
    have hPF := HP1.out.other (set6_grown w1 w.heap.size Ex.zero) (by omega) HZ1.out.int1
    have hGF := grown_past HG1.out (set6_grown w1 w.heap.size Ex.zero) (Nat.le_refl _)
    generalize set6 w1 w.heap.size Ex.zero = wf at *
    obtain ⟨⟨k0, k1, k2, k3, k4, k5⟩, _⟩ := hfin.six_of
    refine bodyPost_ret (v := Ex.zero.val) (by simp [results, Tryz.results181, go_sem, k0, k1, k2, k3, k4, k5, Ex.val]) rfl ⟨⟨Ex.zero, rfl, At.zero _ _⟩, hPF, hGF⟩
  · rw [Co.deeper_go h12] at hrow
    have hne : ((d : Int) == 12) = false := by rw [beq_eq_false_iff_ne]; omega
    have hwA := (h.deep (d + 1) ((d : Int) + 1) (by omega)).alloc (.cells #[.int .i64 0, .int .i64 0, .int .i64 0, .string ⟨#[]⟩, .string ⟨#[]⟩, .slice none 0 0] 185)
    have hbA : Below W.heap.size W ((w.setCell ⟨q, 4, none⟩ (.int .i64 ((d : Int) + 1))).alloc (.cells #[.int .i64 0, .int .i64 0, .int .i64 0, .string ⟨#[]⟩, .string ⟨#[]⟩, .slice none 0 0] 185)) :=
      (hb.setCell hWq _).alloc (by simpa using hb.size) _
    have hgA : w.grownBy ((w.setCell ⟨q, 4, none⟩ (.int .i64 ((d : Int) + 1))).alloc (.cells #[.int .i64 0, .int .i64 0, .int .i64 0, .string ⟨#[]⟩, .string ⟨#[]⟩, .slice none 0 0] 185)) (some q) :=
      grown_trans (grown_setCell _ ⟨q, 4, none⟩ _) (grown_alloc _ _ _)
    have hzA := Cel.lit (w.setCell ⟨q, 4, none⟩ (.int .i64 ((d : Int) + 1))) #[.int .i64 0, .int .i64 0, .int .i64 0, .string ⟨#[]⟩, .string ⟨#[]⟩, .slice none 0 0] 185
    have HZ : Hid (Cel ((w.setCell ⟨q, 4, none⟩ (.int .i64 ((d : Int) + 1))).alloc (.cells #[.int .i64 0, .int .i64 0, .int .i64 0, .string ⟨#[]⟩, .string ⟨#[]⟩, .slice none 0 0] 185)) w.heap.size Ex.zero.list) := by
      have hs : (w.setCell ⟨q, 4, none⟩ (.int .i64 ((d : Int) + 1))).heap.size = w.heap.size := by simp
      rw [hs] at hzA
      exact hzA
    have HNX := Lib.hid (cnext_any hwA)
    have HPP := Lib.hid (HP h12 _ _ _ hrow)
    have HGA := Lib.hid hgA
    have HBA := Lib.hid hbA
    have hw1 : wrap64 ((d : Int) + 1) = (d : Int) + 1 := by unfold wrap64; omega
    have H12 := Lib.hid h12
    clear c0 c1 c2 c3 c5 he h HP hrow hE hwA hgA hbA hzA h12 hw1
    go_enter Tryz.func181, Tryz.ntmps181
    go_wp2_with fail
    refine HNX.out.mono ?_
    rintro x w1 ⟨rfl, hp1, hg1⟩
    have hb1 : Below W.heap.size W w1 := HBA.out.grown hg1 HBA.out.size (fun k hk => by obtain rfl := Option.some.inj hk; exact hWq)
    have HP2 := Lib.hid (HPP.out w1 hb1 hp1)
    have HZ1 : Hid (Cel w1 w.heap.size Ex.zero.list) := HZ.out.kept hg1 (by intro e; have := Option.some.inj e; omega)
    have HG1 : Hid (w.grownBy w1 (some q)) := grown_trans HGA.out hg1
    clear hp1 hg1 hb1 HZ HGA HNX HPP
    go_wp2_with fail
    refine HP2.out.mono ?_
    rintro x w2 ⟨⟨y, rfl, hat⟩, hp2, hg2⟩
    obtain ⟨_, ⟨_, _, _, _, e4, _⟩, _⟩ := hp2.cells
    have f4' := hp2.froz (i := 4) (by decide)
    have HZ2 : Hid (Cel w2 w.heap.size Ex.zero.list) := HZ1.out.kept hg2 (by intro e; have := Option.some.inj e; omega)
    have HG2 : Hid (w.grownBy w2 (some q)) := grown_trans HG1.out hg2
    have hlt1 : w.heap.size < w1.heap.size := HZ1.out.lt
    have HAT := Lib.hid hat
    have HPA := Lib.hid hp2
    obtain ⟨⟨z0, z1, z2, z3, z4, z5⟩, g0, g1, g2, g3, g4, g5⟩ := HZ2.out.six_of
    have hlt2 : w.heap.size < w2.heap.size := HZ2.out.lt
    have hltq : q < w2.heap.size := HPA.out.lt
    have hsub : ((d + 1 : Nat) : Int) = (d : Int) + 1 := by omega
    rw [hsub] at e4
    clear hat hp2 hg2 HZ1 HG1 HP2 hsub
    unfold Ex.val
    go_wp2
    obtain ⟨w3, hw3⟩ : ∃ w3, w3 = w2.setCell ⟨q, 4, none⟩ (.int .i64 (d : Int)) := ⟨_, rfl⟩
    have hg3 : w2.grownBy w3 (some q) := hw3 ▸ grown_setCell _ ⟨q, 4, none⟩ _
    have hp3 : PaC E w3 q s stF d := hw3 ▸ HPA.out.deep d _ rfl
    have hz3 : Cel w3 w.heap.size Ex.zero.list := HZ2.out.kept hg3 (by intro e; have := Option.some.inj e; omega)
    have ha3 : At w3 (fun b => w.heap.size < b) eF y := At.kept hg3 (fun c hc _ => ⟨fun e => by have := Option.some.inj e; omega, by omega⟩) HAT.out
    have hG3 := grown_trans HG2.out hg3
    show bodyPost _ _ _ _ _ ((set6 (w2.setCell ⟨q, 4, none⟩ (.int .i64 (d : Int))) w.heap.size y).alloc (.cells #[.int .i64 y.op, .int .i64 y.kind, .int .i64 y.num, .string y.txt, .string y.name, .slice y.A y.n y.c] 185))
    rw [← hw3]
    have hg4 := set6_grown w3 w.heap.size y
    have hfin := (hz3.six y).alloc (.cells #[.int .i64 y.op, .int .i64 y.kind, .int .i64 y.num, .string y.txt, .string y.name, .slice y.A y.n y.c] 185)
    have hPF := (hp3.other hg4 (by omega) hz3.int1).alloc (.cells #[.int .i64 y.op, .int .i64 y.kind, .int .i64 y.num, .string y.txt, .string y.name, .slice y.A y.n y.c] 185)
    have hAF : At _ (fun b => w.heap.size ≤ b) eF y := (At.kept (N' := fun b => w.heap.size ≤ b) hg4 (fun c hc _ => ⟨fun e => by have := Option.some.inj e; omega, by omega⟩) ha3).alloc (.cells #[.int .i64 y.op, .int .i64 y.kind, .int .i64 y.num, .string y.txt, .string y.name, .slice y.A y.n y.c] 185)
    have hGF := grown_trans (grown_past hG3 hg4 (Nat.le_refl _)) (grown_alloc _ (.cells #[.int .i64 y.op, .int .i64 y.kind, .int .i64 y.num, .string y.txt, .string y.name, .slice y.A y.n y.c] 185) _)
    generalize (set6 w3 w.heap.size y).alloc _ = wf at *
    obtain ⟨⟨k0, k1, k2, k3, k4, k5⟩, _⟩ := hfin.six_of
    exact bodyPost_ret (v := y.val) (by simp [results, Tryz.results181, go_sem, k0, k1, k2, k3, k4, k5, Ex.val]) rfl ⟨⟨y, rfl, hAF⟩, hPF, hGF⟩
end
end Go.Proofs.YtkffnfgdmcebdaaGreatDoor
