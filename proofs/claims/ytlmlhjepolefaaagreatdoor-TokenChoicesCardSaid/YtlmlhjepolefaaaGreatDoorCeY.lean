/- Walks of package cond: or, and, sums, products; not, a sign; what stands behind a sign; a bracket. -/
import Derived.Test.YtlmlhjepolefaaaGreatDoorCdY
namespace Go.Proofs.YtlmlhjepolefaaaGreatDoor
open Go.RowKit

section
variable {E : Int → Option Addr} {W w w1 : World} {q d : Nat} {s : ByteArray} {st : Co.St} {e : Co.Tr} {y : Ex}
theorem close6 (hz : Cel w1 w.heap.size Ex.zero.list) (ha : At w1 (fun b => w.heap.size < b) e y) (hp : PaC E w1 q s st d) (hg : w.grownBy w1 (some q)) (hq : q < w.heap.size) :
    Cel (set6 w1 w.heap.size y) w.heap.size y.list ∧ ((∃ y', Ending.returned y.val = .returned (Ex.val y') ∧ At (set6 w1 w.heap.size y) (fun b => w.heap.size ≤ b) e y') ∧ PaC E (set6 w1 w.heap.size y) q s st d ∧ w.grownBy (set6 w1 w.heap.size y) (some q)) := by
  have hg4 := set6_grown w1 w.heap.size y
  exact ⟨hz.six y, ⟨y, rfl, At.kept hg4 (fun c hc _ => ⟨fun e => by have := Option.some.inj e; omega, by omega⟩) ha⟩, hp.other hg4 (by omega) hz.int1, grown_past hg hg4 (Nat.le_refl _)⟩
/-- The same, where a slice's block was made behind it. -/
theorem close6a {cs : Array Value} {t : TypeId} (hz : Cel w1 w.heap.size Ex.zero.list) (hp : PaC E w1 q s st d) (hg : w.grownBy w1 (some q)) (hq : q < w.heap.size)
    (ha : ∀ wf, w1.grownBy wf (some w.heap.size) → wf.heap[w1.heap.size]? = some (.cells cs t (0, 0)) → At wf (fun b => w.heap.size ≤ b) e y) :
    Cel ((set6 w1 w.heap.size y).alloc (.cells cs t)) w.heap.size y.list ∧ ((∃ y', Ending.returned y.val = .returned (Ex.val y') ∧ At ((set6 w1 w.heap.size y).alloc (.cells cs t)) (fun b => w.heap.size ≤ b) e y') ∧
      PaC E ((set6 w1 w.heap.size y).alloc (.cells cs t)) q s st d ∧ w.grownBy ((set6 w1 w.heap.size y).alloc (.cells cs t)) (some q)) := by
  have hg4 := set6_grown w1 w.heap.size y
  have hs : (set6 w1 w.heap.size y).heap.size = w1.heap.size := by simp [set6]
  have hh := heap_alloc_new (set6 w1 w.heap.size y) (.cells cs t)
  rw [hs] at hh
  exact ⟨(hz.six y).alloc _, ⟨y, rfl, ha _ (grown_trans hg4 (grown_alloc _ _ _)) hh⟩, (hp.other hg4 (by omega) hz.int1).alloc _, grown_trans (grown_past hg hg4 (Nat.le_refl _)) (grown_alloc _ _ _)⟩
set_option maxHeartbeats 800000 in
theorem cor_any (hE : CoErrs W E) (hWq : W.heap.size ≤ q) (part : Co.St → Co.Out) (HP : PartC E W q s 76 d part) : PartC E W q s 67 d (Co.rowAll s.data.toList part 3 3) := by
    intro st eF stF hrow w hb h
    have hlt := h.lt
    have HR := Lib.hid (crow_any hE hWq 76 (enters_of Tryz.func76 (by kernel_rfl) rfl) part HP 3 3 (by decide) (by decide) st eF stF hrow _ (hb.alloc hb.size _) (h.alloc (.cells #[.int .i64 0, .int .i64 0, .int .i64 0, .string ⟨#[]⟩, .string ⟨#[]⟩, .slice none 0 0] 112)))
    have HZ := Lib.hid (Cel.lit w #[.int .i64 0, .int .i64 0, .int .i64 0, .string ⟨#[]⟩, .string ⟨#[]⟩, .slice none 0 0] 112)
    clear hrow h HP hE
    go_enter Tryz.func67, Tryz.ntmps67
    go_wp2_with fail
    refine HR.out.mono ?_
    rintro x w1 ⟨⟨y, rfl, hat⟩, hp1, hg1⟩
    have HZ1 : Hid (Cel w1 w.heap.size Ex.zero.list) := HZ.out.kept hg1 (by intro e; have := Option.some.inj e; omega)
    have HAT : Hid (At w1 (fun b => w.heap.size < b) eF y) := hat.mono (fun c hc _ => by simp at hc; omega)
    have HP1 := Lib.hid hp1
    have HG1 : Hid (w.grownBy w1 (some q)) := grown_trans (grown_alloc _ _ _) hg1
    obtain ⟨⟨z0, z1, z2, z3, z4, z5⟩, g0, g1, g2, g3, g4, g5⟩ := HZ1.out.six_of
    clear hat hp1 hg1
    unfold Ex.val
    go_wp2
    show bodyPost _ _ _ _ _ (set6 w1 w.heap.size y)
    obtain ⟨hfin, hpost⟩ := close6 HZ1.out HAT.out HP1.out HG1.out hlt
    generalize set6 w1 w.heap.size y = wf at *
    obtain ⟨⟨k0, k1, k2, k3, k4, k5⟩, _⟩ := hfin.six_of
    exact bodyPost_ret (v := y.val) (by simp [results, Tryz.results67, go_sem, k0, k1, k2, k3, k4, k5, Ex.val]) rfl hpost
set_option maxHeartbeats 800000 in
theorem cand_any (hE : CoErrs W E) (hWq : W.heap.size ≤ q) (part : Co.St → Co.Out) (HP : PartC E W q s 92 d part) : PartC E W q s 76 d (Co.rowAll s.data.toList part 4 4) := by
    intro st eF stF hrow w hb h
    have hlt := h.lt
    have HR := Lib.hid (crow_any hE hWq 92 (enters_of Tryz.func92 (by kernel_rfl) rfl) part HP 4 4 (by decide) (by decide) st eF stF hrow _ (hb.alloc hb.size _) (h.alloc (.cells #[.int .i64 0, .int .i64 0, .int .i64 0, .string ⟨#[]⟩, .string ⟨#[]⟩, .slice none 0 0] 112)))
    have HZ := Lib.hid (Cel.lit w #[.int .i64 0, .int .i64 0, .int .i64 0, .string ⟨#[]⟩, .string ⟨#[]⟩, .slice none 0 0] 112)
    clear hrow h HP hE
    go_enter Tryz.func76, Tryz.ntmps76
    go_wp2_with fail
    refine HR.out.mono ?_
    rintro x w1 ⟨⟨y, rfl, hat⟩, hp1, hg1⟩
    have HZ1 : Hid (Cel w1 w.heap.size Ex.zero.list) := HZ.out.kept hg1 (by intro e; have := Option.some.inj e; omega)
    have HAT : Hid (At w1 (fun b => w.heap.size < b) eF y) := hat.mono (fun c hc _ => by simp at hc; omega)
    have HP1 := Lib.hid hp1
    have HG1 : Hid (w.grownBy w1 (some q)) := grown_trans (grown_alloc _ _ _) hg1
    obtain ⟨⟨z0, z1, z2, z3, z4, z5⟩, g0, g1, g2, g3, g4, g5⟩ := HZ1.out.six_of
    clear hat hp1 hg1
    unfold Ex.val
    go_wp2
    show bodyPost _ _ _ _ _ (set6 w1 w.heap.size y)
    obtain ⟨hfin, hpost⟩ := close6 HZ1.out HAT.out HP1.out HG1.out hlt
    generalize set6 w1 w.heap.size y = wf at *
    obtain ⟨⟨k0, k1, k2, k3, k4, k5⟩, _⟩ := hfin.six_of
    exact bodyPost_ret (v := y.val) (by simp [results, Tryz.results76, go_sem, k0, k1, k2, k3, k4, k5, Ex.val]) rfl hpost
set_option maxHeartbeats 800000 in
theorem csum_any (hE : CoErrs W E) (hWq : W.heap.size ≤ q) (part : Co.St → Co.Out) (HP : PartC E W q s 124 d part) : PartC E W q s 117 d (Co.rowAll s.data.toList part 12 13) := by
    intro st eF stF hrow w hb h
    have hlt := h.lt
    have HR := Lib.hid (crow_any hE hWq 124 (enters_of Tryz.func124 (by kernel_rfl) rfl) part HP 12 13 (by decide) (by decide) st eF stF hrow _ (hb.alloc hb.size _) (h.alloc (.cells #[.int .i64 0, .int .i64 0, .int .i64 0, .string ⟨#[]⟩, .string ⟨#[]⟩, .slice none 0 0] 112)))
    have HZ := Lib.hid (Cel.lit w #[.int .i64 0, .int .i64 0, .int .i64 0, .string ⟨#[]⟩, .string ⟨#[]⟩, .slice none 0 0] 112)
    clear hrow h HP hE
    go_enter Tryz.func117, Tryz.ntmps117
    go_wp2_with fail
    refine HR.out.mono ?_
    rintro x w1 ⟨⟨y, rfl, hat⟩, hp1, hg1⟩
    have HZ1 : Hid (Cel w1 w.heap.size Ex.zero.list) := HZ.out.kept hg1 (by intro e; have := Option.some.inj e; omega)
    have HAT : Hid (At w1 (fun b => w.heap.size < b) eF y) := hat.mono (fun c hc _ => by simp at hc; omega)
    have HP1 := Lib.hid hp1
    have HG1 : Hid (w.grownBy w1 (some q)) := grown_trans (grown_alloc _ _ _) hg1
    obtain ⟨⟨z0, z1, z2, z3, z4, z5⟩, g0, g1, g2, g3, g4, g5⟩ := HZ1.out.six_of
    clear hat hp1 hg1
    unfold Ex.val
    go_wp2
    show bodyPost _ _ _ _ _ (set6 w1 w.heap.size y)
    obtain ⟨hfin, hpost⟩ := close6 HZ1.out HAT.out HP1.out HG1.out hlt
    generalize set6 w1 w.heap.size y = wf at *
    obtain ⟨⟨k0, k1, k2, k3, k4, k5⟩, _⟩ := hfin.six_of
    exact bodyPost_ret (v := y.val) (by simp [results, Tryz.results117, go_sem, k0, k1, k2, k3, k4, k5, Ex.val]) rfl hpost
set_option maxHeartbeats 800000 in
theorem cprod_any (hE : CoErrs W E) (hWq : W.heap.size ≤ q) (part : Co.St → Co.Out) (HP : PartC E W q s 128 d part) : PartC E W q s 124 d (Co.rowAll s.data.toList part 14 16) := by
    intro st eF stF hrow w hb h
    have hlt := h.lt
    have HR := Lib.hid (crow_any hE hWq 128 (enters_of Tryz.func128 (by kernel_rfl) rfl) part HP 14 16 (by decide) (by decide) st eF stF hrow _ (hb.alloc hb.size _) (h.alloc (.cells #[.int .i64 0, .int .i64 0, .int .i64 0, .string ⟨#[]⟩, .string ⟨#[]⟩, .slice none 0 0] 112)))
    have HZ := Lib.hid (Cel.lit w #[.int .i64 0, .int .i64 0, .int .i64 0, .string ⟨#[]⟩, .string ⟨#[]⟩, .slice none 0 0] 112)
    clear hrow h HP hE
    go_enter Tryz.func124, Tryz.ntmps124
    go_wp2_with fail
    refine HR.out.mono ?_
    rintro x w1 ⟨⟨y, rfl, hat⟩, hp1, hg1⟩
    have HZ1 : Hid (Cel w1 w.heap.size Ex.zero.list) := HZ.out.kept hg1 (by intro e; have := Option.some.inj e; omega)
    have HAT : Hid (At w1 (fun b => w.heap.size < b) eF y) := hat.mono (fun c hc _ => by simp at hc; omega)
    have HP1 := Lib.hid hp1
    have HG1 : Hid (w.grownBy w1 (some q)) := grown_trans (grown_alloc _ _ _) hg1
    obtain ⟨⟨z0, z1, z2, z3, z4, z5⟩, g0, g1, g2, g3, g4, g5⟩ := HZ1.out.six_of
    clear hat hp1 hg1
    unfold Ex.val
    go_wp2
    show bodyPost _ _ _ _ _ (set6 w1 w.heap.size y)
    obtain ⟨hfin, hpost⟩ := close6 HZ1.out HAT.out HP1.out HG1.out hlt
    generalize set6 w1 w.heap.size y = wf at *
    obtain ⟨⟨k0, k1, k2, k3, k4, k5⟩, _⟩ := hfin.six_of
    exact bodyPost_ret (v := y.val) (by simp [results, Tryz.results124, go_sem, k0, k1, k2, k3, k4, k5, Ex.val]) rfl hpost
set_option maxHeartbeats 1600000 in
theorem cnot_any (hE : CoErrs W E) (hWq : W.heap.size ≤ q) (hd : d ≤ 12) (part : Nat → Co.St → Co.Out) (other : Co.St → Co.Out) (HP : d ≠ 12 → PartC E W q s 92 (d + 1) (part (d + 1))) (HO : PartC E W q s 101 d other) :
    PartC E W q s 92 d (Co.under s.data.toList [110, 111, 116] 5 part other d) := by
    intro st eF stF hrow w hb h
    have hlt := h.lt
    have cw := (hE.below hb).words 5 (by decide)
    have hgl := cell_lt cw
    have cw' : w.cell? ⟨16, 5, none⟩ = some (.string ⟨([110, 111, 116] : List UInt8).toArray⟩) := cw
    have h1 := h.alloc (.cells #[.int .i64 0, .int .i64 0, .int .i64 0, .string ⟨#[]⟩, .string ⟨#[]⟩, .slice none 0 0] 112)
    have hb1 : Below W.heap.size W (w.alloc (.cells #[.int .i64 0, .int .i64 0, .int .i64 0, .string ⟨#[]⟩, .string ⟨#[]⟩, .slice none 0 0] 112)) := hb.alloc hb.size _
    have HI := Lib.hid (cis_any h1 [110, 111, 116])
    have HZ := Lib.hid (Cel.lit w #[.int .i64 0, .int .i64 0, .int .i64 0, .string ⟨#[]⟩, .string ⟨#[]⟩, .slice none 0 0] 112)
    unfold Co.under at hrow
    cases hq : Co.isM s.data.toList st [110, 111, 116] with
    | false =>
      rw [hq] at HI
      rw [if_neg (by rw [hq]; simp)] at hrow
      have HX := fun n : Nat => Lib.hid (HO st eF stF hrow _ (hb1.trans (below_drewN (Below.refl _ _) n)) (h1.drewN n))
      have HXX := Lib.hid HX
      clear hrow h HP HO hE h1 hb1 hq cw HX
      go_enter Tryz.func92, Tryz.ntmps92
      go_wp2_with fail
      refine HI.out.mono ?_
      rintro x w' ⟨rfl, n, rfl⟩
      go_wp2_with fail
      refine (HXX.out n).out.mono ?_
      rintro x w1 ⟨⟨y, rfl, hat⟩, hp1, hg1⟩
      have HZ1 : Hid (Cel w1 w.heap.size Ex.zero.list) := (HZ.out.drewN n).kept hg1 (by intro e; have := Option.some.inj e; omega)
      have HAT : Hid (At w1 (fun b => w.heap.size < b) eF y) := hat.mono (fun c hc _ => by simp at hc; omega)
      have HP1 := Lib.hid hp1
      have HG1 : Hid (w.grownBy w1 (some q)) := grown_trans (grown_of (grown_alloc _ _ _) (below_drewN (Below.refl _ _) n) (Nat.le_refl _)) hg1
      obtain ⟨⟨z0, z1, z2, z3, z4, z5⟩, g0, g1, g2, g3, g4, g5⟩ := HZ1.out.six_of
      clear hat hp1 hg1
      unfold Ex.val
      go_wp2
      show bodyPost _ _ _ _ _ (set6 w1 w.heap.size y)
      obtain ⟨hfin, hpost⟩ := close6 HZ1.out HAT.out HP1.out HG1.out hlt
      generalize set6 w1 w.heap.size y = wf at *
      obtain ⟨⟨k0, k1, k2, k3, k4, k5⟩, _⟩ := hfin.six_of
      exact bodyPost_ret (v := y.val) (by simp [results, Tryz.results92, go_sem, k0, k1, k2, k3, k4, k5, Ex.val]) rfl hpost
    | true =>
      rw [hq] at HI
      rw [if_pos hq] at hrow
      cases hdp : Co.deeper s.data.toList part d st with
      | none => rw [hdp] at hrow; cases hrow
      | some r =>
        obtain ⟨e1, st1⟩ := r
        rw [hdp] at hrow
        obtain ⟨rfl, rfl⟩ : Co.Tr.one 5 e1 = eF ∧ st1 = stF := by cases hrow; exact ⟨rfl, rfl⟩
        have HX := fun n : Nat => Lib.hid (cdeep_any hE hWq 92 (enters_of Tryz.func92 (by kernel_rfl) rfl) part hd HP st e1 st1 hdp _ (hb1.trans (below_drewN (Below.refl _ _) n)) (h1.drewN n))
        have HXX := Lib.hid HX
        clear hrow h HP HO hE h1 hb1 hq cw HX hdp
        go_enter Tryz.func92, Tryz.ntmps92
        go_wp2_with fail
        refine HI.out.mono ?_
        rintro x w' ⟨rfl, n, rfl⟩
        go_wp2_with fail
        refine (HXX.out n).out.mono ?_
        rintro x w1 ⟨⟨y, rfl, hat⟩, hp1, hg1⟩
        have HZ1 : Hid (Cel w1 w.heap.size Ex.zero.list) := (HZ.out.drewN n).kept hg1 (by intro e; have := Option.some.inj e; omega)
        have HAT : Hid (At w1 (fun b => w.heap.size < b) e1 y) := hat.mono (fun c hc _ => by simp at hc; omega)
        have HP1 := Lib.hid hp1
        have HG1 : Hid (w.grownBy w1 (some q)) := grown_trans (grown_of (grown_alloc _ _ _) (below_drewN (Below.refl _ _) n) (Nat.le_refl _)) hg1
        have hl1 : w.heap.size < w1.heap.size := HZ1.out.lt
        obtain ⟨⟨z0, z1, z2, z3, z4, z5⟩, g0, g1, g2, g3, g4, g5⟩ := HZ1.out.six_of
        clear hat hp1 hg1
        unfold Ex.val
        go_wp2
        show bodyPost _ _ _ _ _ ((set6 w1 w.heap.size ⟨5, 0, 0, ⟨#[]⟩, ⟨#[]⟩, some ⟨w1.heap.size, 0, none⟩, 1, 1⟩).alloc (.cells #[.int .i64 y.op, .int .i64 y.kind, .int .i64 y.num, .string y.txt, .string y.name, .slice y.A y.n y.c] 112))
        obtain ⟨hfin, hpost⟩ := close6a (e := .one 5 e1) (y := ⟨5, 0, 0, ⟨#[]⟩, ⟨#[]⟩, some ⟨w1.heap.size, 0, none⟩, 1, 1⟩) (cs := #[.int .i64 y.op, .int .i64 y.kind, .int .i64 y.num, .string y.txt, .string y.name, .slice y.A y.n y.c]) (t := 112) HZ1.out HP1.out HG1.out hlt
          (fun wf hgf hh => ⟨w1.heap.size, y, rfl, Nat.le_of_lt hl1, hh, At.kept hgf (fun c hc _ => ⟨fun e => by have := Option.some.inj e; omega, by omega⟩) HAT.out⟩)
        generalize (set6 w1 w.heap.size _).alloc _ = wf at *
        obtain ⟨⟨k0, k1, k2, k3, k4, k5⟩, _⟩ := hfin.six_of
        exact bodyPost_ret (v := Ex.val ⟨5, 0, 0, ⟨#[]⟩, ⟨#[]⟩, some ⟨w1.heap.size, 0, none⟩, 1, 1⟩) (by simp [results, Tryz.results92, go_sem, k0, k1, k2, k3, k4, k5, Ex.val]) rfl hpost
set_option maxHeartbeats 1600000 in
theorem csign_any (hE : CoErrs W E) (hWq : W.heap.size ≤ q) (hd : d ≤ 12) (part : Nat → Co.St → Co.Out) (other : Co.St → Co.Out) (HP : d ≠ 12 → PartC E W q s 133 (d + 1) (part (d + 1))) (HO : PartC E W q s 132 d other) :
    PartC E W q s 128 d (Co.under s.data.toList [45] 17 part other d) := by
    intro st eF stF hrow w hb h
    have hlt := h.lt
    have cw := (hE.below hb).words 17 (by decide)
    have hgl := cell_lt cw
    have cw' : w.cell? ⟨16, 17, none⟩ = some (.string ⟨([45] : List UInt8).toArray⟩) := cw
    have h1 := h.alloc (.cells #[.int .i64 0, .int .i64 0, .int .i64 0, .string ⟨#[]⟩, .string ⟨#[]⟩, .slice none 0 0] 112)
    have hb1 : Below W.heap.size W (w.alloc (.cells #[.int .i64 0, .int .i64 0, .int .i64 0, .string ⟨#[]⟩, .string ⟨#[]⟩, .slice none 0 0] 112)) := hb.alloc hb.size _
    have HI := Lib.hid (cis_any h1 [45])
    have HZ := Lib.hid (Cel.lit w #[.int .i64 0, .int .i64 0, .int .i64 0, .string ⟨#[]⟩, .string ⟨#[]⟩, .slice none 0 0] 112)
    unfold Co.under at hrow
    cases hq : Co.isM s.data.toList st [45] with
    | false =>
      rw [hq] at HI
      rw [if_neg (by rw [hq]; simp)] at hrow
      have HX := fun n : Nat => Lib.hid (HO st eF stF hrow _ (hb1.trans (below_drewN (Below.refl _ _) n)) (h1.drewN n))
      have HXX := Lib.hid HX
      clear hrow h HP HO hE h1 hb1 hq cw HX
      go_enter Tryz.func128, Tryz.ntmps128
      go_wp2_with fail
      refine HI.out.mono ?_
      rintro x w' ⟨rfl, n, rfl⟩
      go_wp2_with fail
      refine (HXX.out n).out.mono ?_
      rintro x w1 ⟨⟨y, rfl, hat⟩, hp1, hg1⟩
      have HZ1 : Hid (Cel w1 w.heap.size Ex.zero.list) := (HZ.out.drewN n).kept hg1 (by intro e; have := Option.some.inj e; omega)
      have HAT : Hid (At w1 (fun b => w.heap.size < b) eF y) := hat.mono (fun c hc _ => by simp at hc; omega)
      have HP1 := Lib.hid hp1
      have HG1 : Hid (w.grownBy w1 (some q)) := grown_trans (grown_of (grown_alloc _ _ _) (below_drewN (Below.refl _ _) n) (Nat.le_refl _)) hg1
      obtain ⟨⟨z0, z1, z2, z3, z4, z5⟩, g0, g1, g2, g3, g4, g5⟩ := HZ1.out.six_of
      clear hat hp1 hg1
      unfold Ex.val
      go_wp2
      show bodyPost _ _ _ _ _ (set6 w1 w.heap.size y)
      obtain ⟨hfin, hpost⟩ := close6 HZ1.out HAT.out HP1.out HG1.out hlt
      generalize set6 w1 w.heap.size y = wf at *
      obtain ⟨⟨k0, k1, k2, k3, k4, k5⟩, _⟩ := hfin.six_of
      exact bodyPost_ret (v := y.val) (by simp [results, Tryz.results128, go_sem, k0, k1, k2, k3, k4, k5, Ex.val]) rfl hpost
    | true =>
      rw [hq] at HI
      rw [if_pos hq] at hrow
      cases hdp : Co.deeper s.data.toList part d st with
      | none => rw [hdp] at hrow; cases hrow
      | some r =>
        obtain ⟨e1, st1⟩ := r
        rw [hdp] at hrow
        obtain ⟨rfl, rfl⟩ : Co.Tr.one 17 e1 = eF ∧ st1 = stF := by cases hrow; exact ⟨rfl, rfl⟩
        have HX := fun n : Nat => Lib.hid (cdeep_any hE hWq 133 (enters_of Tryz.func133 (by kernel_rfl) rfl) part hd HP st e1 st1 hdp _ (hb1.trans (below_drewN (Below.refl _ _) n)) (h1.drewN n))
        have HXX := Lib.hid HX
        clear hrow h HP HO hE h1 hb1 hq cw HX hdp
        go_enter Tryz.func128, Tryz.ntmps128
        go_wp2_with fail
        refine HI.out.mono ?_
        rintro x w' ⟨rfl, n, rfl⟩
        go_wp2_with fail
        refine (HXX.out n).out.mono ?_
        rintro x w1 ⟨⟨y, rfl, hat⟩, hp1, hg1⟩
        have HZ1 : Hid (Cel w1 w.heap.size Ex.zero.list) := (HZ.out.drewN n).kept hg1 (by intro e; have := Option.some.inj e; omega)
        have HAT : Hid (At w1 (fun b => w.heap.size < b) e1 y) := hat.mono (fun c hc _ => by simp at hc; omega)
        have HP1 := Lib.hid hp1
        have HG1 : Hid (w.grownBy w1 (some q)) := grown_trans (grown_of (grown_alloc _ _ _) (below_drewN (Below.refl _ _) n) (Nat.le_refl _)) hg1
        have hl1 : w.heap.size < w1.heap.size := HZ1.out.lt
        obtain ⟨⟨z0, z1, z2, z3, z4, z5⟩, g0, g1, g2, g3, g4, g5⟩ := HZ1.out.six_of
        clear hat hp1 hg1
        unfold Ex.val
        go_wp2
        show bodyPost _ _ _ _ _ ((set6 w1 w.heap.size ⟨17, 0, 0, ⟨#[]⟩, ⟨#[]⟩, some ⟨w1.heap.size, 0, none⟩, 1, 1⟩).alloc (.cells #[.int .i64 y.op, .int .i64 y.kind, .int .i64 y.num, .string y.txt, .string y.name, .slice y.A y.n y.c] 112))
        obtain ⟨hfin, hpost⟩ := close6a (e := .one 17 e1) (y := ⟨17, 0, 0, ⟨#[]⟩, ⟨#[]⟩, some ⟨w1.heap.size, 0, none⟩, 1, 1⟩) (cs := #[.int .i64 y.op, .int .i64 y.kind, .int .i64 y.num, .string y.txt, .string y.name, .slice y.A y.n y.c]) (t := 112) HZ1.out HP1.out HG1.out hlt
          (fun wf hgf hh => ⟨w1.heap.size, y, rfl, Nat.le_of_lt hl1, hh, At.kept hgf (fun c hc _ => ⟨fun e => by have := Option.some.inj e; omega, by omega⟩) HAT.out⟩)
        generalize (set6 w1 w.heap.size _).alloc _ = wf at *
        obtain ⟨⟨k0, k1, k2, k3, k4, k5⟩, _⟩ := hfin.six_of
        exact bodyPost_ret (v := Ex.val ⟨17, 0, 0, ⟨#[]⟩, ⟨#[]⟩, some ⟨w1.heap.size, 0, none⟩, 1, 1⟩) (by simp [results, Tryz.results128, go_sem, k0, k1, k2, k3, k4, k5, Ex.val]) rfl hpost
end
end Go.Proofs.YtlmlhjepolefaaaGreatDoor
