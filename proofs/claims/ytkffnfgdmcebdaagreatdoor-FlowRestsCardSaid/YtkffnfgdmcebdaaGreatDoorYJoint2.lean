/- Walks of package cond: or, and, sums, products; not, a sign; what stands behind a sign; a bracket. Walks of package cond: what stands behind a sign; a bracket; what is compared. -/
import Derived.Test.YtkffnfgdmcebdaaGreatDoorCdY
namespace Go.Proofs.YtkffnfgdmcebdaaGreatDoor
open Go.RowKit

section
variable {E : Int → Option Addr} {W w w1 : World} {q d : Nat} {s : ByteArray} {st : Co.St} {e : Co.Tr} {y : Ex}
theorem close6 (hz : Cel w1 w.heap.size Ex.zero.list) (ha : At w1 (fun b => w.heap.size < b) e y) (hp : PaC E w1 q s st d) (hg : w.grownBy w1 (some q)) (hq : q < w.heap.size) :
    Cel (set6 w1 w.heap.size y) w.heap.size y.list ∧ ((∃ y', Ending.returned y.val = .returned (Ex.val y') ∧ At (set6 w1 w.heap.size y) (fun b => w.heap.size ≤ b) e y') ∧ PaC E (set6 w1 w.heap.size y) q s st d ∧ w.grownBy (set6 w1 w.heap.size y) (some q)) := by
  have hg4 := set6_grown w1 w.heap.size y
  exact ⟨hz.six y, ⟨y, rfl, At.kept hg4 (fun c hc _ => ⟨fun e => by have := Option.some.inj e; omega, by omega⟩) ha⟩, hp.other hg4 (by omega) hz.int1, grown_past hg hg4 (Nat.le_refl _)⟩
/-- The same, where a slice's block was made behind it. -/
theorem close6a {cs : Array Value} {t : TypeId} (hz : Cel w1 w.heap.size Ex.zero.list) (hp : PaC E w1 q s st d) (hg : w.grownBy w1 (some q)) (hq : q < w.heap.size)
    (ha : ∀ wf, w1.grownBy wf (some w.heap.size) → wf.heap[w1.heap.size]? = some (.cells cs t (0, 0)) → At wf (fun b => w.heap.size ≤ b) e y) :
    Cel ((set6 w1 w.heap.size y).alloc (.cells cs t)) w.heap.size y.list ∧ ((∃ y', Ending.returned y.val = .returned (Ex.val y') ∧ At ((set6 w1 w.heap.size y).alloc (.cells cs t)) (fun b => w.heap.size ≤ b) e y') ∧
      PaC E ((set6 w1 w.heap.size y).alloc (.cells cs t)) q s st d ∧ w.grownBy ((set6 w1 w.heap.size y).alloc (.cells cs t)) (some q)) := by
  have hg4 := set6_grown w1 w.heap.size y
  have hs : (set6 w1 w.heap.size y).heap.size = w1.heap.size := by simp [set6]
  have hh := heap_alloc_new (set6 w1 w.heap.size y) (.cells cs t)
  rw [hs] at hh
  exact ⟨(hz.six y).alloc _, ⟨y, rfl, ha _ (grown_trans hg4 (grown_alloc _ _ _)) hh⟩, (hp.other hg4 (by omega) hz.int1).alloc _, grown_trans (grown_past hg hg4 (Nat.le_refl _)) (grown_alloc _ _ _)⟩
set_option maxHeartbeats 800000 in
theorem cor_any (hE : CoErrs W E) (hWq : W.heap.size ≤ q) (part : Co.St → Co.Out) (HP : PartC E W q s 155 d part) : PartC E W q s 146 d (Co.rowAll s.data.toList part 3 3) := by
    intro st eF stF hrow w hb h
    have hlt := h.lt
    have HR := Lib.hid (crow_any hE hWq 155 (enters_of Tryz.func155 (by kernel_rfl) rfl) part HP 3 3 (by decide) (by decide) st eF stF hrow _ (hb.alloc hb.size _) (h.alloc (.cells #[.int .i64 0, .int .i64 0, .int .i64 0, .string ⟨#[]⟩, .string ⟨#[]⟩, .slice none 0 0] 185)))
    have HZ := Lib.hid (Cel.lit w #[.int .i64 0, .int .i64 0, .int .i64 0, .string ⟨#[]⟩, .string ⟨#[]⟩, .slice none 0 0] 185)
    clear hrow h HP hE
    go_enter Tryz.func146, Tryz.ntmps146
    go_wp2_with fail
    refine HR.out.mono ?_
    rintro x w1 ⟨⟨y, rfl, hat⟩, hp1, hg1⟩
    have HZ1 : Hid (Cel w1 w.heap.size Ex.zero.list) := HZ.out.kept hg1 (by intro e; have := Option.some.inj e; omega)
    have HAT : Hid (At w1 (fun b => w.heap.size < b) eF y) := hat.mono (fun c hc _ => by simp at hc; omega)
    have HP1 := Lib.hid hp1
    have HG1 : Hid (w.grownBy w1 (some q)) := grown_trans (grown_alloc _ _ _) hg1
    obtain ⟨⟨z0, z1, z2, z3, z4, z5⟩, g0, g1, g2, g3, g4, g5⟩ := HZ1.out.six_of
    clear hat hp1 hg1
    unfold Ex.val
    go_wp2
    show bodyPost _ _ _ _ _ (set6 w1 w.heap.size y)
    obtain ⟨hfin, hpost⟩ := close6 HZ1.out HAT.out HP1.out HG1.out hlt
    generalize set6 w1 w.heap.size y = wf at *
    obtain ⟨⟨k0, k1, k2, k3, k4, k5⟩, _⟩ := hfin.six_of
    exact bodyPost_ret (v := y.val) (by simp [results, Tryz.results146, go_sem, k0, k1, k2, k3, k4, k5, Ex.val]) rfl hpost
set_option maxHeartbeats 800000 in
theorem cand_any (hE : CoErrs W E) (hWq : W.heap.size ≤ q) (part : Co.St → Co.Out) (HP : PartC E W q s 171 d part) : PartC E W q s 155 d (Co.rowAll s.data.toList part 4 4) := by
    intro st eF stF hrow w hb h
    have hlt := h.lt
    have HR := Lib.hid (crow_any hE hWq 171 (enters_of Tryz.func171 (by kernel_rfl) rfl) part HP 4 4 (by decide) (by decide) st eF stF hrow _ (hb.alloc hb.size _) (h.alloc (.cells #[.int .i64 0, .int .i64 0, .int .i64 0, .string ⟨#[]⟩, .string ⟨#[]⟩, .slice none 0 0] 185)))
    have HZ := Lib.hid (Cel.lit w #[.int .i64 0, .int .i64 0, .int .i64 0, .string ⟨#[]⟩, .string ⟨#[]⟩, .slice none 0 0] 185)
    clear hrow h HP hE
    go_enter Tryz.func155, Tryz.ntmps155
    go_wp2_with fail
    refine HR.out.mono ?_
    rintro x w1 ⟨⟨y, rfl, hat⟩, hp1, hg1⟩
    have HZ1 : Hid (Cel w1 w.heap.size Ex.zero.list) := HZ.out.kept hg1 (by intro e; have := Option.some.inj e; omega)
    have HAT : Hid (At w1 (fun b => w.heap.size < b) eF y) := hat.mono (fun c hc _ => by simp at hc; omega)
    have HP1 := Lib.hid hp1
    have HG1 : Hid (w.grownBy w1 (some q)) := grown_trans (grown_alloc _ _ _) hg1
    obtain ⟨⟨z0, z1, z2, z3, z4, z5⟩, g0, g1, g2, g3, g4, g5⟩ := HZ1.out.six_of
    clear hat hp1 hg1
    unfold Ex.val
    go_wp2
    show bodyPost _ _ _ _ _ (set6 w1 w.heap.size y)
    obtain ⟨hfin, hpost⟩ := close6 HZ1.out HAT.out HP1.out HG1.out hlt
    generalize set6 w1 w.heap.size y = wf at *
    obtain ⟨⟨k0, k1, k2, k3, k4, k5⟩, _⟩ := hfin.six_of
    exact bodyPost_ret (v := y.val) (by simp [results, Tryz.results155, go_sem, k0, k1, k2, k3, k4, k5, Ex.val]) rfl hpost
set_option maxHeartbeats 800000 in
theorem csum_any (hE : CoErrs W E) (hWq : W.heap.size ≤ q) (part : Co.St → Co.Out) (HP : PartC E W q s 203 d part) : PartC E W q s 196 d (Co.rowAll s.data.toList part 12 13) := by
    intro st eF stF hrow w hb h
    have hlt := h.lt
    have HR := Lib.hid (crow_any hE hWq 203 (enters_of Tryz.func203 (by kernel_rfl) rfl) part HP 12 13 (by decide) (by decide) st eF stF hrow _ (hb.alloc hb.size _) (h.alloc (.cells #[.int .i64 0, .int .i64 0, .int .i64 0, .string ⟨#[]⟩, .string ⟨#[]⟩, .slice none 0 0] 185)))
    have HZ := Lib.hid (Cel.lit w #[.int .i64 0, .int .i64 0, .int .i64 0, .string ⟨#[]⟩, .string ⟨#[]⟩, .slice none 0 0] 185)
    clear hrow h HP hE
    go_enter Tryz.func196, Tryz.ntmps196
    go_wp2_with fail
    refine HR.out.mono ?_
    rintro x w1 ⟨⟨y, rfl, hat⟩, hp1, hg1⟩
    have HZ1 : Hid (Cel w1 w.heap.size Ex.zero.list) := HZ.out.kept hg1 (by intro e; have := Option.some.inj e; omega)
    have HAT : Hid (At w1 (fun b => w.heap.size < b) eF y) := hat.mono (fun c hc _ => by simp at hc; omega)
    have HP1 := Lib.hid hp1
    have HG1 : Hid (w.grownBy w1 (some q)) := grown_trans (grown_alloc _ _ _) hg1
    obtain ⟨⟨z0, z1, z2, z3, z4, z5⟩, g0, g1, g2, g3, g4, g5⟩ := HZ1.out.six_of
    clear hat hp1 hg1
    unfold Ex.val
    go_wp2
    show bodyPost _ _ _ _ _ (set6 w1 w.heap.size y)
    obtain ⟨hfin, hpost⟩ := close6 HZ1.out HAT.out HP1.out HG1.out hlt
    generalize set6 w1 w.heap.size y = wf at *
    obtain ⟨⟨k0, k1, k2, k3, k4, k5⟩, _⟩ := hfin.six_of
    exact bodyPost_ret (v := y.val) (by simp [results, Tryz.results196, go_sem, k0, k1, k2, k3, k4, k5, Ex.val]) rfl hpost
set_option maxHeartbeats 800000 in
theorem cprod_any (hE : CoErrs W E) (hWq : W.heap.size ≤ q) (part : Co.St → Co.Out) (HP : PartC E W q s 207 d part) : PartC E W q s 203 d (Co.rowAll s.data.toList part 14 16) := by
    intro st eF stF hrow w hb h
    have hlt := h.lt
    have HR := Lib.hid (crow_any hE hWq 207 (enters_of Tryz.func207 (by kernel_rfl) rfl) part HP 14 16 (by decide) (by decide) st eF stF hrow _ (hb.alloc hb.size _) (h.alloc (.cells #[.int .i64 0, .int .i64 0, .int .i64 0, .string ⟨#[]⟩, .string ⟨#[]⟩, .slice none 0 0] 185)))
    have HZ := Lib.hid (Cel.lit w #[.int .i64 0, .int .i64 0, .int .i64 0, .string ⟨#[]⟩, .string ⟨#[]⟩, .slice none 0 0] 185)
    clear hrow h HP hE
    go_enter Tryz.func203, Tryz.ntmps203
    go_wp2_with fail
    refine HR.out.mono ?_
    rintro x w1 ⟨⟨y, rfl, hat⟩, hp1, hg1⟩
    have HZ1 : Hid (Cel w1 w.heap.size Ex.zero.list) := HZ.out.kept hg1 (by intro e; have := Option.some.inj e; omega)
    have HAT : Hid (At w1 (fun b => w.heap.size < b) eF y) := hat.mono (fun c hc _ => by simp at hc; omega)
    have HP1 := Lib.hid hp1
    have HG1 : Hid (w.grownBy w1 (some q)) := grown_trans (grown_alloc _ _ _) hg1
    obtain ⟨⟨z0, z1, z2, z3, z4, z5⟩, g0, g1, g2, g3, g4, g5⟩ := HZ1.out.six_of
    clear hat hp1 hg1
    unfold Ex.val
    go_wp2
    show bodyPost _ _ _ _ _ (set6 w1 w.heap.size y)
    obtain ⟨hfin, hpost⟩ := close6 HZ1.out HAT.out HP1.out HG1.out hlt
    generalize set6 w1 w.heap.size y = wf at *
    obtain ⟨⟨k0, k1, k2, k3, k4, k5⟩, _⟩ := hfin.six_of
    exact bodyPost_ret (v := y.val) (by simp [results, Tryz.results203, go_sem, k0, k1, k2, k3, k4, k5, Ex.val]) rfl hpost
set_option maxHeartbeats 1600000 in
theorem cnot_any (hE : CoErrs W E) (hWq : W.heap.size ≤ q) (hd : d ≤ 12) (part : Nat → Co.St → Co.Out) (other : Co.St → Co.Out) (HP : d ≠ 12 → PartC E W q s 171 (d + 1) (part (d + 1))) (HO : PartC E W q s 180 d other) :
    PartC E W q s 171 d (Co.under s.data.toList [110, 111, 116] 5 part other d) := by
    intro st eF stF hrow w hb h
    have hlt := h.lt
    have cw := (hE.below hb).words 5 (by decide)
    have hgl := cell_lt cw
    have cw' : w.cell? ⟨16, 5, none⟩ = some (.string ⟨([110, 111, 116] : List UInt8).toArray⟩) := cw
    have h1 := h.alloc (.cells #[.int .i64 0, .int .i64 0, .int .i64 0, .string ⟨#[]⟩, .string ⟨#[]⟩, .slice none 0 0] 185)
    have hb1 : Below W.heap.size W (w.alloc (.cells #[.int .i64 0, .int .i64 0, .int .i64 0, .string ⟨#[]⟩, .string ⟨#[]⟩, .slice none 0 0] 185)) := hb.alloc hb.size _
    have HI := Lib.hid (cis_any h1 [110, 111, 116])
    have HZ := Lib.hid (Cel.lit w #[.int .i64 0, .int .i64 0, .int .i64 0, .string ⟨#[]⟩, .string ⟨#[]⟩, .slice none 0 0] 185)
    unfold Co.under at hrow
    cases hq : Co.isM s.data.toList st [110, 111, 116] with
    | false =>
      rw [hq] at HI
      rw [if_neg (by rw [hq]; simp)] at hrow
      have HX := fun n : Nat => Lib.hid (HO st eF stF hrow _ (hb1.trans (below_drewN (Below.refl _ _) n)) (h1.drewN n))
      have HXX := Lib.hid HX
      clear hrow h HP HO hE h1 hb1 hq cw HX
      go_enter Tryz.func171, Tryz.ntmps171
      go_wp2_with fail
      refine HI.out.mono ?_
      rintro x w' ⟨rfl, n, rfl⟩
      go_wp2_with fail
      refine (HXX.out n).out.mono ?_
      rintro x w1 ⟨⟨y, rfl, hat⟩, hp1, hg1⟩
      have HZ1 : Hid (Cel w1 w.heap.size Ex.zero.list) := (HZ.out.drewN n).kept hg1 (by intro e; have := Option.some.inj e; omega)
      have HAT : Hid (At w1 (fun b => w.heap.size < b) eF y) := hat.mono (fun c hc _ => by simp at hc; omega)
      have HP1 := Lib.hid hp1
      have HG1 : Hid (w.grownBy w1 (some q)) := grown_trans (grown_of (grown_alloc _ _ _) (below_drewN (Below.refl _ _) n) (Nat.le_refl _)) hg1
      obtain ⟨⟨z0, z1, z2, z3, z4, z5⟩, g0, g1, g2, g3, g4, g5⟩ := HZ1.out.six_of
      clear hat hp1 hg1
      unfold Ex.val
      go_wp2
      show bodyPost _ _ _ _ _ (set6 w1 w.heap.size y)
      obtain ⟨hfin, hpost⟩ := close6 HZ1.out HAT.out HP1.out HG1.out hlt
      generalize set6 w1 w.heap.size y = wf at *
      obtain ⟨⟨k0, k1, k2, k3, k4, k5⟩, _⟩ := hfin.six_of
      exact bodyPost_ret (v := y.val) (by simp [results, Tryz.results171, go_sem, k0, k1, k2, k3, k4, k5, Ex.val]) rfl hpost
    | true =>
      rw [hq] at HI
      rw [if_pos hq] at hrow
      cases hdp : Co.deeper s.data.toList part d st with
      | none => rw [hdp] at hrow; cases hrow
      | some r =>
        obtain ⟨e1, st1⟩ := r
        rw [hdp] at hrow
        obtain ⟨rfl, rfl⟩ : Co.Tr.one 5 e1 = eF ∧ st1 = stF := by cases hrow; exact ⟨rfl, rfl⟩
        have HX := fun n : Nat => Lib.hid (cdeep_any hE hWq 171 (enters_of Tryz.func171 (by kernel_rfl) rfl) part hd HP st e1 st1 hdp _ (hb1.trans (below_drewN (Below.refl _ _) n)) (h1.drewN n))
        have HXX := Lib.hid HX
        clear hrow h HP HO hE h1 hb1 hq cw HX hdp
        go_enter Tryz.func171, Tryz.ntmps171
        go_wp2_with fail
        refine HI.out.mono ?_
        rintro x w' ⟨rfl, n, rfl⟩
        go_wp2_with fail
        refine (HXX.out n).out.mono ?_
        rintro x w1 ⟨⟨y, rfl, hat⟩, hp1, hg1⟩
        have HZ1 : Hid (Cel w1 w.heap.size Ex.zero.list) := (HZ.out.drewN n).kept hg1 (by intro e; have := Option.some.inj e; omega)
        have HAT : Hid (At w1 (fun b => w.heap.size < b) e1 y) := hat.mono (fun c hc _ => by simp at hc; omega)
        have HP1 := Lib.hid hp1
        have HG1 : Hid (w.grownBy w1 (some q)) := grown_trans (grown_of (grown_alloc _ _ _) (below_drewN (Below.refl _ _) n) (Nat.le_refl _)) hg1
        have hl1 : w.heap.size < w1.heap.size := HZ1.out.lt
        obtain ⟨⟨z0, z1, z2, z3, z4, z5⟩, g0, g1, g2, g3, g4, g5⟩ := HZ1.out.six_of
        clear hat hp1 hg1
        unfold Ex.val
        go_wp2
        show bodyPost _ _ _ _ _ ((set6 w1 w.heap.size ⟨5, 0, 0, ⟨#[]⟩, ⟨#[]⟩, some ⟨w1.heap.size, 0, none⟩, 1, 1⟩).alloc (.cells #[.int .i64 y.op, .int .i64 y.kind, .int .i64 y.num, .string y.txt, .string y.name, .slice y.A y.n y.c] 185))
        obtain ⟨hfin, hpost⟩ := close6a (e := .one 5 e1) (y := ⟨5, 0, 0, ⟨#[]⟩, ⟨#[]⟩, some ⟨w1.heap.size, 0, none⟩, 1, 1⟩) (cs := #[.int .i64 y.op, .int .i64 y.kind, .int .i64 y.num, .string y.txt, .string y.name, .slice y.A y.n y.c]) (t := 185) HZ1.out HP1.out HG1.out hlt
          (fun wf hgf hh => ⟨w1.heap.size, y, rfl, Nat.le_of_lt hl1, hh, At.kept hgf (fun c hc _ => ⟨fun e => by have := Option.some.inj e; omega, by omega⟩) HAT.out⟩)
        generalize (set6 w1 w.heap.size _).alloc _ = wf at *
        obtain ⟨⟨k0, k1, k2, k3, k4, k5⟩, _⟩ := hfin.six_of
        exact bodyPost_ret (v := Ex.val ⟨5, 0, 0, ⟨#[]⟩, ⟨#[]⟩, some ⟨w1.heap.size, 0, none⟩, 1, 1⟩) (by simp [results, Tryz.results171, go_sem, k0, k1, k2, k3, k4, k5, Ex.val]) rfl hpost
set_option maxHeartbeats 1600000 in
theorem csign_any (hE : CoErrs W E) (hWq : W.heap.size ≤ q) (hd : d ≤ 12) (part : Nat → Co.St → Co.Out) (other : Co.St → Co.Out) (HP : d ≠ 12 → PartC E W q s 212 (d + 1) (part (d + 1))) (HO : PartC E W q s 211 d other) :
    PartC E W q s 207 d (Co.under s.data.toList [45] 17 part other d) := by
    intro st eF stF hrow w hb h
    have hlt := h.lt
    have cw := (hE.below hb).words 17 (by decide)
    have hgl := cell_lt cw
    have cw' : w.cell? ⟨16, 17, none⟩ = some (.string ⟨([45] : List UInt8).toArray⟩) := cw
    have h1 := h.alloc (.cells #[.int .i64 0, .int .i64 0, .int .i64 0, .string ⟨#[]⟩, .string ⟨#[]⟩, .slice none 0 0] 185)
    have hb1 : Below W.heap.size W (w.alloc (.cells #[.int .i64 0, .int .i64 0, .int .i64 0, .string ⟨#[]⟩, .string ⟨#[]⟩, .slice none 0 0] 185)) := hb.alloc hb.size _
    have HI := Lib.hid (cis_any h1 [45])
    have HZ := Lib.hid (Cel.lit w #[.int .i64 0, .int .i64 0, .int .i64 0, .string ⟨#[]⟩, .string ⟨#[]⟩, .slice none 0 0] 185)
    unfold Co.under at hrow
    cases hq : Co.isM s.data.toList st [45] with
    | false =>
      rw [hq] at HI
      rw [if_neg (by rw [hq]; simp)] at hrow
      have HX := fun n : Nat => Lib.hid (HO st eF stF hrow _ (hb1.trans (below_drewN (Below.refl _ _) n)) (h1.drewN n))
      have HXX := Lib.hid HX
      clear hrow h HP HO hE h1 hb1 hq cw HX
      go_enter Tryz.func207, Tryz.ntmps207
      go_wp2_with fail
      refine HI.out.mono ?_
      rintro x w' ⟨rfl, n, rfl⟩
      go_wp2_with fail
      refine (HXX.out n).out.mono ?_
      rintro x w1 ⟨⟨y, rfl, hat⟩, hp1, hg1⟩
      have HZ1 : Hid (Cel w1 w.heap.size Ex.zero.list) := (HZ.out.drewN n).kept hg1 (by intro e; have := Option.some.inj e; omega)
      have HAT : Hid (At w1 (fun b => w.heap.size < b) eF y) := hat.mono (fun c hc _ => by simp at hc; omega)
      have HP1 := Lib.hid hp1
      have HG1 : Hid (w.grownBy w1 (some q)) := grown_trans (grown_of (grown_alloc _ _ _) (below_drewN (Below.refl _ _) n) (Nat.le_refl _)) hg1
      obtain ⟨⟨z0, z1, z2, z3, z4, z5⟩, g0, g1, g2, g3, g4, g5⟩ := HZ1.out.six_of
      clear hat hp1 hg1
      unfold Ex.val
      go_wp2
      show bodyPost _ _ _ _ _ (set6 w1 w.heap.size y)
      obtain ⟨hfin, hpost⟩ := close6 HZ1.out HAT.out HP1.out HG1.out hlt
      generalize set6 w1 w.heap.size y = wf at *
      obtain ⟨⟨k0, k1, k2, k3, k4, k5⟩, _⟩ := hfin.six_of
      exact bodyPost_ret (v := y.val) (by simp [results, Tryz.results207, go_sem, k0, k1, k2, k3, k4, k5, Ex.val]) rfl hpost
    | true =>
      rw [hq] at HI
      rw [if_pos hq] at hrow
      cases hdp : Co.deeper s.data.toList part d st with
      | none => rw [hdp] at hrow; cases hrow
      | some r =>
        obtain ⟨e1, st1⟩ := r
        rw [hdp] at hrow
        obtain ⟨rfl, rfl⟩ : Co.Tr.one 17 e1 = eF ∧ st1 = stF := by cases hrow; exact ⟨rfl, rfl⟩
        have HX := fun n : Nat => Lib.hid (cdeep_any hE hWq 212 (enters_of Tryz.func212 (by kernel_rfl) rfl) part hd HP st e1 st1 hdp _ (hb1.trans (below_drewN (Below.refl _ _) n)) (h1.drewN n))
        have HXX := Lib.hid HX
        clear hrow h HP HO hE h1 hb1 hq cw HX hdp
        go_enter Tryz.func207, Tryz.ntmps207
        go_wp2_with fail
        refine HI.out.mono ?_
        rintro x w' ⟨rfl, n, rfl⟩
        go_wp2_with fail
        refine (HXX.out n).out.mono ?_
        rintro x w1 ⟨⟨y, rfl, hat⟩, hp1, hg1⟩
        have HZ1 : Hid (Cel w1 w.heap.size Ex.zero.list) := (HZ.out.drewN n).kept hg1 (by intro e; have := Option.some.inj e; omega)
        have HAT : Hid (At w1 (fun b => w.heap.size < b) e1 y) := hat.mono (fun c hc _ => by simp at hc; omega)
        have HP1 := Lib.hid hp1
        have HG1 : Hid (w.grownBy w1 (some q)) := grown_trans (grown_of (grown_alloc _ _ _) (below_drewN (Below.refl _ _) n) (Nat.le_refl _)) hg1
        have hl1 : w.heap.size < w1.heap.size := HZ1.out.lt
        obtain ⟨⟨z0, z1, z2, z3, z4, z5⟩, g0, g1, g2, g3, g4, g5⟩ := HZ1.out.six_of
        clear hat hp1 hg1
        unfold Ex.val
        go_wp2
        show bodyPost _ _ _ _ _ ((set6 w1 w.heap.size ⟨17, 0, 0, ⟨#[]⟩, ⟨#[]⟩, some ⟨w1.heap.size, 0, none⟩, 1, 1⟩).alloc (.cells #[.int .i64 y.op, .int .i64 y.kind, .int .i64 y.num, .string y.txt, .string y.name, .slice y.A y.n y.c] 185))
        obtain ⟨hfin, hpost⟩ := close6a (e := .one 17 e1) (y := ⟨17, 0, 0, ⟨#[]⟩, ⟨#[]⟩, some ⟨w1.heap.size, 0, none⟩, 1, 1⟩) (cs := #[.int .i64 y.op, .int .i64 y.kind, .int .i64 y.num, .string y.txt, .string y.name, .slice y.A y.n y.c]) (t := 185) HZ1.out HP1.out HG1.out hlt
          (fun wf hgf hh => ⟨w1.heap.size, y, rfl, Nat.le_of_lt hl1, hh, At.kept hgf (fun c hc _ => ⟨fun e => by have := Option.some.inj e; omega, by omega⟩) HAT.out⟩)
        generalize (set6 w1 w.heap.size _).alloc _ = wf at *
        obtain ⟨⟨k0, k1, k2, k3, k4, k5⟩, _⟩ := hfin.six_of
        exact bodyPost_ret (v := Ex.val ⟨17, 0, 0, ⟨#[]⟩, ⟨#[]⟩, some ⟨w1.heap.size, 0, none⟩, 1, 1⟩) (by simp [results, Tryz.results207, go_sem, k0, k1, k2, k3, k4, k5, Ex.val]) rfl hpost
end
end Go.Proofs.YtkffnfgdmcebdaaGreatDoor
namespace Go.Proofs.YtkffnfgdmcebdaaGreatDoor
open Go.RowKit

section
variable {E : Int → Option Addr} {W w w1 : World} {q d : Nat} {s : ByteArray} {st : Co.St} {e : Co.Tr} {y : Ex}
set_option maxHeartbeats 1600000 in
theorem cbehind_any (hE : CoErrs W E) (hWq : W.heap.size ≤ q) (part : Co.St → Co.Out) (HP : PartC E W q s 207 d part) : PartC E W q s 212 d (Co.behind part) := by
    intro st eF stF hrow w hb h
    have hlt := h.lt
    obtain ⟨ev, ⟨c0, c1, c2, c3, c4, c5⟩, he⟩ := h.cells
    have h1 := h.alloc (.cells #[.int .i64 0, .int .i64 0, .int .i64 0, .string ⟨#[]⟩, .string ⟨#[]⟩, .slice none 0 0] 185)
    have hb1 : Below W.heap.size W (w.alloc (.cells #[.int .i64 0, .int .i64 0, .int .i64 0, .string ⟨#[]⟩, .string ⟨#[]⟩, .slice none 0 0] 185)) := hb.alloc hb.size _
    have HZ := Lib.hid (Cel.lit w #[.int .i64 0, .int .i64 0, .int .i64 0, .string ⟨#[]⟩, .string ⟨#[]⟩, .slice none 0 0] 185)
    unfold Co.behind at hrow
    by_cases hk : st.kind = 3 ∨ st.kind = 4
    · rw [if_pos hk] at hrow
      obtain ⟨a, hka, hg⟩ := (hE.below hb).e111
      have hgl := cell_lt hg
      have HF := Lib.hid (cfail_any h1 111 a hka (by decide))
      have HPR := Lib.hid (HP _ _ _ hrow)
      have HB1 := Lib.hid hb1
      unfold errV at hg HF
      have hkI : ((st.kind : Int) == 3) = true ∨ (((st.kind : Int) == 3) = false ∧ (st.kind : Int) = 4) := by
        rcases hk with h | h
        · left; rw [h]; rfl
        · right; rw [h]; exact ⟨rfl, rfl⟩
      clear c0 c2 c3 c4 c5 he h HP hrow hE hb h1 hb1 hka hk
      rcases hkI with hk3 | ⟨hk3, hk4⟩
      · have hk3 : (st.kind : Int) = 3 := by simpa using hk3
        rw [hk3] at c1
        clear hk3
        go_enter Tryz.func212, Tryz.ntmps212
        go_wp2_with fail
        refine HF.out.mono ?_
        rintro x w0 ⟨rfl, hp0, hg0⟩
        have HR := Lib.hid (HPR.out w0 (HB1.out.grown hg0 HB1.out.size (fun k hk => by obtain rfl := Option.some.inj hk; exact hWq)) hp0)
        have HZ0 := Lib.hid (HZ.out.kept hg0 (by intro e; have := Option.some.inj e; omega))
        have HG0 := Lib.hid (grown_trans (grown_alloc w (.cells #[.int .i64 0, .int .i64 0, .int .i64 0, .string ⟨#[]⟩, .string ⟨#[]⟩, .slice none 0 0] 185) (some q)) hg0)
        clear hp0 hg0
        go_wp2_with fail
        refine HR.out.mono ?_
        rintro x w1 ⟨⟨y, rfl, hat⟩, hp1, hg1⟩
        have HZ1 : Hid (Cel w1 w.heap.size Ex.zero.list) := HZ0.out.kept hg1 (by intro e; have := Option.some.inj e; omega)
        have HAT : Hid (At w1 (fun b => w.heap.size < b) eF y) := hat.mono (fun c hc _ => by have := HZ0.out.lt; omega)
        have HP1 := Lib.hid hp1
        have HG1 : Hid (w.grownBy w1 (some q)) := grown_trans HG0.out hg1
        obtain ⟨⟨z0, z1, z2, z3, z4, z5⟩, g0, g1, g2, g3, g4, g5⟩ := HZ1.out.six_of
        clear hat hp1 hg1
        unfold Ex.val
        go_wp2
        show bodyPost _ _ _ _ _ (set6 w1 w.heap.size y)
        obtain ⟨hfin, hpost⟩ := close6 HZ1.out HAT.out HP1.out HG1.out hlt
        generalize set6 w1 w.heap.size y = wf at *
        obtain ⟨⟨k0, k1, k2, k3, k4, k5⟩, _⟩ := hfin.six_of
        exact bodyPost_ret (v := y.val) (by simp [results, Tryz.results212, go_sem, k0, k1, k2, k3, k4, k5, Ex.val]) rfl hpost
      · rw [hk4] at c1
        clear hk3 hk4
        go_enter Tryz.func212, Tryz.ntmps212
        go_wp2_with fail
        refine HF.out.mono ?_
        rintro x w0 ⟨rfl, hp0, hg0⟩
        have HR := Lib.hid (HPR.out w0 (HB1.out.grown hg0 HB1.out.size (fun k hk => by obtain rfl := Option.some.inj hk; exact hWq)) hp0)
        have HZ0 := Lib.hid (HZ.out.kept hg0 (by intro e; have := Option.some.inj e; omega))
        have HG0 := Lib.hid (grown_trans (grown_alloc w (.cells #[.int .i64 0, .int .i64 0, .int .i64 0, .string ⟨#[]⟩, .string ⟨#[]⟩, .slice none 0 0] 185) (some q)) hg0)
        clear hp0 hg0
        go_wp2_with fail
        refine HR.out.mono ?_
        rintro x w1 ⟨⟨y, rfl, hat⟩, hp1, hg1⟩
        have HZ1 : Hid (Cel w1 w.heap.size Ex.zero.list) := HZ0.out.kept hg1 (by intro e; have := Option.some.inj e; omega)
        have HAT : Hid (At w1 (fun b => w.heap.size < b) eF y) := hat.mono (fun c hc _ => by have := HZ0.out.lt; omega)
        have HP1 := Lib.hid hp1
        have HG1 : Hid (w.grownBy w1 (some q)) := grown_trans HG0.out hg1
        obtain ⟨⟨z0, z1, z2, z3, z4, z5⟩, g0, g1, g2, g3, g4, g5⟩ := HZ1.out.six_of
        clear hat hp1 hg1
        unfold Ex.val
        go_wp2
        show bodyPost _ _ _ _ _ (set6 w1 w.heap.size y)
        obtain ⟨hfin, hpost⟩ := close6 HZ1.out HAT.out HP1.out HG1.out hlt
        generalize set6 w1 w.heap.size y = wf at *
        obtain ⟨⟨k0, k1, k2, k3, k4, k5⟩, _⟩ := hfin.six_of
        exact bodyPost_ret (v := y.val) (by simp [results, Tryz.results212, go_sem, k0, k1, k2, k3, k4, k5, Ex.val]) rfl hpost
    · rw [if_neg hk] at hrow
      have HR := Lib.hid (HP _ _ _ hrow _ hb1 h1)
      have hk3 : ((st.kind : Int) == 3) = false := by rw [beq_eq_false_iff_ne]; omega
      have hk4 : ((st.kind : Int) == 4) = false := by rw [beq_eq_false_iff_ne]; omega
      have HZ0 := HZ
      have HG0 := Lib.hid (grown_alloc w (.cells #[.int .i64 0, .int .i64 0, .int .i64 0, .string ⟨#[]⟩, .string ⟨#[]⟩, .slice none 0 0] 185) (some q))
      clear c0 c2 c3 c4 c5 he h HP hrow hE hb h1 hb1 hk
      go_enter Tryz.func212, Tryz.ntmps212
      go_wp2_with fail
      refine HR.out.mono ?_
      rintro x w1 ⟨⟨y, rfl, hat⟩, hp1, hg1⟩
      have HZ1 : Hid (Cel w1 w.heap.size Ex.zero.list) := HZ0.out.kept hg1 (by intro e; have := Option.some.inj e; omega)
      have HAT : Hid (At w1 (fun b => w.heap.size < b) eF y) := hat.mono (fun c hc _ => by simp at hc; omega)
      have HP1 := Lib.hid hp1
      have HG1 : Hid (w.grownBy w1 (some q)) := grown_trans HG0.out hg1
      obtain ⟨⟨z0, z1, z2, z3, z4, z5⟩, g0, g1, g2, g3, g4, g5⟩ := HZ1.out.six_of
      clear hat hp1 hg1
      unfold Ex.val
      go_wp2
      show bodyPost _ _ _ _ _ (set6 w1 w.heap.size y)
      obtain ⟨hfin, hpost⟩ := close6 HZ1.out HAT.out HP1.out HG1.out hlt
      generalize set6 w1 w.heap.size y = wf at *
      obtain ⟨⟨k0, k1, k2, k3, k4, k5⟩, _⟩ := hfin.six_of
      exact bodyPost_ret (v := y.val) (by simp [results, Tryz.results212, go_sem, k0, k1, k2, k3, k4, k5, Ex.val]) rfl hpost

set_option maxHeartbeats 1600000 in
theorem cbracket_any (hE : CoErrs W E) (hWq : W.heap.size ≤ q) (hd : d ≤ 12) (part : Nat → Co.St → Co.Out) (HP : d ≠ 12 → PartC E W q s 146 (d + 1) (part (d + 1))) : PartC E W q s 213 d (Co.bracket s.data.toList part d) := by
    intro st eF stF hrow w hb h
    have hlt := h.lt
    have h1 := h.alloc (.cells #[.int .i64 0, .int .i64 0, .int .i64 0, .string ⟨#[]⟩, .string ⟨#[]⟩, .slice none 0 0] 185)
    have hb1 : Below W.heap.size W (w.alloc (.cells #[.int .i64 0, .int .i64 0, .int .i64 0, .string ⟨#[]⟩, .string ⟨#[]⟩, .slice none 0 0] 185)) := hb.alloc hb.size _
    have HZ := Lib.hid (Cel.lit w #[.int .i64 0, .int .i64 0, .int .i64 0, .string ⟨#[]⟩, .string ⟨#[]⟩, .slice none 0 0] 185)
    unfold Co.bracket at hrow
    cases hdp : Co.deeper s.data.toList part d st with
    | none => rw [hdp] at hrow; cases hrow
    | some r =>
      obtain ⟨e1, st1⟩ := r
      rw [hdp] at hrow
      obtain ⟨rfl, hst⟩ : e1 = eF ∧ Co.next s.data.toList (if Co.isM s.data.toList st1 [41] = true then st1 else Co.fail 111 st1) = stF := by cases hrow; exact ⟨rfl, rfl⟩
      have HD := Lib.hid (cdeep_any hE hWq 146 (enters_of Tryz.func146 (by kernel_rfl) rfl) part hd HP st e1 st1 hdp _ hb1 h1)
      have HE := Lib.hid hE
      have HB1 := Lib.hid hb1
      clear hrow h HP hE h1 hb1 hdp hb
      go_enter Tryz.func213, Tryz.ntmps213
      go_wp2_with fail
      refine HD.out.mono ?_
      rintro x w1 ⟨⟨y, rfl, hat⟩, hp1, hg1⟩
      have hHZ1 : Cel w1 w.heap.size Ex.zero.list := HZ.out.kept hg1 (by intro e; have := Option.some.inj e; omega)
      have hl1 : w.heap.size < w1.heap.size := hHZ1.lt
      have HZ2 := Lib.hid (hHZ1.alloc (.cells #[.int .i64 y.op, .int .i64 y.kind, .int .i64 y.num, .string y.txt, .string y.name, .slice y.A y.n y.c] 185))
      have HY2 : Hid (Cel (w1.alloc (.cells #[.int .i64 y.op, .int .i64 y.kind, .int .i64 y.num, .string y.txt, .string y.name, .slice y.A y.n y.c] 185)) w1.heap.size y.list) := Cel.lit w1 #[.int .i64 y.op, .int .i64 y.kind, .int .i64 y.num, .string y.txt, .string y.name, .slice y.A y.n y.c] 185
      have HAT2 : Hid (At (w1.alloc (.cells #[.int .i64 y.op, .int .i64 y.kind, .int .i64 y.num, .string y.txt, .string y.name, .slice y.A y.n y.c] 185)) (fun b => w.heap.size < b) e1 y) := (hat.mono (fun c hc _ => by simp at hc; omega)).alloc _
      have hp2 := hp1.alloc (.cells #[.int .i64 y.op, .int .i64 y.kind, .int .i64 y.num, .string y.txt, .string y.name, .slice y.A y.n y.c] 185)
      have HG2 : Hid (w.grownBy (w1.alloc (.cells #[.int .i64 y.op, .int .i64 y.kind, .int .i64 y.num, .string y.txt, .string y.name, .slice y.A y.n y.c] 185)) (some q)) := grown_trans (grown_trans (grown_alloc _ _ _) hg1) (grown_alloc _ _ _)
      have hb2 : Below W.heap.size W (w1.alloc (.cells #[.int .i64 y.op, .int .i64 y.kind, .int .i64 y.num, .string y.txt, .string y.name, .slice y.A y.n y.c] 185)) := (HB1.out.grown hg1 HB1.out.size (fun k hk => by obtain rfl := Option.some.inj hk; exact hWq)).alloc (Nat.le_trans HB1.out.size hg1.size) _
      have HI := Lib.hid (cis_any hp2 [41])
      obtain ⟨a, hka, hg⟩ := (HE.out.below hb2).e111
      have hgl := cell_lt hg
      unfold errV at hg
      have HKA := Lib.hid hka
      have HP2 := Lib.hid hp2
      clear hat hp1 hg1 hHZ1 hp2 hb2 hka HZ HD
      unfold Ex.val
      cases hq : Co.isM s.data.toList st1 [41] with
      | true =>
        rw [hq, if_pos rfl] at hst
        rw [hq] at HI
        subst hst
        have HN := fun n : Nat => Lib.hid (cnext_any (HP2.out.drewN n))
        have HNN := Lib.hid HN
        clear HN hq hg
        go_wp2_with fail
        refine HI.out.mono ?_
        rintro x w' ⟨rfl, n, rfl⟩
        go_wp2_with fail
        refine (HNN.out n).out.mono ?_
        rintro x w3 ⟨rfl, hp3, hg3⟩
        have HG23 := Lib.hid (grown_trans (grown_of (World.grownBy.refl _ (some q)) (below_drewN (Below.refl _ _) n) (Nat.le_refl _)) hg3)
        have HP3 := Lib.hid hp3
        clear hp3 hg3
        have HZ3 := Lib.hid (HZ2.out.kept HG23.out (by intro e; have := Option.some.inj e; omega))
        have hlq : q < w1.heap.size := by omega
        have HY3 := Lib.hid (HY2.out.kept HG23.out (by intro e; have := Option.some.inj e; omega))
        have HAT3 : Hid (At w3 (fun b => w.heap.size < b) e1 y) := At.kept HG23.out (fun c hc _ => ⟨fun e => by have := Option.some.inj e; omega, hc⟩) HAT2.out
        have HG3 := Lib.hid (grown_trans HG2.out HG23.out)
        obtain ⟨⟨y0, y1, y2, y3, y4, y5⟩, _⟩ := HY3.out.six_of
        obtain ⟨⟨z0, z1, z2, z3, z4, z5⟩, g0, g1, g2, g3, g4, g5⟩ := HZ3.out.six_of
        go_wp2
        show bodyPost _ _ _ _ _ (set6 w3 w.heap.size y)
        obtain ⟨hfin, hpost⟩ := close6 HZ3.out HAT3.out HP3.out HG3.out hlt
        generalize set6 w3 w.heap.size y = wf at *
        obtain ⟨⟨k0, k1, k2, k3, k4, k5⟩, _⟩ := hfin.six_of
        exact bodyPost_ret (v := y.val) (by simp [results, Tryz.results213, go_sem, k0, k1, k2, k3, k4, k5, Ex.val]) rfl hpost
      | false =>
        rw [hq, if_neg (by simp)] at hst
        rw [hq] at HI
        subst hst
        have HF := fun n : Nat => Lib.hid (cfail_any (HP2.out.drewN n) 111 a HKA.out (by decide))
        have HFF := Lib.hid HF
        unfold errV at HFF
        clear HF hq
        go_wp2_with fail
        refine HI.out.mono ?_
        rintro x w' ⟨rfl, n, rfl⟩
        go_wp2_with fail
        refine (HFF.out n).out.mono ?_
        rintro x w2 ⟨rfl, hp2, hg2⟩
        have HN := Lib.hid (cnext_any hp2)
        have HG2x := Lib.hid hg2
        clear hp2 hg2
        go_wp2_with fail
        refine HN.out.mono ?_
        rintro x w3 ⟨rfl, hp3, hg3⟩
        have HG23 := Lib.hid (grown_trans (grown_of (World.grownBy.refl _ (some q)) (below_drewN (Below.refl _ _) n) (Nat.le_refl _)) (grown_trans HG2x.out hg3))
        have HP3 := Lib.hid hp3
        clear hp3 hg3
        have HZ3 := Lib.hid (HZ2.out.kept HG23.out (by intro e; have := Option.some.inj e; omega))
        have hlq : q < w1.heap.size := by omega
        have HY3 := Lib.hid (HY2.out.kept HG23.out (by intro e; have := Option.some.inj e; omega))
        have HAT3 : Hid (At w3 (fun b => w.heap.size < b) e1 y) := At.kept HG23.out (fun c hc _ => ⟨fun e => by have := Option.some.inj e; omega, hc⟩) HAT2.out
        have HG3 := Lib.hid (grown_trans HG2.out HG23.out)
        obtain ⟨⟨y0, y1, y2, y3, y4, y5⟩, _⟩ := HY3.out.six_of
        obtain ⟨⟨z0, z1, z2, z3, z4, z5⟩, g0, g1, g2, g3, g4, g5⟩ := HZ3.out.six_of
        go_wp2
        show bodyPost _ _ _ _ _ (set6 w3 w.heap.size y)
        obtain ⟨hfin, hpost⟩ := close6 HZ3.out HAT3.out HP3.out HG3.out hlt
        generalize set6 w3 w.heap.size y = wf at *
        obtain ⟨⟨k0, k1, k2, k3, k4, k5⟩, _⟩ := hfin.six_of
        exact bodyPost_ret (v := y.val) (by simp [results, Tryz.results213, go_sem, k0, k1, k2, k3, k4, k5, Ex.val]) rfl hpost
end
end Go.Proofs.YtkffnfgdmcebdaaGreatDoor
