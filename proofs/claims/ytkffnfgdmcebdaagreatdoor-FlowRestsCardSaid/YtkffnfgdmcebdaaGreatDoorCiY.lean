/- Walks of package cond: a value, a name, a bracket. -/
import Derived.Test.YtkffnfgdmcebdaaGreatDoorChY
namespace Go.Proofs.YtkffnfgdmcebdaaGreatDoor
open Go.RowKit

theorem below_bytes (w : World) (t : TypeId) (s : ByteArray) : Below w.heap.size w (Lib.bytesWorld w t s) :=
  ⟨rfl, rfl, rfl, by rw [Lib.bytesWorld_size]; omega, fun _ hk => Lib.bytesWorld_at_old w t s _ hk⟩
theorem uint_digits : ∀ (l : List UInt8) (acc k : Nat), l.all Co.digit = true → l.length + k ≤ 9 → acc < 10 ^ k →
    Lib.parseUintM (2 ^ 64 - 1) acc l = .ok (l.foldl (fun a c => a * 10 + (c.toNat - 48)) acc) ∧ l.foldl (fun a c => a * 10 + (c.toNat - 48)) acc < 1000000000
  | [], acc, k, _, hk, ha => by
    have : 10 ^ k ≤ 10 ^ 9 := Nat.pow_le_pow_right (by decide) (by simpa using hk)
    exact ⟨rfl, by show acc < 1000000000; omega⟩
  | c :: r, acc, k, hd, hk, ha => by
    rw [List.all_cons, Bool.and_eq_true] at hd
    obtain ⟨h1, h2⟩ := hd
    unfold Co.digit at h1
    simp only [Bool.and_eq_true, decide_eq_true_eq] at h1
    have hk' : r.length + (k + 1) ≤ 9 := by rw [List.length_cons] at hk; omega
    have p1 : 10 ^ (k + 1) = 10 ^ k * 10 := Nat.pow_succ 10 k
    have p9 : 10 ^ (k + 1) ≤ 10 ^ 9 := Nat.pow_le_pow_right (by decide) (by omega)
    have ih := uint_digits r (acc * 10 + (c.toNat - 48)) (k + 1) h2 hk' (by omega)
    unfold Lib.parseUintM
    rw [if_pos h1, if_neg (by omega), if_neg (by omega)]
    exact ih
theorem parse_digits (t : List UInt8) (h1 : 1 ≤ t.length) (h9 : t.length ≤ 9) (hd : t.all Co.digit = true) : Lib.parseIntB 64 t = .ok (Co.numOf t) := by
  match t, h1 with
  | c :: r, _ =>
    obtain ⟨e1, e2⟩ := uint_digits (c :: r) 0 0 hd (by omega) (by decide)
    have hc := hd
    rw [List.all_cons, Bool.and_eq_true] at hc
    obtain ⟨hc, _⟩ := hc
    unfold Co.digit at hc
    simp only [Bool.and_eq_true, decide_eq_true_eq] at hc
    have hs : ¬ (c.toNat = 43 ∨ c.toNat = 45) := by omega
    have h45 : ¬ c.toNat = 45 := by omega
    unfold Lib.parseIntB
    simp only [hs, if_false]
    unfold Lib.parseUintB
    rw [if_neg (by simp), e1]
    unfold Co.numOf
    generalize (c :: r).foldl (fun a c => a * 10 + (c.toNat - 48)) 0 = u at *
    have hu : ¬ 2 ^ 63 ≤ u := by omega
    simp [h45]
    omega
theorem parse_int (t : List UInt8) (v : Int) (hl : t.length ≤ 80) (hv : Lib.parseIntB 64 t = .ok v) (w : World) :
    Calls Tryz.prog 214 #[.string ⟨t.toArray⟩, .int .i64 10, .int .i64 64] w fun e w' => e = .returned (.tuple #[.int .i64 v, .nilIface]) ∧ Below w.heap.size w w' := by
  have h : Calls Tryz.prog 214 #[.string ⟨t.toArray⟩, .int .i64 10, .int .i64 64] w fun e w' => e = .returned (.tuple #[.int .i64 v, .nilIface]) ∧ (w' = w ∨ ∃ t, w' = Lib.bytesWorld w 5 t) :=
    Any.strconv_ParseInt_10_at64_ok shLaysC174 ⟨t.toArray⟩ (by show t.toArray.size ≤ _; simp; omega) v (by simpa using hv) w
  refine h.mono ?_
  rintro e w' ⟨h1, h2⟩
  refine ⟨h1, ?_⟩
  rcases h2 with rfl | ⟨t', rfl⟩
  · exact Below.refl _ _
  · exact below_bytes w _ t'
section
variable {E : Int → Option Addr} {W w w1 : World} {q d : Nat} {s : ByteArray} {st : Co.St} {e : Co.Tr} {y : Ex}
/-- The value's three cells are written. -/
def set3 (w : World) (z : Nat) (k n : Int) (t : ByteArray) : World :=
  ((w.setCell ⟨z, 1, none⟩ (.int .i64 k)).setCell ⟨z, 2, none⟩ (.int .i64 n)).setCell ⟨z, 3, none⟩ (.string t)
theorem set3_grown (w : World) (z : Nat) (k n : Int) (t : ByteArray) : w.grownBy (set3 w z k n t) (some z) :=
  set_grown (set_grown (set_grown (World.grownBy.refl _ _) 1 _) 2 _) 3 _
theorem Cel.three {z : Nat} (h : Cel w z (Ex.list ⟨1, 0, 0, ⟨#[]⟩, ⟨#[]⟩, none, 0, 0⟩)) (k n : Int) (t : ByteArray) : Cel (set3 w z k n t) z (Ex.list ⟨1, k, n, t, ⟨#[]⟩, none, 0, 0⟩) :=
  ((h.set (i := 1) (by simp [Ex.list]) _).set (i := 2) (by simp [Ex.list]) _).set (i := 3) (by simp [Ex.list]) _

set_option maxHeartbeats 3200000 in
theorem csingle_any (hE : CoErrs W E) (other : Co.St → Co.Out) (HO : PartC E W q s 213 d other) : PartC E W q s 211 d (Co.single s.data.toList other) := by
    intro st eF stF hrow w hb h
    have hlt := h.lt
    have h1 := h.alloc (.cells #[.int .i64 0, .int .i64 0, .int .i64 0, .string ⟨#[]⟩, .string ⟨#[]⟩, .slice none 0 0] 185)
    have hb1 : Below W.heap.size W (w.alloc (.cells #[.int .i64 0, .int .i64 0, .int .i64 0, .string ⟨#[]⟩, .string ⟨#[]⟩, .slice none 0 0] 185)) := hb.alloc hb.size _
    have HI := Lib.hid (cis_any h1 [40])
    have HZ := Lib.hid (Cel.lit w #[.int .i64 0, .int .i64 0, .int .i64 0, .string ⟨#[]⟩, .string ⟨#[]⟩, .slice none 0 0] 185)
    unfold Co.single at hrow
    cases hq : Co.isM s.data.toList st [40] with
    | true =>
      rw [hq] at HI
      rw [if_pos hq] at hrow
      have HX := fun n : Nat => Lib.hid (HO st eF stF hrow _ (hb1.trans (below_drewN (Below.refl _ _) n)) (h1.drewN n))
      have HXX := Lib.hid HX
      clear hrow h HO hE h1 hb1 hq HX
      go_enter Tryz.func211, Tryz.ntmps211
      go_wp2_with fail
      refine HI.out.mono ?_
      rintro x w' ⟨rfl, n, rfl⟩
      go_wp2_with fail
      refine (HXX.out n).out.mono ?_
      rintro x w1 ⟨⟨y, rfl, hat⟩, hp1, hg1⟩
      have HZ1 : Hid (Cel w1 w.heap.size Ex.zero.list) := (HZ.out.drewN n).kept hg1 (by intro e; have := Option.some.inj e; omega)
      have HAT : Hid (At w1 (fun b => w.heap.size < b) eF y) := hat.mono (fun c hc _ => by simp at hc; omega)
      have HP1 := Lib.hid hp1
      have HG1 : Hid (w.grownBy w1 (some q)) := grown_trans (grown_of (grown_alloc _ _ _) (below_drewN (Below.refl _ _) n) (Nat.le_refl _)) hg1
      obtain ⟨⟨z0, z1, z2, z3, z4, z5⟩, g0, g1, g2, g3, g4, g5⟩ := HZ1.out.six_of
      clear hat hp1 hg1
      unfold Ex.val
      go_wp2
      show bodyPost _ _ _ _ _ (set6 w1 w.heap.size y)
      obtain ⟨hfin, hpost⟩ := close6 HZ1.out HAT.out HP1.out HG1.out hlt
      generalize set6 w1 w.heap.size y = wf at *
      obtain ⟨⟨k0, k1, k2, k3, k4, k5⟩, _⟩ := hfin.six_of
      exact bodyPost_ret (v := y.val) (by simp [results, Tryz.results211, go_sem, k0, k1, k2, k3, k4, k5, Ex.val]) rfl hpost
    | false =>
      rw [hq] at HI
      rw [if_neg (by rw [hq]; simp)] at hrow
      have hA := fun n : Nat => (h1.drewN n).alloc (.cells #[.int .i64 1, .int .i64 0, .int .i64 0, .string ⟨#[]⟩, .string ⟨#[]⟩, .slice none 0 0] 185)
      have HZ1 := fun n : Nat => Lib.hid ((HZ.out.drewN n).alloc (.cells #[.int .i64 1, .int .i64 0, .int .i64 0, .string ⟨#[]⟩, .string ⟨#[]⟩, .slice none 0 0] 185))
      have HY1 : ∀ n : Nat, Hid (Cel (((w.alloc (.cells #[.int .i64 0, .int .i64 0, .int .i64 0, .string ⟨#[]⟩, .string ⟨#[]⟩, .slice none 0 0] 185)).drewN n).alloc (.cells #[.int .i64 1, .int .i64 0, .int .i64 0, .string ⟨#[]⟩, .string ⟨#[]⟩, .slice none 0 0] 185)) (w.heap.size + 1) (Ex.list ⟨1, 0, 0, ⟨#[]⟩, ⟨#[]⟩, none, 0, 0⟩)) := fun n => by
        have := Cel.lit ((w.alloc (.cells #[.int .i64 0, .int .i64 0, .int .i64 0, .string ⟨#[]⟩, .string ⟨#[]⟩, .slice none 0 0] 185)).drewN n) #[.int .i64 1, .int .i64 0, .int .i64 0, .string ⟨#[]⟩, .string ⟨#[]⟩, .slice none 0 0] 185
        rwa [show ((w.alloc (.cells #[.int .i64 0, .int .i64 0, .int .i64 0, .string ⟨#[]⟩, .string ⟨#[]⟩, .slice none 0 0] 185)).drewN n).heap.size = w.heap.size + 1 from by simp] at this
      have HG1 := fun n : Nat => Lib.hid (grown_trans (grown_of (grown_alloc w (.cells #[.int .i64 0, .int .i64 0, .int .i64 0, .string ⟨#[]⟩, .string ⟨#[]⟩, .slice none 0 0] 185) (some q)) (below_drewN (Below.refl _ _) n) (Nat.le_refl _)) (grown_alloc _ (.cells #[.int .i64 1, .int .i64 0, .int .i64 0, .string ⟨#[]⟩, .string ⟨#[]⟩, .slice none 0 0] 185) (some q)))
      have HB1 := fun n : Nat => Lib.hid ((hb1.trans (below_drewN (Below.refl _ _) n)).alloc (by simpa using Nat.le_succ_of_le hb.size) (.cells #[.int .i64 1, .int .i64 0, .int .i64 0, .string ⟨#[]⟩, .string ⟨#[]⟩, .slice none 0 0] 185))
      have HT := fun n : Nat => Lib.hid (ctxt_any (hA n))
      obtain ⟨ev, ⟨c0, c1, c2, c3, c4, c5⟩, he⟩ := h.cells
      have hext : (s.extract st.frm st.till).data.toList = Co.text s.data.toList st := ext_list _ _ _
      have hxs := ext_size s _ _ h.ord h.top
      have h80 := h.size
      have htp := h.top
      have HHA := Lib.hid hA
      have HHZ := Lib.hid HZ1
      have HHY := Lib.hid HY1
      have HHG := Lib.hid HG1
      have HHB := Lib.hid HB1
      have HHT := Lib.hid HT
      have HEX := Lib.hid hext
      have HE := Lib.hid hE
      clear c0 c2 c3 c4 c5 he h HO hE h1 hb1 hb hq hA HZ1 HY1 HG1 HB1 HT hext HZ
      by_cases k2 : st.kind = 2
      · have HROW := hrow
        rw [if_pos k2] at hrow
        have hcases : ∃ v : Int, (Co.Tr.leaf 1 1 v [] [] = eF ∧ Co.next s.data.toList st = stF) ∧ Lib.parseIntB 64 (Co.text s.data.toList st) = .ok v := by
          split at hrow
          · rename_i ht; exact ⟨Co.numOf (Co.text s.data.toList st), by cases hrow; exact ⟨rfl, rfl⟩, parse_digits _ ht.1 ht.2.1 ht.2.2⟩
          · cases hrow
        obtain ⟨v, ⟨rfl, rfl⟩, hv⟩ := hcases
        have hxt : s.extract st.frm st.till = ⟨(Co.text s.data.toList st).toArray⟩ := Co.of_lit HEX.out
        have HPI := fun w' => Lib.hid (parse_int (Co.text s.data.toList st) v (by rw [← HEX.out]; simp; omega) hv w')
        rw [← hxt] at HPI
        have HHP := Lib.hid HPI
        have hk : (st.kind : Int) = 2 := by omega
        rw [hk] at c1
        clear hrow HROW hv hxt HPI k2 hk
        go_enter Tryz.func211, Tryz.ntmps211
        go_wp2_with fail
        refine HI.out.mono ?_
        rintro x w' ⟨rfl, n, rfl⟩
        go_wp2_with fail
        refine (HHT.out n).out.mono ?_
        rintro x w' ⟨rfl, m, rfl⟩
        go_wp2_with fail
        refine (HHP.out _).out.mono ?_
        rintro x w2 ⟨rfl, hb2⟩
        go_wp2_with fail
        refine (vnum_any v w2).mono ?_
        rintro x w3 ⟨rfl, hb3⟩
        have hbb : Below _ _ w3 := ((below_drewN (Below.refl _ _) m).trans hb2).trans (hb3.mono hb2.size)
        have HY3 := Lib.hid ((HHY.out n).out.below hbb (Nat.le_refl _))
        have HZ3 := Lib.hid ((HHZ.out n).out.below hbb (Nat.le_refl _))
        have HP3 := Lib.hid ((HHA.out n).below hbb (Nat.le_refl _))
        have HG3 := Lib.hid (grown_of (HHG.out n).out hbb (Nat.le_refl _))
        clear hbb hb2 hb3
        obtain ⟨⟨y0, y1, y2, y3, y4, y5⟩, gy0, gy1, gy2, gy3, gy4, gy5⟩ := HY3.out.six_of
        have hly : w.heap.size + 1 < w3.heap.size := HY3.out.lt
        go_wp2_with fail
        obtain ⟨w4, hw4⟩ : ∃ w4, w4 = set3 w3 (w.heap.size + 1) (1) (v) ⟨#[]⟩ := ⟨_, rfl⟩
        have hg4 : w3.grownBy w4 (some (w.heap.size + 1)) := hw4 ▸ set3_grown _ _ _ _ _
        have HY4 : Hid (Cel w4 (w.heap.size + 1) (Ex.list ⟨1, 1, v, ⟨#[]⟩, ⟨#[]⟩, none, 0, 0⟩)) := hw4 ▸ HY3.out.three _ _ _
        have HZ4 : Hid (Cel w4 w.heap.size Ex.zero.list) := (HZ3.out.kept hg4 (by intro e; have := Option.some.inj e; omega))
        have HP4 := Lib.hid (HP3.out.other hg4 (by omega) HY3.out.int1)
        have HG4 := Lib.hid (grown_past HG3.out hg4 (by omega))
        show Calls _ _ _ (set3 w3 (w.heap.size + 1) (1) (v) ⟨#[]⟩) _
        rw [← hw4]
        have HN := Lib.hid (cnext_any HP4.out)
        clear hw4 hg4 y0 y1 y2 y3 y4 y5 gy0 gy1 gy2 gy3 gy4 gy5
        refine HN.out.mono ?_
        rintro x w5 ⟨rfl, hp5, hg5⟩
        have HY5 := Lib.hid (HY4.out.kept hg5 (by intro e; have := Option.some.inj e; omega))
        have HZ5 : Hid (Cel w5 w.heap.size Ex.zero.list) := (HZ4.out.kept hg5 (by intro e; have := Option.some.inj e; omega))
        have HG5 := Lib.hid (grown_trans HG4.out hg5)
        have HP5 := Lib.hid hp5
        clear hp5 hg5
        obtain ⟨⟨y0, y1, y2, y3, y4, y5⟩, _⟩ := HY5.out.six_of
        obtain ⟨⟨z0, z1, z2, z3, z4, z5⟩, g0, g1, g2, g3, g4, g5⟩ := HZ5.out.six_of
        dsimp only at y0 y1 y2 y3 y4 y5
        go_wp2
        show bodyPost _ _ _ _ _ (set6 w5 w.heap.size ⟨1, 1, v, ⟨#[]⟩, ⟨#[]⟩, none, 0, 0⟩)
        obtain ⟨hfin, hpost⟩ := close6 (e := .leaf 1 (1) (v) [] []) (y := ⟨1, 1, v, ⟨#[]⟩, ⟨#[]⟩, none, 0, 0⟩) HZ5.out rfl HP5.out HG5.out hlt
        generalize set6 w5 w.heap.size _ = wf at *
        obtain ⟨⟨k0, k1, k2, k3, k4, k5⟩, _⟩ := hfin.six_of
        dsimp only at k0 k1 k2 k3 k4 k5
        exact bodyPost_ret (v := Ex.val ⟨1, 1, v, ⟨#[]⟩, ⟨#[]⟩, none, 0, 0⟩) (by simp [results, Tryz.results211, go_sem, k0, k1, k2, k3, k4, k5, Ex.val]) rfl hpost
      by_cases k3 : st.kind = 3
      · rw [if_neg k2, if_pos k3] at hrow
        by_cases hx2 : 2 ≤ (Co.text s.data.toList st).length
        case neg => rw [if_neg hx2] at hrow; cases hrow
        rw [if_pos hx2] at hrow
        obtain ⟨rfl, rfl⟩ : Co.Tr.leaf 1 3 0 (((Co.text s.data.toList st).drop 1).take ((Co.text s.data.toList st).length - 2)) [] = eF ∧ Co.next s.data.toList st = stF := by cases hrow; exact ⟨rfl, rfl⟩
        rw [← HEX.out] at hx2
        have hx2 : 2 ≤ (s.extract st.frm st.till).size := by rw [Lib.size_eq]; exact hx2
        have hx3 : (2 : Int) ≤ ((s.extract st.frm st.till).size : Int) := by omega
        have hk : (st.kind : Int) = 3 := by omega
        rw [hk] at c1
        clear hrow k2 k3 hk
        have hlf : Ex.mk 1 3 0 ((s.extract st.frm st.till).extract 1 (st.till - st.frm - 1)) ⟨#[]⟩ none 0 0 = ⟨1, 3, 0, ⟨(((Co.text s.data.toList st).drop 1).take ((Co.text s.data.toList st).length - 2)).toArray⟩, ⟨([] : List UInt8).toArray⟩, none, 0, 0⟩ := by
          have h1 : ((s.extract st.frm st.till).extract 1 (st.till - st.frm - 1)).data.toList = (((Co.text s.data.toList st).drop 1).take ((Co.text s.data.toList st).length - 2)) := by
            rw [ext_list, HEX.out]
            congr 1
            rw [← HEX.out, ← Lib.size_eq, hxs]
            omega
          rw [Co.of_lit h1]
        have HLF := Lib.hid hlf
        clear hlf
        generalize s.extract st.frm st.till = tt at *
        go_enter Tryz.func211, Tryz.ntmps211
        go_wp2_with fail
        refine HI.out.mono ?_
        rintro x w' ⟨rfl, n, rfl⟩
        go_wp2_with fail
        refine (HHT.out n).out.mono ?_
        rintro x w' ⟨rfl, m, rfl⟩
        go_wp2_with fail
        refine (vword_any _ _).mono ?_
        rintro x w3 ⟨rfl, hb3⟩
        have hbb : Below _ _ w3 := (below_drewN (Below.refl _ _) m).trans hb3
        have HY3 := Lib.hid ((HHY.out n).out.below hbb (Nat.le_refl _))
        have HZ3 := Lib.hid ((HHZ.out n).out.below hbb (Nat.le_refl _))
        have HP3 := Lib.hid ((HHA.out n).below hbb (Nat.le_refl _))
        have HG3 := Lib.hid (grown_of (HHG.out n).out hbb (Nat.le_refl _))
        clear hbb hb3
        obtain ⟨⟨y0, y1, y2, y3, y4, y5⟩, gy0, gy1, gy2, gy3, gy4, gy5⟩ := HY3.out.six_of
        have hly : w.heap.size + 1 < w3.heap.size := HY3.out.lt
        go_wp2_with fail
        obtain ⟨w4, hw4⟩ : ∃ w4, w4 = set3 w3 (w.heap.size + 1) (3) (0) (tt.extract 1 (st.till - st.frm - 1)) := ⟨_, rfl⟩
        have hg4 : w3.grownBy w4 (some (w.heap.size + 1)) := hw4 ▸ set3_grown _ _ _ _ _
        have HY4 : Hid (Cel w4 (w.heap.size + 1) (Ex.list ⟨1, 3, 0, (tt.extract 1 (st.till - st.frm - 1)), ⟨#[]⟩, none, 0, 0⟩)) := hw4 ▸ HY3.out.three _ _ _
        have HZ4 : Hid (Cel w4 w.heap.size Ex.zero.list) := (HZ3.out.kept hg4 (by intro e; have := Option.some.inj e; omega))
        have HP4 := Lib.hid (HP3.out.other hg4 (by omega) HY3.out.int1)
        have HG4 := Lib.hid (grown_past HG3.out hg4 (by omega))
        show Calls _ _ _ (set3 w3 (w.heap.size + 1) (3) (0) (tt.extract 1 (st.till - st.frm - 1))) _
        rw [← hw4]
        have HN := Lib.hid (cnext_any HP4.out)
        clear hw4 hg4 y0 y1 y2 y3 y4 y5 gy0 gy1 gy2 gy3 gy4 gy5
        refine HN.out.mono ?_
        rintro x w5 ⟨rfl, hp5, hg5⟩
        have HY5 := Lib.hid (HY4.out.kept hg5 (by intro e; have := Option.some.inj e; omega))
        have HZ5 : Hid (Cel w5 w.heap.size Ex.zero.list) := (HZ4.out.kept hg5 (by intro e; have := Option.some.inj e; omega))
        have HG5 := Lib.hid (grown_trans HG4.out hg5)
        have HP5 := Lib.hid hp5
        clear hp5 hg5
        obtain ⟨⟨y0, y1, y2, y3, y4, y5⟩, _⟩ := HY5.out.six_of
        obtain ⟨⟨z0, z1, z2, z3, z4, z5⟩, g0, g1, g2, g3, g4, g5⟩ := HZ5.out.six_of
        dsimp only at y0 y1 y2 y3 y4 y5
        go_wp2
        show bodyPost _ _ _ _ _ (set6 w5 w.heap.size ⟨1, 3, 0, (tt.extract 1 (st.till - st.frm - 1)), ⟨#[]⟩, none, 0, 0⟩)
        obtain ⟨hfin, hpost⟩ := close6 (e := .leaf 1 3 0 (((Co.text s.data.toList st).drop 1).take ((Co.text s.data.toList st).length - 2)) []) (y := ⟨1, 3, 0, (tt.extract 1 (st.till - st.frm - 1)), ⟨#[]⟩, none, 0, 0⟩) HZ5.out HLF.out HP5.out HG5.out hlt
        generalize set6 w5 w.heap.size _ = wf at *
        obtain ⟨⟨k0, k1, k2, k3, k4, k5⟩, _⟩ := hfin.six_of
        dsimp only at k0 k1 k2 k3 k4 k5
        exact bodyPost_ret (v := Ex.val ⟨1, 3, 0, (tt.extract 1 (st.till - st.frm - 1)), ⟨#[]⟩, none, 0, 0⟩) (by simp [results, Tryz.results211, go_sem, k0, k1, k2, k3, k4, k5, Ex.val]) rfl hpost
      by_cases k4 : st.kind = 4
      · rw [if_neg k2, if_neg k3, if_pos k4] at hrow
        obtain ⟨rfl, rfl⟩ : Co.Tr.leaf 1 2 (if Co.text s.data.toList st = [116, 114, 117, 101] then 1 else 0) [] [] = eF ∧ Co.next s.data.toList st = stF := by cases hrow; exact ⟨rfl, rfl⟩
        have hk : (st.kind : Int) = 4 := by omega
        rw [hk] at c1
        have hte : ((s.extract st.frm st.till).toList == [116, 114, 117, 101]) = decide (Co.text s.data.toList st = [116, 114, 117, 101]) := is_eq _
        clear hrow k2 k3 k4 hk
        by_cases hbt : Co.text s.data.toList st = [116, 114, 117, 101]
        · rw [decide_eq_true hbt] at hte
          have HBT := Lib.hid hbt
          clear hbt
          have htt := Co.of_lit (HEX.out.trans HBT.out)
          rw [htt] at HHT
          clear hte htt
          go_enter Tryz.func211, Tryz.ntmps211
          go_wp2_with fail
          refine HI.out.mono ?_
          rintro x w' ⟨rfl, n, rfl⟩
          go_wp2_with fail
          refine (HHT.out n).out.mono ?_
          rintro x w' ⟨rfl, m, rfl⟩
          go_wp2_with fail
          refine (vflag_any _ _).mono ?_
          rintro x w3 ⟨rfl, hb3⟩
          have hbb : Below _ _ w3 := (below_drewN (Below.refl _ _) m).trans hb3
          have HY3 := Lib.hid ((HHY.out n).out.below hbb (Nat.le_refl _))
          have HZ3 := Lib.hid ((HHZ.out n).out.below hbb (Nat.le_refl _))
          have HP3 := Lib.hid ((HHA.out n).below hbb (Nat.le_refl _))
          have HG3 := Lib.hid (grown_of (HHG.out n).out hbb (Nat.le_refl _))
          clear hbb hb3
          obtain ⟨⟨y0, y1, y2, y3, y4, y5⟩, gy0, gy1, gy2, gy3, gy4, gy5⟩ := HY3.out.six_of
          have hly : w.heap.size + 1 < w3.heap.size := HY3.out.lt
          go_wp2_with fail
          obtain ⟨w4, hw4⟩ : ∃ w4, w4 = set3 w3 (w.heap.size + 1) (2) (1) ⟨#[]⟩ := ⟨_, rfl⟩
          have hg4 : w3.grownBy w4 (some (w.heap.size + 1)) := hw4 ▸ set3_grown _ _ _ _ _
          have HY4 : Hid (Cel w4 (w.heap.size + 1) (Ex.list ⟨1, 2, 1, ⟨#[]⟩, ⟨#[]⟩, none, 0, 0⟩)) := hw4 ▸ HY3.out.three _ _ _
          have HZ4 : Hid (Cel w4 w.heap.size Ex.zero.list) := (HZ3.out.kept hg4 (by intro e; have := Option.some.inj e; omega))
          have HP4 := Lib.hid (HP3.out.other hg4 (by omega) HY3.out.int1)
          have HG4 := Lib.hid (grown_past HG3.out hg4 (by omega))
          show Calls _ _ _ (set3 w3 (w.heap.size + 1) (2) (1) ⟨#[]⟩) _
          rw [← hw4]
          have HN := Lib.hid (cnext_any HP4.out)
          clear hw4 hg4 y0 y1 y2 y3 y4 y5 gy0 gy1 gy2 gy3 gy4 gy5
          refine HN.out.mono ?_
          rintro x w5 ⟨rfl, hp5, hg5⟩
          have HY5 := Lib.hid (HY4.out.kept hg5 (by intro e; have := Option.some.inj e; omega))
          have HZ5 : Hid (Cel w5 w.heap.size Ex.zero.list) := (HZ4.out.kept hg5 (by intro e; have := Option.some.inj e; omega))
          have HG5 := Lib.hid (grown_trans HG4.out hg5)
          have HP5 := Lib.hid hp5
          clear hp5 hg5
          obtain ⟨⟨y0, y1, y2, y3, y4, y5⟩, _⟩ := HY5.out.six_of
          obtain ⟨⟨z0, z1, z2, z3, z4, z5⟩, g0, g1, g2, g3, g4, g5⟩ := HZ5.out.six_of
          dsimp only at y0 y1 y2 y3 y4 y5
          go_wp2
          show bodyPost _ _ _ _ _ (set6 w5 w.heap.size ⟨1, 2, 1, ⟨#[]⟩, ⟨#[]⟩, none, 0, 0⟩)
          obtain ⟨hfin, hpost⟩ := close6 (e := .leaf 1 (2) (1) [] []) (y := ⟨1, 2, 1, ⟨#[]⟩, ⟨#[]⟩, none, 0, 0⟩) HZ5.out rfl HP5.out HG5.out hlt
          generalize set6 w5 w.heap.size _ = wf at *
          obtain ⟨⟨k0, k1, k2, k3, k4, k5⟩, _⟩ := hfin.six_of
          dsimp only at k0 k1 k2 k3 k4 k5
          exact bodyPost_ret (v := Ex.val ⟨1, 2, 1, ⟨#[]⟩, ⟨#[]⟩, none, 0, 0⟩) (by simp [results, Tryz.results211, go_sem, k0, k1, k2, k3, k4, k5, Ex.val]) rfl hpost
        · rw [decide_eq_false hbt] at hte
          have HBT := Lib.hid hbt
          clear hbt
          generalize s.extract st.frm st.till = tt at *
          go_enter Tryz.func211, Tryz.ntmps211
          go_wp2_with fail
          refine HI.out.mono ?_
          rintro x w' ⟨rfl, n, rfl⟩
          go_wp2_with fail
          refine (HHT.out n).out.mono ?_
          rintro x w' ⟨rfl, m, rfl⟩
          go_wp2_with fail
          refine (vflag_any _ _).mono ?_
          rintro x w3 ⟨rfl, hb3⟩
          have hbb : Below _ _ w3 := (below_drewN (Below.refl _ _) m).trans hb3
          have HY3 := Lib.hid ((HHY.out n).out.below hbb (Nat.le_refl _))
          have HZ3 := Lib.hid ((HHZ.out n).out.below hbb (Nat.le_refl _))
          have HP3 := Lib.hid ((HHA.out n).below hbb (Nat.le_refl _))
          have HG3 := Lib.hid (grown_of (HHG.out n).out hbb (Nat.le_refl _))
          clear hbb hb3
          obtain ⟨⟨y0, y1, y2, y3, y4, y5⟩, gy0, gy1, gy2, gy3, gy4, gy5⟩ := HY3.out.six_of
          have hly : w.heap.size + 1 < w3.heap.size := HY3.out.lt
          go_wp2_with fail
          obtain ⟨w4, hw4⟩ : ∃ w4, w4 = set3 w3 (w.heap.size + 1) (2) (0) ⟨#[]⟩ := ⟨_, rfl⟩
          have hg4 : w3.grownBy w4 (some (w.heap.size + 1)) := hw4 ▸ set3_grown _ _ _ _ _
          have HY4 : Hid (Cel w4 (w.heap.size + 1) (Ex.list ⟨1, 2, 0, ⟨#[]⟩, ⟨#[]⟩, none, 0, 0⟩)) := hw4 ▸ HY3.out.three _ _ _
          have HZ4 : Hid (Cel w4 w.heap.size Ex.zero.list) := (HZ3.out.kept hg4 (by intro e; have := Option.some.inj e; omega))
          have HP4 := Lib.hid (HP3.out.other hg4 (by omega) HY3.out.int1)
          have HG4 := Lib.hid (grown_past HG3.out hg4 (by omega))
          show Calls _ _ _ (set3 w3 (w.heap.size + 1) (2) (0) ⟨#[]⟩) _
          rw [← hw4]
          have HN := Lib.hid (cnext_any HP4.out)
          clear hw4 hg4 y0 y1 y2 y3 y4 y5 gy0 gy1 gy2 gy3 gy4 gy5
          refine HN.out.mono ?_
          rintro x w5 ⟨rfl, hp5, hg5⟩
          have HY5 := Lib.hid (HY4.out.kept hg5 (by intro e; have := Option.some.inj e; omega))
          have HZ5 : Hid (Cel w5 w.heap.size Ex.zero.list) := (HZ4.out.kept hg5 (by intro e; have := Option.some.inj e; omega))
          have HG5 := Lib.hid (grown_trans HG4.out hg5)
          have HP5 := Lib.hid hp5
          clear hp5 hg5
          obtain ⟨⟨y0, y1, y2, y3, y4, y5⟩, _⟩ := HY5.out.six_of
          obtain ⟨⟨z0, z1, z2, z3, z4, z5⟩, g0, g1, g2, g3, g4, g5⟩ := HZ5.out.six_of
          dsimp only at y0 y1 y2 y3 y4 y5
          go_wp2
          show bodyPost _ _ _ _ _ (set6 w5 w.heap.size ⟨1, 2, 0, ⟨#[]⟩, ⟨#[]⟩, none, 0, 0⟩)
          obtain ⟨hfin, hpost⟩ := close6 (e := .leaf 1 (2) (0) [] []) (y := ⟨1, 2, 0, ⟨#[]⟩, ⟨#[]⟩, none, 0, 0⟩) HZ5.out rfl HP5.out HG5.out hlt
          generalize set6 w5 w.heap.size _ = wf at *
          obtain ⟨⟨k0, k1, k2, k3, k4, k5⟩, _⟩ := hfin.six_of
          dsimp only at k0 k1 k2 k3 k4 k5
          exact bodyPost_ret (v := Ex.val ⟨1, 2, 0, ⟨#[]⟩, ⟨#[]⟩, none, 0, 0⟩) (by simp [results, Tryz.results211, go_sem, k0, k1, k2, k3, k4, k5, Ex.val]) rfl hpost
      by_cases k5 : st.kind = 5
      · rw [if_neg k2, if_neg k3, if_neg k4, if_pos k5] at hrow
        obtain ⟨rfl, rfl⟩ : Co.Tr.leaf 2 0 0 [] (Co.text s.data.toList st) = eF ∧ Co.next s.data.toList st = stF := by cases hrow; exact ⟨rfl, rfl⟩
        have hxt : s.extract st.frm st.till = ⟨(Co.text s.data.toList st).toArray⟩ := Co.of_lit HEX.out
        have hk : (st.kind : Int) = 5 := by omega
        rw [hk] at c1
        have HXT := Lib.hid hxt
        clear hrow k2 k3 k4 k5 hk hxt
        generalize s.extract st.frm st.till = tt at *
        go_enter Tryz.func211, Tryz.ntmps211
        go_wp2_with fail
        refine HI.out.mono ?_
        rintro x w' ⟨rfl, n, rfl⟩
        go_wp2_with fail
        refine (HHT.out n).out.mono ?_
        rintro x w3 ⟨rfl, m, hw3⟩
        have hbb : Below (((w.alloc (.cells #[.int .i64 0, .int .i64 0, .int .i64 0, .string ⟨#[]⟩, .string ⟨#[]⟩, .slice none 0 0] 185)).drewN n).alloc (.cells #[.int .i64 1, .int .i64 0, .int .i64 0, .string ⟨#[]⟩, .string ⟨#[]⟩, .slice none 0 0] 185)).heap.size (((w.alloc (.cells #[.int .i64 0, .int .i64 0, .int .i64 0, .string ⟨#[]⟩, .string ⟨#[]⟩, .slice none 0 0] 185)).drewN n).alloc (.cells #[.int .i64 1, .int .i64 0, .int .i64 0, .string ⟨#[]⟩, .string ⟨#[]⟩, .slice none 0 0] 185)) w3 := by rw [hw3]; exact below_drewN (Below.refl _ _) m
        have c13 : w3.cell? ⟨q, 1, none⟩ = some (.int .i64 5) := by
          have := (hbb.cell (p := ⟨q, 1, none⟩) (by simp; omega))
          rw [this]
          simpa [World.cell?_alloc_lt, Nat.ne_of_lt hlt, hlt, Nat.lt_succ_of_lt hlt] using c1
        clear hw3
        have HY3 := Lib.hid ((HHY.out n).out.below hbb (Nat.le_refl _))
        have HZ3 := Lib.hid ((HHZ.out n).out.below hbb (Nat.le_refl _))
        have HP3 := Lib.hid ((HHA.out n).below hbb (Nat.le_refl _))
        have HG3 := Lib.hid (grown_of (HHG.out n).out hbb (Nat.le_refl _))
        clear hbb
        obtain ⟨⟨y0, y1, y2, y3, y4, y5⟩, gy0, gy1, gy2, gy3, gy4, gy5⟩ := HY3.out.six_of
        have hly : w.heap.size + 1 < w3.heap.size := HY3.out.lt
        go_wp2_with fail
        obtain ⟨w4, hw4⟩ : ∃ w4, w4 = set6 w3 (w.heap.size + 1) ⟨2, 0, 0, ⟨#[]⟩, tt, none, 0, 0⟩ := ⟨_, rfl⟩
        have hg4 : w3.grownBy w4 (some (w.heap.size + 1)) := hw4 ▸ set6_grown _ _ _
        have HY4 : Hid (Cel w4 (w.heap.size + 1) (Ex.list ⟨2, 0, 0, ⟨#[]⟩, tt, none, 0, 0⟩)) := hw4 ▸ HY3.out.six _
        have HZ4 : Hid (Cel w4 w.heap.size Ex.zero.list) := (HZ3.out.kept hg4 (by intro e; have := Option.some.inj e; omega))
        have HP4 := Lib.hid (HP3.out.other hg4 (by omega) HY3.out.int1)
        have HG4 := Lib.hid (grown_past HG3.out hg4 (by omega))
        show Calls _ _ _ (set6 w3 (w.heap.size + 1) ⟨2, 0, 0, ⟨#[]⟩, tt, none, 0, 0⟩) _
        rw [← hw4]
        have HN := Lib.hid (cnext_any HP4.out)
        clear hw4 hg4 y0 y1 y2 y3 y4 y5 gy0 gy1 gy2 gy3 gy4 gy5
        refine HN.out.mono ?_
        rintro x w5 ⟨rfl, hp5, hg5⟩
        have HY5 := Lib.hid (HY4.out.kept hg5 (by intro e; have := Option.some.inj e; omega))
        have HZ5 : Hid (Cel w5 w.heap.size Ex.zero.list) := (HZ4.out.kept hg5 (by intro e; have := Option.some.inj e; omega))
        have HG5 := Lib.hid (grown_trans HG4.out hg5)
        have HP5 := Lib.hid hp5
        clear hp5 hg5
        obtain ⟨⟨y0, y1, y2, y3, y4, y5⟩, _⟩ := HY5.out.six_of
        obtain ⟨⟨z0, z1, z2, z3, z4, z5⟩, g0, g1, g2, g3, g4, g5⟩ := HZ5.out.six_of
        dsimp only at y0 y1 y2 y3 y4 y5
        go_wp2
        show bodyPost _ _ _ _ _ (set6 w5 w.heap.size ⟨2, 0, 0, ⟨#[]⟩, tt, none, 0, 0⟩)
        obtain ⟨hfin, hpost⟩ := close6 (e := .leaf 2 0 0 [] (Co.text s.data.toList st)) (y := ⟨2, 0, 0, ⟨#[]⟩, tt, none, 0, 0⟩) HZ5.out (by rw [HXT.out]; rfl) HP5.out HG5.out hlt
        generalize set6 w5 w.heap.size _ = wf at *
        obtain ⟨⟨k0, k1, k2, k3, k4, k5⟩, _⟩ := hfin.six_of
        dsimp only at k0 k1 k2 k3 k4 k5
        exact bodyPost_ret (v := Ex.val ⟨2, 0, 0, ⟨#[]⟩, tt, none, 0, 0⟩) (by simp [results, Tryz.results211, go_sem, k0, k1, k2, k3, k4, k5, Ex.val]) rfl hpost
      rw [if_neg k2, if_neg k3, if_neg k4, if_neg k5] at hrow
      obtain ⟨rfl, rfl⟩ : Co.Tr.leaf 1 0 0 [] [] = eF ∧ Co.next s.data.toList (Co.fail 111 st) = stF := by cases hrow; exact ⟨rfl, rfl⟩
      have n2 : ((st.kind : Int) == 2) = false := by rw [beq_eq_false_iff_ne]; omega
      have n3 : ((st.kind : Int) == 3) = false := by rw [beq_eq_false_iff_ne]; omega
      have n4 : ((st.kind : Int) == 4) = false := by rw [beq_eq_false_iff_ne]; omega
      have n5 : ((st.kind : Int) == 5) = false := by rw [beq_eq_false_iff_ne]; omega
      clear hrow k2 k3 k4 k5
      generalize s.extract st.frm st.till = tt at *
      go_enter Tryz.func211, Tryz.ntmps211
      go_wp2_with fail
      refine HI.out.mono ?_
      rintro x w' ⟨rfl, n, rfl⟩
      go_wp2_with fail
      refine (HHT.out n).out.mono ?_
      rintro x w3 ⟨rfl, m, hw3⟩
      have hbb : Below (((w.alloc (.cells #[.int .i64 0, .int .i64 0, .int .i64 0, .string ⟨#[]⟩, .string ⟨#[]⟩, .slice none 0 0] 185)).drewN n).alloc (.cells #[.int .i64 1, .int .i64 0, .int .i64 0, .string ⟨#[]⟩, .string ⟨#[]⟩, .slice none 0 0] 185)).heap.size (((w.alloc (.cells #[.int .i64 0, .int .i64 0, .int .i64 0, .string ⟨#[]⟩, .string ⟨#[]⟩, .slice none 0 0] 185)).drewN n).alloc (.cells #[.int .i64 1, .int .i64 0, .int .i64 0, .string ⟨#[]⟩, .string ⟨#[]⟩, .slice none 0 0] 185)) w3 := by rw [hw3]; exact below_drewN (Below.refl _ _) m
      have c13 : w3.cell? ⟨q, 1, none⟩ = some (.int .i64 (st.kind : Int)) := by
        obtain ⟨_, ⟨_, c, _⟩, _⟩ := ((HHA.out n).below hbb (Nat.le_refl _)).cells
        exact c
      obtain ⟨a, hka, hg⟩ := (HE.out.below ((HHB.out n).out.trans (hbb.mono (HHB.out n).out.size))).e111
      clear hw3
      have HY3 := Lib.hid ((HHY.out n).out.below hbb (Nat.le_refl _))
      have HZ3 := Lib.hid ((HHZ.out n).out.below hbb (Nat.le_refl _))
      have HP3 := Lib.hid ((HHA.out n).below hbb (Nat.le_refl _))
      have HG3 := Lib.hid (grown_of (HHG.out n).out hbb (Nat.le_refl _))
      clear hbb
      have HF := Lib.hid (cfail_any HP3.out 111 a hka (by decide))
      unfold errV at hg HF
      have hgl := cell_lt hg
      clear hka
      go_wp2_with fail
      refine HF.out.mono ?_
      rintro x w4 ⟨rfl, hp4, hg4⟩
      have HY4 : Hid (Cel w4 (w.heap.size + 1) (Ex.list ⟨1, 0, 0, ⟨#[]⟩, ⟨#[]⟩, none, 0, 0⟩)) := HY3.out.kept hg4 (by intro e; have := Option.some.inj e; omega)
      have HZ4 : Hid (Cel w4 w.heap.size Ex.zero.list) := HZ3.out.kept hg4 (by intro e; have := Option.some.inj e; omega)
      have HG4 := Lib.hid (grown_trans HG3.out hg4)
      have HN := Lib.hid (cnext_any hp4)
      clear hp4 hg4 hg hgl c13
      go_wp2_with fail
      refine HN.out.mono ?_
      rintro x w5 ⟨rfl, hp5, hg5⟩
      have HY5 := Lib.hid (HY4.out.kept hg5 (by intro e; have := Option.some.inj e; omega))
      have HZ5 : Hid (Cel w5 w.heap.size Ex.zero.list) := (HZ4.out.kept hg5 (by intro e; have := Option.some.inj e; omega))
      have HG5 := Lib.hid (grown_trans HG4.out hg5)
      have HP5 := Lib.hid hp5
      clear hp5 hg5
      obtain ⟨⟨y0, y1, y2, y3, y4, y5⟩, _⟩ := HY5.out.six_of
      obtain ⟨⟨z0, z1, z2, z3, z4, z5⟩, g0, g1, g2, g3, g4, g5⟩ := HZ5.out.six_of
      dsimp only at y0 y1 y2 y3 y4 y5
      go_wp2
      show bodyPost _ _ _ _ _ (set6 w5 w.heap.size ⟨1, 0, 0, ⟨#[]⟩, ⟨#[]⟩, none, 0, 0⟩)
      obtain ⟨hfin, hpost⟩ := close6 (e := .leaf 1 (0) (0) [] []) (y := ⟨1, 0, 0, ⟨#[]⟩, ⟨#[]⟩, none, 0, 0⟩) HZ5.out rfl HP5.out HG5.out hlt
      generalize set6 w5 w.heap.size _ = wf at *
      obtain ⟨⟨k0, k1, k2, k3, k4, k5⟩, _⟩ := hfin.six_of
      dsimp only at k0 k1 k2 k3 k4 k5
      exact bodyPost_ret (v := Ex.val ⟨1, 0, 0, ⟨#[]⟩, ⟨#[]⟩, none, 0, 0⟩) (by simp [results, Tryz.results211, go_sem, k0, k1, k2, k3, k4, k5, Ex.val]) rfl hpost
end
end Go.Proofs.YtkffnfgdmcebdaaGreatDoor
