/- The document's parser: not. -/
import Derived.Test.YtddedbpbenkdoaaGreatDoorDyY
namespace Go.Proofs.YtddedbpbenkdoaaGreatDoor
open Go.RowKit

section
variable {w w1 : World} {q d : Nat} {s : ByteArray} {st : Co.St}
/-- What a call tells of a part, without the part. -/
def DEnd (q : Nat) (s : ByteArray) (d : Nat) (st' : Co.St) (w : World) (x : Ending) (w' : World) : Prop := (∃ y, x = .returned (Ex.val y)) ∧ DpC w' q s st' d ∧ w.grownBy w' (some q)
theorem Says.stay {f : Co.St → Co.Out} {st' : Co.St} {e : Co.Tr} {x : Dq} {d2 : Nat} (hg : Co.Gd s.data.toList st) (hf : f st = some (e, st')) (hk : Co.Keeps f) (ht : Co.Tot s.data.toList f) (hs : Says s st d x) (hb : x.c ≠ 0) :
    Co.Gd s.data.toList st' ∧ Says s st' d2 x := by
  cases hs with
  | fine h1 h2 => exact absurd rfl hb
  | bad a n d' wd c k hc he =>
    obtain ⟨e2, st2, h1, h2, _⟩ := ht st hg
    rw [hf] at h1
    cases h1
    exact ⟨h2, .bad a n d' wd c k hc (hk st e st' _ hf he)⟩
/-- One less deep. -/
theorem DpC.up {x : Dq} (hg : Co.Gd s.data.toList st) (hx : Cel w q (x.list s)) (hs : Says s st (d + 1) x) (hd : d ≤ 12) : DpC (w.setCell ⟨q, 7, none⟩ (.int .i64 (wrap64 (x.d - 1)))) q s st d := by
  refine ⟨hg, ?_⟩
  have h1 := hx.set (i := 7) (by simp [Dq.list]) (.int .i64 (wrap64 (x.d - 1)))
  cases hs with
  | fine he hk =>
    have e : wrap64 (((d + 1 : Nat) : Int) - 1) = (d : Int) := by unfold wrap64; omega
    refine ⟨⟨st.frm, st.till, ⟨(Co.text s.data.toList st).toArray⟩, 0, false, 0, d⟩, ?_, .fine he hk⟩
    dsimp only at h1 ⊢
    rw [e] at h1 ⊢
    exact h1
  | bad a n d2 wd c k hc he => exact ⟨⟨a, n, wd, c, true, k, wrap64 (d2 - 1)⟩, h1, .bad _ _ _ _ _ _ hc he⟩
set_option maxHeartbeats 1600000 in
theorem dnot_yes (hsz : s.size ≤ 80) (hd : d ≤ 12) (part : Nat → Co.St → Co.Out) (other : Co.St → Co.Out) (hk : d ≠ 12 → Co.Keeps (part (d + 1))) (ht : d ≠ 12 → Co.Tot s.data.toList (part (d + 1)))
    (HP : d ≠ 12 → DPart q s 73 #[] (d + 1) (part (d + 1))) {e : Co.Tr} {st' : Co.St} (hm : Co.text s.data.toList st = [110, 111, 116]) (he : st.err = none)
    (hf : Co.under s.data.toList [110, 111, 116] 5 part other d st = some (e, st')) (h : DpC w q s st d) :
    Calls Tryz.prog 73 #[.pointer (some ⟨q, 0, none⟩)] w (DEnd q s d st' w) := by
  have hql := h.lt
  have hM := h.gd.isM he [110, 111, 116] (by decide) (by decide)
  rw [hm] at hM
  have hM : Co.isM s.data.toList st [110, 111, 116] = true := hM
  unfold Co.under at hf
  rw [if_pos hM] at hf
  have hfa := h.gd.facts he
  have hsl : s.data.toList.length = s.size := by simp
  have H1 := Lib.hid (h.alloc (.cells #[.int .i64 0, .int .i64 0, .int .i64 0, .string ⟨#[]⟩, .string ⟨#[]⟩, .slice none 0 0] 87))
  have HZ := Lib.hid (Cel.lit w #[.int .i64 0, .int .i64 0, .int .i64 0, .string ⟨#[]⟩, .string ⟨#[]⟩, .slice none 0 0] 87)
  obtain ⟨x, hx, hs⟩ := H1.out.ex
  have HGd := Lib.hid h.gd
  have hti : st.till ≤ s.size := by rw [← hsl]; exact hfa.2.1
  clear h hfa hM
  cases hs with
  | bad a n d' wd c k hc he2 =>
    exfalso
    have hM := HGd.out.isM he [110, 111, 116] (by decide) (by decide)
    rw [hm] at hM
    have hk6 := Co.isM_kind (show Co.isM s.data.toList st [110, 111, 116] = true from hM)
    have := Co.eff_of he2 (by rw [hk6]; decide)
    rw [he] at this
    cases this
  | fine _ hk1 =>
    have HX : Hid (Cel _ q (Dq.list s (Dq.good s st d))) := hx
    have FI := Lib.hid (dfine_any hx)
    have IN := Lib.hid (dinner_any HX.out he hti hsz hd)
    obtain ⟨⟨_, _, _, k3, _, _, _, _⟩, _⟩ := Dq.facts hx
    dsimp only at k3
    rw [hm] at k3
    have HF := Lib.hid hf
    have HE := Lib.hid he
    have HK := Lib.hid hk
    have HT := Lib.hid ht
    have HPP := Lib.hid HP
    clear hf hx hk ht HP hm he hk1 hti
    go_enter Tryz.func73, Tryz.ntmps73
    go_wp2_with fail
    refine FI.out.mono ?_
    rintro e3 w3 ⟨rfl, rfl⟩
    go_wp2_with fail
    refine IN.out.mono ?_
    rintro e4 w4 ⟨x4, rfl, hx4, hs12, hsn, hg4⟩
    have HG4 := Lib.hid (grown_trans (grown_alloc w (.cells #[.int .i64 0, .int .i64 0, .int .i64 0, .string ⟨#[]⟩, .string ⟨#[]⟩, .slice none 0 0] 87) (some q)) hg4)
    have HX4 := Lib.hid hx4
    have HZ4 : Hid (Cel w4 w.heap.size Ex.zero.list) := HZ.out.kept hg4 (by intro e; have := Option.some.inj e; omega)
    clear hg4 hx4
    by_cases hb : x4.c = 0
    · have hbt : (x4.c == 0) = true := by simpa using hb
      rw [hbt]
      by_cases h12 : d = 12
      · exfalso
        cases hs12 h12 with
        | fine h1 _ => exact (HGd.out.fail 112).2 h1
        | bad a n d' wd c k hc he2 => exact hc hb
      have hsn := hsn h12
      have hf := HF.out
      unfold Co.deeper at hf
      rw [if_neg h12] at hf
      cases hp : part (d + 1) (Co.next s.data.toList st) with
      | none => rw [hp] at hf; cases hf
      | some r =>
        obtain ⟨e1, st1⟩ := r
        rw [hp] at hf
        obtain rfl : st1 = st' := by cases hf; rfl
        have HC := Lib.hid (HPP.out h12 _ e1 st1 hp w4 ⟨HGd.out.next.1, x4, HX4.out, hsn⟩)
        clear hp hf hsn hs12 hb hbt
        go_wp2_with fail
        refine HC.out.mono ?_
        rintro e5 w5 ⟨⟨y, rfl⟩, h5, hg5⟩
        have HZ5 : Hid (Cel w5 w.heap.size Ex.zero.list) := HZ4.out.kept hg5 (by intro e; have := Option.some.inj e; omega)
        have H5 := Lib.hid h5
        have HG5 := Lib.hid (grown_trans HG4.out hg5)
        have hz5 : w.heap.size < w5.heap.size := HZ5.out.lt
        clear h5 hg5
        unfold Ex.val
        go_upto_region 5 with (fail)
        have H7 := Lib.hid ((H5.out.alloc (.cells #[.int .i64 y.op, .int .i64 y.kind, .int .i64 y.num, .string y.txt, .string y.name, .slice y.A y.n y.c] 87)).alloc (.cells #[.int .i64 5, .int .i64 0, .int .i64 0, .string ⟨#[]⟩, .string ⟨#[]⟩, .slice (some ⟨w5.heap.size, 0, none⟩) 1 1] 87))
        have HZ7 := Lib.hid ((HZ5.out.alloc (.cells #[.int .i64 y.op, .int .i64 y.kind, .int .i64 y.num, .string y.txt, .string y.name, .slice y.A y.n y.c] 87)).alloc (.cells #[.int .i64 5, .int .i64 0, .int .i64 0, .string ⟨#[]⟩, .string ⟨#[]⟩, .slice (some ⟨w5.heap.size, 0, none⟩) 1 1] 87))
        have HE7 : Hid (Cel ((w5.alloc (.cells #[.int .i64 y.op, .int .i64 y.kind, .int .i64 y.num, .string y.txt, .string y.name, .slice y.A y.n y.c] 87)).alloc (.cells #[.int .i64 5, .int .i64 0, .int .i64 0, .string ⟨#[]⟩, .string ⟨#[]⟩, .slice (some ⟨w5.heap.size, 0, none⟩) 1 1] 87)) (w5.heap.size + 1) (Ex.list ⟨5, 0, 0, ⟨#[]⟩, ⟨#[]⟩, some ⟨w5.heap.size, 0, none⟩, 1, 1⟩)) := cel_at (Cel.lit (w5.alloc (.cells #[.int .i64 y.op, .int .i64 y.kind, .int .i64 y.num, .string y.txt, .string y.name, .slice y.A y.n y.c] 87)) _ _) (by simp)
        have HG7 := Lib.hid (grown_trans (grown_trans HG5.out (grown_alloc w5 (.cells #[.int .i64 y.op, .int .i64 y.kind, .int .i64 y.num, .string y.txt, .string y.name, .slice y.A y.n y.c] 87) _)) (grown_alloc _ (.cells #[.int .i64 5, .int .i64 0, .int .i64 0, .string ⟨#[]⟩, .string ⟨#[]⟩, .slice (some ⟨w5.heap.size, 0, none⟩) 1 1] 87) _))
        generalize (w5.alloc _).alloc _ = w7 at *
        obtain ⟨x7, hx7, hs7⟩ := H7.out.ex
        have HU := Lib.hid (DpC.up H7.out.gd hx7 hs7 hd)
        obtain ⟨⟨_, _, _, _, _, _, _, k7⟩, _, _, _, _, _, _, f7⟩ := Dq.facts hx7
        obtain ⟨v, hv⟩ : ∃ v : Int, v = wrap64 (x7.d - 1) := ⟨_, rfl⟩
        rw [← hv] at HU
        have HG8 := Lib.hid (set_grown HG7.out 7 (.int .i64 v))
        have HZ8 : Hid (Cel (w7.setCell ⟨q, 7, none⟩ (.int .i64 v)) w.heap.size Ex.zero.list) := HZ7.out.kept (set_grown (World.grownBy.refl w7 (some q)) 7 (.int .i64 v)) (by intro e; have := Option.some.inj e; omega)
        have HE8 : Hid (Cel (w7.setCell ⟨q, 7, none⟩ (.int .i64 v)) (w5.heap.size + 1) (Ex.list ⟨5, 0, 0, ⟨#[]⟩, ⟨#[]⟩, some ⟨w5.heap.size, 0, none⟩, 1, 1⟩)) := HE7.out.kept (set_grown (World.grownBy.refl w7 (some q)) 7 (.int .i64 v)) (by intro e; have := Option.some.inj e; omega)
        clear hx7 hs7 H7 HZ7 HE7 HG7 H5 HZ5 HG5 HZ4 HG4 HX4
        go_upto_region 6 with (fail)
        rw [show wrap64 (x7.d - 1) = v from hv.symm]
        generalize w7.setCell _ _ = w8 at *
        obtain ⟨⟨z0, z1, z2, z3, z4, z5⟩, g0, g1, g2, g3, g4, g5⟩ := HZ8.out.six_of
        obtain ⟨⟨y0, y1, y2, y3, y4, y5⟩, _⟩ := HE8.out.six_of
        go_wp2
        obtain ⟨u, hu⟩ : ∃ u : Ex, u = ⟨5, 0, 0, ⟨#[]⟩, ⟨#[]⟩, some ⟨w5.heap.size, 0, none⟩, 1, 1⟩ := ⟨_, rfl⟩
        have hfin := HZ8.out.six u
        have h3 := HU.out.other (set6_grown w8 w.heap.size u) (by intro e; have := Option.some.inj e; omega)
        have hg3 := grown_past HG8.out (set6_grown w8 w.heap.size u) (by simp)
        show bodyPost _ _ _ _ _ (set6 w8 w.heap.size ⟨5, 0, 0, ⟨#[]⟩, ⟨#[]⟩, some ⟨w5.heap.size, 0, none⟩, 1, 1⟩)
        rw [← hu]
        generalize set6 w8 w.heap.size u = wf at *
        obtain ⟨⟨k0, k1, k2, k3, k4, k5⟩, _⟩ := hfin.six_of
        exact bodyPost_ret (v := u.val) (by simp [results, Tryz.results73, go_sem, k0, k1, k2, k3, k4, k5, Ex.val]) rfl ⟨⟨u, rfl⟩, h3, hg3⟩
    · have hbf : (x4.c == 0) = false := by simpa using hb
      rw [hbf]
      obtain ⟨⟨z0, z1, z2, z3, z4, z5⟩, g0, g1, g2, g3, g4, g5⟩ := HZ4.out.six_of
      go_wp2
      have hfin := HZ4.out.six Ex.zero
      have hg3 : w.grownBy (set6 w4 w.heap.size Ex.zero) (some q) := grown_past HG4.out (set6_grown w4 w.heap.size Ex.zero) (Nat.le_refl _)
      have hx5 := HX4.out.kept (set6_grown w4 w.heap.size Ex.zero) (by intro e; have := Option.some.inj e; omega)
      show bodyPost _ _ _ _ _ (set6 w4 w.heap.size Ex.zero)
      generalize set6 w4 w.heap.size Ex.zero = wf at *
      obtain ⟨⟨k0, k1, k2, k3, k4, k5⟩, _⟩ := hfin.six_of
      refine bodyPost_ret (v := Ex.zero.val) (by simp [results, Tryz.results73, go_sem, k0, k1, k2, k3, k4, k5, Ex.val]) rfl ⟨⟨_, rfl⟩, ?_, hg3⟩
      have hf := HF.out
      unfold Co.deeper at hf
      by_cases h12 : d = 12
      · rw [if_pos h12] at hf
        obtain rfl : Co.fail 112 st = st' := by cases hf; rfl
        have hs4 := hs12 h12
        exact ⟨(HGd.out.fail 112).1, x4, hx5, hs4⟩
      · rw [if_neg h12] at hf
        cases hp : part (d + 1) (Co.next s.data.toList st) with
        | none => rw [hp] at hf; cases hf
        | some r =>
          obtain ⟨e1, st1⟩ := r
          rw [hp] at hf
          obtain rfl : st1 = st' := by cases hf; rfl
          obtain ⟨h1, h2⟩ := (hsn h12).stay (d2 := d) HGd.out.next.1 hp (HK.out h12) (HT.out h12) hb
          exact ⟨h1, x4, hx5, h2⟩
theorem Co.op_cmp {l : List UInt8} {st : Co.St} (h : Co.Gd l st) (he : st.err = none) : Co.op l st 6 11 = if Co.text l st = Co.words[6 + 0]! then 6 else if Co.text l st = Co.words[6 + 1]! then 7 else if Co.text l st = Co.words[6 + 2]! then 8
    else if Co.text l st = Co.words[6 + 3]! then 9 else if Co.text l st = Co.words[6 + 4]! then 10 else if Co.text l st = Co.words[6 + 5]! then 11 else 0 := by
  have m0 := h.isM he [61, 61] (by decide) (by decide)
  have m1 := h.isM he [33, 61] (by decide) (by decide)
  have m2 := h.isM he [60] (by decide) (by decide)
  have m3 := h.isM he [60, 61] (by decide) (by decide)
  have m4 := h.isM he [62] (by decide) (by decide)
  have m5 := h.isM he [62, 61] (by decide) (by decide)
  show (if Co.isM l st [61, 61] = true then 6 else if Co.isM l st [33, 61] = true then 7 else if Co.isM l st [60] = true then 8 else if Co.isM l st [60, 61] = true then 9 else if Co.isM l st [62] = true then 10 else if Co.isM l st [62, 61] = true then 11 else 0) =
    (if Co.text l st = [61, 61] then 6 else if Co.text l st = [33, 61] then 7 else if Co.text l st = [60] then 8 else if Co.text l st = [60, 61] then 9 else if Co.text l st = [62] then 10 else if Co.text l st = [62, 61] then 11 else 0)
  rw [m0, m1, m2, m3, m4, m5]
  simp only [decide_eq_true_eq]
set_option maxHeartbeats 1600000 in
theorem dnot_no (hsz : s.size ≤ 80) (cp : Co.St → Co.Out) (hk : Co.Keeps cp) (ht : Co.Tot s.data.toList cp)
    (HP : DPart q s 60 #[.int .i64 4] d cp) {e : Co.Tr} {st' : Co.St} (hm : st.err = none → Co.text s.data.toList st ≠ [110, 111, 116])
    (hf : Co.compared s.data.toList cp st = some (e, st')) (h : DpC w q s st d) :
    Calls Tryz.prog 73 #[.pointer (some ⟨q, 0, none⟩)] w (DEnd q s d st' w) := by
  have hql := h.lt
  unfold Co.compared at hf
  have H1 := Lib.hid (h.alloc (.cells #[.int .i64 0, .int .i64 0, .int .i64 0, .string ⟨#[]⟩, .string ⟨#[]⟩, .slice none 0 0] 87))
  have HZ := Lib.hid (Cel.lit w #[.int .i64 0, .int .i64 0, .int .i64 0, .string ⟨#[]⟩, .string ⟨#[]⟩, .slice none 0 0] 87)
  obtain ⟨x, hx, hs⟩ := H1.out.ex
  have FI := Lib.hid (dfine_any hx)
  obtain ⟨⟨_, _, _, k3, _, _, _, _⟩, _⟩ := Dq.facts hx
  have HW : Hid (x.c = 0 → (x.word.toList == [110, 111, 116]) = false) := fun hc => by
    cases hs with
    | bad a n d' wd c k h1 he2 => exact absurd hc h1
    | fine he hk1 => rw [Co.eq_lit]; exact decide_eq_false (hm he)
  have HGD := Lib.hid h.gd
  clear h hx hm
  cases hp : cp st with
  | none => rw [hp] at hf; cases hf
  | some r =>
    obtain ⟨e1, st1⟩ := r
    rw [hp] at hf
    have HC := Lib.hid (HP st e1 st1 hp _ H1.out)
    have HF := Lib.hid hf
    have HPP := Lib.hid HP
    have HK := Lib.hid hk
    have HT := Lib.hid ht
    have HBAD : Hid (x.c ≠ 0 → ∀ x3 : Dq, Says s st1 d x3 → x3.c ≠ 0) := fun hb x3 hs3 hc => by
      cases hs3 with
      | bad a n d' wd c k h1 h2 => exact h1 hc
      | fine he hk1 =>
        cases hs with
        | fine h1 h2 => exact hb rfl
        | bad a n d' wd c k h1 h2 =>
          obtain ⟨e2, st2, t1, _, t3⟩ := ht st HGD.out
          rw [hp] at t1
          obtain ⟨rfl, rfl⟩ : e1 = e2 ∧ st1 = st2 := by cases t1; exact ⟨rfl, rfl⟩
          have t3 := t3 he
          have k1 := hk st e1 st1 _ hp h2
          have E1 : Co.eff st1 = if st1.kind = 0 then some (111, st1.frm) else none := by unfold Co.eff; rw [he]; rfl
          have E0 : Co.eff st = if st.kind = 0 then some (111, st.frm) else none := by unfold Co.eff; rw [t3.1]; rfl
          rw [E1] at k1
          rw [E0] at h2
          by_cases h3 : st.kind = 0
          · rw [if_pos h3] at h2
            by_cases h4 : st1.kind = 0
            · rw [if_pos h4] at k1
              have e := congrArg Prod.snd (Option.some.inj (h2.trans k1.symm))
              dsimp at e
              omega
            · rw [if_neg h4] at k1; cases k1
          · rw [if_neg h3] at h2; cases h2
    clear hf hp HP hk ht hs
    have hlz : (w.alloc (.cells #[.int .i64 0, .int .i64 0, .int .i64 0, .string ⟨#[]⟩, .string ⟨#[]⟩, .slice none 0 0] 87)).heap.size = w.heap.size + 1 := by simp
    have HG := Lib.hid (grown_alloc w (.cells #[.int .i64 0, .int .i64 0, .int .i64 0, .string ⟨#[]⟩, .string ⟨#[]⟩, .slice none 0 0] 87) (some q))
    have HZ : Hid (Cel _ w.heap.size Ex.zero.list) := HZ
    by_cases hb : x.c = 0
    · have hbt : (x.c == 0) = true := by simpa using hb
      rw [hbt] at FI
      have hwl := HW.out hb
      clear hb hbt HW
      go_enter Tryz.func73, Tryz.ntmps73
      go_wp2_with fail
      refine FI.out.mono ?_
      rintro e3 w3 ⟨rfl, rfl⟩
      go_wp2_with fail
      refine HC.out.mono ?_
      rintro x w1 ⟨⟨y, rfl⟩, h1, hg1⟩
      have HG1 := Lib.hid (grown_trans HG.out hg1)
      have HZ1 : Hid (Cel w1 w.heap.size Ex.zero.list) := HZ.out.kept hg1 (by intro e; have := Option.some.inj e; omega)
      have H1 := Lib.hid h1
      clear h1 hg1 HC HG HZ
      unfold Ex.val
      go_upto_region 9 with (fail)
      have hzl : w.heap.size < w1.heap.size := HZ1.out.lt
      have HY := Lib.hid ((Cel.lit w1 #[.int .i64 y.op, .int .i64 y.kind, .int .i64 y.num, .string y.txt, .string y.name, .slice y.A y.n y.c] 87).alloc (.cells #[.string ⟨#[61, 61]⟩, .string ⟨#[33, 61]⟩, .string ⟨#[60]⟩, .string ⟨#[60, 61]⟩, .string ⟨#[62]⟩, .string ⟨#[62, 61]⟩] 9))
      have HWD : Hid (Cel ((w1.alloc (.cells #[.int .i64 y.op, .int .i64 y.kind, .int .i64 y.num, .string y.txt, .string y.name, .slice y.A y.n y.c] 87)).alloc (.cells #[.string ⟨#[61, 61]⟩, .string ⟨#[33, 61]⟩, .string ⟨#[60]⟩, .string ⟨#[60, 61]⟩, .string ⟨#[62]⟩, .string ⟨#[62, 61]⟩] 9)) (w1.heap.size + 1) [.string ⟨#[61, 61]⟩, .string ⟨#[33, 61]⟩, .string ⟨#[60]⟩, .string ⟨#[60, 61]⟩, .string ⟨#[62]⟩, .string ⟨#[62, 61]⟩]) := cel_at (Cel.lit (w1.alloc (.cells #[.int .i64 y.op, .int .i64 y.kind, .int .i64 y.num, .string y.txt, .string y.name, .slice y.A y.n y.c] 87)) #[.string ⟨#[61, 61]⟩, .string ⟨#[33, 61]⟩, .string ⟨#[60]⟩, .string ⟨#[60, 61]⟩, .string ⟨#[62]⟩, .string ⟨#[62, 61]⟩] 9) (by simp)
      have H3 := Lib.hid ((H1.out.alloc (.cells #[.int .i64 y.op, .int .i64 y.kind, .int .i64 y.num, .string y.txt, .string y.name, .slice y.A y.n y.c] 87)).alloc (.cells #[.string ⟨#[61, 61]⟩, .string ⟨#[33, 61]⟩, .string ⟨#[60]⟩, .string ⟨#[60, 61]⟩, .string ⟨#[62]⟩, .string ⟨#[62, 61]⟩] 9))
      have HZ3 := Lib.hid ((HZ1.out.alloc (.cells #[.int .i64 y.op, .int .i64 y.kind, .int .i64 y.num, .string y.txt, .string y.name, .slice y.A y.n y.c] 87)).alloc (.cells #[.string ⟨#[61, 61]⟩, .string ⟨#[33, 61]⟩, .string ⟨#[60]⟩, .string ⟨#[60, 61]⟩, .string ⟨#[62]⟩, .string ⟨#[62, 61]⟩] 9))
      have HG3 := Lib.hid (grown_trans (grown_trans HG1.out (grown_alloc w1 (.cells #[.int .i64 y.op, .int .i64 y.kind, .int .i64 y.num, .string y.txt, .string y.name, .slice y.A y.n y.c] 87) _)) (grown_alloc _ (.cells #[.string ⟨#[61, 61]⟩, .string ⟨#[33, 61]⟩, .string ⟨#[60]⟩, .string ⟨#[60, 61]⟩, .string ⟨#[62]⟩, .string ⟨#[62, 61]⟩] 9) _))
      clear H1 HZ1 HG1
      have HY : Hid (Cel _ w1.heap.size y.list) := HY
      generalize (w1.alloc _).alloc _ = w3 at *
      obtain ⟨x3, hx3, hs3⟩ := H3.out.ex
      by_cases hb3 : x3.c = 0
      · cases hs3 with
        | bad a n d' wd c k hc he => exact absurd hb3 hc
        | fine he hk1 =>
          clear hb3
          have HX3 : Hid (Cel w3 q (Dq.list s (Dq.good s st1 d))) := hx3
          obtain ⟨⟨_, _, _, k3, _, _, _, _⟩, _⟩ := Dq.facts HX3.out
          unfold Dq.good at k3
          dsimp only at k3
          have HE := Lib.hid he
          have hfa := H3.out.gd.facts he
          have hsl : s.data.toList.length = s.size := by simp
          have NX : Hid (∀ wv, Cel wv q (Dq.list s (Dq.good s st1 d)) → _) := fun wv hx => dnext_any hx HE.out (by rw [← hsl]; exact hfa.2.1) hsz
          have GN := Lib.hid H3.out.gd.next.1
          have HOP := Lib.hid (Co.op_cmp H3.out.gd he)
          clear hx3 he hk1 hfa hsl
          go_wp2_with fail
          go_loopw [6] (fun i v => ∃ j : Nat, j ≤ 6 ∧ i = .int .i64 j ∧ Hid (∀ k, k < j → Co.text s.data.toList st1 ≠ Co.words[6 + k]!) ∧ Below w3.heap.size w3 v) (fun i _ => 6 - (intOf i).toNat)
          case atStart => exact ⟨0, by omega, rfl, fun k hk => absurd hk (by omega), Below.refl _ _⟩
          case round =>
            obtain ⟨j, hj, rfl, hns, hbd⟩ := hrel
            generalize wr = wv at *
            have k3v := below_cells hbd k3
            have FIV := Lib.hid (dfine_any (HX3.out.below hbd (Nat.le_refl _)))
            have NXV := Lib.hid (NX.out wv (HX3.out.below hbd (Nat.le_refl _)))
            have HYV := Lib.hid (HY.out.below hbd (Nat.le_refl _))
            have HZV := Lib.hid (HZ3.out.below hbd (Nat.le_refl _))
            have HGV := Lib.hid (grown_of HG3.out hbd (Nat.le_refl _))
            have HDV := Lib.hid (H3.out.other (grown_of (World.grownBy.refl w3 none) hbd (Nat.le_refl _)) (by simp))
            rcases (show j = 0 ∨ j = 1 ∨ j = 2 ∨ j = 3 ∨ j = 4 ∨ j = 5 ∨ j = 6 from by omega) with rfl | rfl | rfl | rfl | rfl | rfl | rfl
            · have cj := below_cells hbd (HWD.out.cell 0 _ rfl)
              by_cases hm : Co.text s.data.toList st1 = [61, 61]
              · rw [hm] at k3v
                have H0 : Hid (Co.op s.data.toList st1 6 11 = 6) := by
                  show _ = _
                  rw [HOP.out, hm]; rfl
                go_wp2_with fail
                refine FIV.out.mono ?_
                rintro e3 w4 ⟨rfl, rfl⟩
                go_wp2_with fail
                go_quiet (fail)
                go_wp2_with fail
                refine (NX.out _ (HX3.out.below (below_drewN hbd _) (Nat.le_refl _))).mono ?_
                rintro e4 w4 ⟨rfl, ⟨x4, hx4, hs4⟩, hg4⟩
                have HG4 := Lib.hid (grown_trans (grown_of HG3.out (below_drewN hbd _) (Nat.le_refl _)) hg4)
                have HY4 := Lib.hid ((HY.out.below (below_drewN hbd _) (Nat.le_refl _)).kept hg4 (by intro e; have := Option.some.inj e; omega))
                have HZ4 := Lib.hid ((HZ3.out.below (below_drewN hbd _) (Nat.le_refl _)).kept hg4 (by intro e; have := Option.some.inj e; omega))
                have HX4 := Lib.hid hx4
                have HS4 := Lib.hid hs4
                have FI4 := Lib.hid (dfine_any hx4)
                obtain ⟨r2, hcp⟩ : ∃ r2, cp (Co.next s.data.toList st1) = some (r2, st') := by
                  have hf := HF.out
                  rw [if_neg (by rw [H0.out]; decide)] at hf
                  cases hp : cp (Co.next s.data.toList st1) with
                  | none => rw [hp] at hf; cases hf
                  | some r =>
                    obtain ⟨r2, st2⟩ := r
                    rw [hp] at hf
                    obtain rfl : st2 = st' := by cases hf; rfl
                    exact ⟨r2, rfl⟩
                have HCP := Lib.hid hcp
                clear hx4 hs4 hg4 hcp
                by_cases hb : x4.c = 0
                · have hbt : (x4.c == 0) = true := by simpa using hb
                  rw [hbt] at FI4
                  have hbd4 : Below w4.heap.size w4 w4.drew := (Below.refl w4.heap.size w4).drew
                  have HC2 := Lib.hid (HPP.out _ _ _ HCP.out w4.drew ⟨GN.out, x4, HX4.out.below hbd4 (Nat.le_refl _), HS4.out⟩)
                  have HG4d := Lib.hid (grown_of HG4.out hbd4 (Nat.le_refl _))
                  have HY4d := Lib.hid (HY4.out.below hbd4 (Nat.le_refl _))
                  have HZ4d := Lib.hid (HZ4.out.below hbd4 (Nat.le_refl _))
                  clear hb hbt hbd4
                  obtain ⟨⟨y0, y1, y2, y3, y4, y5⟩, _⟩ := HY4.out.six_of
                  go_wp2_with fail
                  refine FI4.out.mono ?_
                  rintro e3 w5 ⟨rfl, rfl⟩
                  go_wp2_with fail
                  go_region_with (go_at_call 60; refine HC2.out.mono ?_; rintro e5 w5 ⟨⟨u, rfl⟩, h5, hg5⟩; have HZ5 : Hid (Cel w5 w.heap.size Ex.zero.list) := (HZ4d.out.kept hg5 (by intro e; have := Option.some.inj e; omega)); have HY5 : Hid (Cel w5 w1.heap.size y.list) := (HY4d.out.kept hg5 (by intro e; have := Option.some.inj e; omega)); have H5 := Lib.hid h5; have HG5 := Lib.hid (grown_trans HG4d.out hg5); have hz5 := HZ5.out.lt; clear h5 hg5; obtain ⟨⟨z0, z1, z2, z3, z4, z5⟩, g0, g1, g2, g3, g4, g5⟩ := HZ5.out.six_of; obtain ⟨⟨v0, v1, v2, v3, v4, v5⟩, _⟩ := HY5.out.six_of; unfold Ex.val)
                  all_goals
                    go_wp2
                    obtain ⟨vv, hvv⟩ : ∃ vv : Ex, vv = ⟨6, 0, 0, ⟨#[]⟩, ⟨#[]⟩, some ⟨w5.heap.size, 0, none⟩, 2, 2⟩ := ⟨_, rfl⟩
                    have hfin := (HZ5.out.six vv).alloc (.cells #[.int .i64 y.op, .int .i64 y.kind, .int .i64 y.num, .string y.txt, .string y.name, .slice y.A y.n y.c, .int .i64 u.op, .int .i64 u.kind, .int .i64 u.num, .string u.txt, .string u.name, .slice u.A u.n u.c] 87)
                    have h3 := (H5.out.other (set6_grown w5 w.heap.size vv) (by intro e; have := Option.some.inj e; omega)).alloc (.cells #[.int .i64 y.op, .int .i64 y.kind, .int .i64 y.num, .string y.txt, .string y.name, .slice y.A y.n y.c, .int .i64 u.op, .int .i64 u.kind, .int .i64 u.num, .string u.txt, .string u.name, .slice u.A u.n u.c] 87)
                    have hg3 := grown_trans (grown_past HG5.out (set6_grown w5 w.heap.size vv) (Nat.le_refl _)) (grown_alloc _ (.cells #[.int .i64 y.op, .int .i64 y.kind, .int .i64 y.num, .string y.txt, .string y.name, .slice y.A y.n y.c, .int .i64 u.op, .int .i64 u.kind, .int .i64 u.num, .string u.txt, .string u.name, .slice u.A u.n u.c] 87) _)
                    show bodyPost _ _ _ _ _ ((set6 w5 w.heap.size ⟨6, 0, 0, ⟨#[]⟩, ⟨#[]⟩, some ⟨w5.heap.size, 0, none⟩, 2, 2⟩).alloc (.cells #[.int .i64 y.op, .int .i64 y.kind, .int .i64 y.num, .string y.txt, .string y.name, .slice y.A y.n y.c, .int .i64 u.op, .int .i64 u.kind, .int .i64 u.num, .string u.txt, .string u.name, .slice u.A u.n u.c] 87))
                    rw [← hvv]
                    generalize (set6 w5 w.heap.size vv).alloc _ = wf at *
                    obtain ⟨⟨k0, k1, k2, k3, k4, k5⟩, _⟩ := hfin.six_of
                    exact bodyPost_ret (v := vv.val) (by simp [results, Tryz.results73, go_sem, k0, k1, k2, k3, k4, k5, Ex.val]) rfl ⟨⟨vv, rfl⟩, h3, hg3⟩
                · have hbf : (x4.c == 0) = false := by simpa using hb
                  rw [hbf] at FI4
                  obtain ⟨h1, h2⟩ := HS4.out.stay (d2 := d) GN.out HCP.out HK.out HT.out hb
                  have H5 : Hid (DpC w4 q s st' d) := ⟨h1, x4, HX4.out, h2⟩
                  clear hb hbf h1 h2
                  obtain ⟨⟨y0, y1, y2, y3, y4, y5⟩, _⟩ := HY4.out.six_of
                  obtain ⟨⟨z0, z1, z2, z3, z4, z5⟩, g0, g1, g2, g3, g4, g5⟩ := HZ4.out.six_of
                  go_wp2_with fail
                  refine FI4.out.mono ?_
                  rintro e3 w5 ⟨rfl, rfl⟩
                  go_wp2
                  have hfin := HZ4.out.six y
                  have h3 := H5.out.other (set6_grown w4 w.heap.size y) (by intro e; have := Option.some.inj e; omega)
                  have hg3 := grown_past HG4.out (set6_grown w4 w.heap.size y) (Nat.le_refl _)
                  show bodyPost _ _ _ _ _ (set6 w4 w.heap.size y)
                  generalize set6 w4 w.heap.size y = wf at *
                  obtain ⟨⟨k0, k1, k2, k3, k4, k5⟩, _⟩ := hfin.six_of
                  exact bodyPost_ret (v := y.val) (by simp [results, Tryz.results73, go_sem, k0, k1, k2, k3, k4, k5, Ex.val]) rfl ⟨⟨y, rfl⟩, h3, hg3⟩
              · obtain ⟨wd, hwd⟩ : ∃ wd : ByteArray, wd = ⟨(Co.text s.data.toList st1).toArray⟩ := ⟨_, rfl⟩
                rw [← hwd] at k3v
                have hwl : (wd.toList == [61, 61]) = false := by
                  rw [Co.eq_lit, hwd]; exact decide_eq_false hm
                have HM := Lib.hid hm
                clear hm hwd
                go_wp2_with fail
                refine FIV.out.mono ?_
                rintro e3 w4 ⟨rfl, rfl⟩
                go_wp2_with fail
                go_quiet (fail)
                go_wp2_with fail
                go_round
                case measure => simp [intOf]
                case rel =>
                  refine ⟨1, by omega, rfl, fun k hk => ?_, below_drewN hbd _⟩
                  rcases Nat.lt_or_ge k 0 with h | h
                  · exact hns.out k h
                  · obtain rfl : k = 0 := by omega
                    exact HM.out
            · have cj := below_cells hbd (HWD.out.cell 1 _ rfl)
              by_cases hm : Co.text s.data.toList st1 = [33, 61]
              · rw [hm] at k3v
                have H0 : Hid (Co.op s.data.toList st1 6 11 = 7) := by
                  show _ = _
                  rw [HOP.out, hm]; rfl
                go_wp2_with fail
                refine FIV.out.mono ?_
                rintro e3 w4 ⟨rfl, rfl⟩
                go_wp2_with fail
                go_quiet (fail)
                go_wp2_with fail
                refine (NX.out _ (HX3.out.below (below_drewN hbd _) (Nat.le_refl _))).mono ?_
                rintro e4 w4 ⟨rfl, ⟨x4, hx4, hs4⟩, hg4⟩
                have HG4 := Lib.hid (grown_trans (grown_of HG3.out (below_drewN hbd _) (Nat.le_refl _)) hg4)
                have HY4 := Lib.hid ((HY.out.below (below_drewN hbd _) (Nat.le_refl _)).kept hg4 (by intro e; have := Option.some.inj e; omega))
                have HZ4 := Lib.hid ((HZ3.out.below (below_drewN hbd _) (Nat.le_refl _)).kept hg4 (by intro e; have := Option.some.inj e; omega))
                have HX4 := Lib.hid hx4
                have HS4 := Lib.hid hs4
                have FI4 := Lib.hid (dfine_any hx4)
                obtain ⟨r2, hcp⟩ : ∃ r2, cp (Co.next s.data.toList st1) = some (r2, st') := by
                  have hf := HF.out
                  rw [if_neg (by rw [H0.out]; decide)] at hf
                  cases hp : cp (Co.next s.data.toList st1) with
                  | none => rw [hp] at hf; cases hf
                  | some r =>
                    obtain ⟨r2, st2⟩ := r
                    rw [hp] at hf
                    obtain rfl : st2 = st' := by cases hf; rfl
                    exact ⟨r2, rfl⟩
                have HCP := Lib.hid hcp
                clear hx4 hs4 hg4 hcp
                by_cases hb : x4.c = 0
                · have hbt : (x4.c == 0) = true := by simpa using hb
                  rw [hbt] at FI4
                  have hbd4 : Below w4.heap.size w4 w4.drew := (Below.refl w4.heap.size w4).drew
                  have HC2 := Lib.hid (HPP.out _ _ _ HCP.out w4.drew ⟨GN.out, x4, HX4.out.below hbd4 (Nat.le_refl _), HS4.out⟩)
                  have HG4d := Lib.hid (grown_of HG4.out hbd4 (Nat.le_refl _))
                  have HY4d := Lib.hid (HY4.out.below hbd4 (Nat.le_refl _))
                  have HZ4d := Lib.hid (HZ4.out.below hbd4 (Nat.le_refl _))
                  clear hb hbt hbd4
                  obtain ⟨⟨y0, y1, y2, y3, y4, y5⟩, _⟩ := HY4.out.six_of
                  go_wp2_with fail
                  refine FI4.out.mono ?_
                  rintro e3 w5 ⟨rfl, rfl⟩
                  go_wp2_with fail
                  go_region_with (go_at_call 60; refine HC2.out.mono ?_; rintro e5 w5 ⟨⟨u, rfl⟩, h5, hg5⟩; have HZ5 : Hid (Cel w5 w.heap.size Ex.zero.list) := (HZ4d.out.kept hg5 (by intro e; have := Option.some.inj e; omega)); have HY5 : Hid (Cel w5 w1.heap.size y.list) := (HY4d.out.kept hg5 (by intro e; have := Option.some.inj e; omega)); have H5 := Lib.hid h5; have HG5 := Lib.hid (grown_trans HG4d.out hg5); have hz5 := HZ5.out.lt; clear h5 hg5; obtain ⟨⟨z0, z1, z2, z3, z4, z5⟩, g0, g1, g2, g3, g4, g5⟩ := HZ5.out.six_of; obtain ⟨⟨v0, v1, v2, v3, v4, v5⟩, _⟩ := HY5.out.six_of; unfold Ex.val)
                  all_goals
                    go_wp2
                    obtain ⟨vv, hvv⟩ : ∃ vv : Ex, vv = ⟨7, 0, 0, ⟨#[]⟩, ⟨#[]⟩, some ⟨w5.heap.size, 0, none⟩, 2, 2⟩ := ⟨_, rfl⟩
                    have hfin := (HZ5.out.six vv).alloc (.cells #[.int .i64 y.op, .int .i64 y.kind, .int .i64 y.num, .string y.txt, .string y.name, .slice y.A y.n y.c, .int .i64 u.op, .int .i64 u.kind, .int .i64 u.num, .string u.txt, .string u.name, .slice u.A u.n u.c] 87)
                    have h3 := (H5.out.other (set6_grown w5 w.heap.size vv) (by intro e; have := Option.some.inj e; omega)).alloc (.cells #[.int .i64 y.op, .int .i64 y.kind, .int .i64 y.num, .string y.txt, .string y.name, .slice y.A y.n y.c, .int .i64 u.op, .int .i64 u.kind, .int .i64 u.num, .string u.txt, .string u.name, .slice u.A u.n u.c] 87)
                    have hg3 := grown_trans (grown_past HG5.out (set6_grown w5 w.heap.size vv) (Nat.le_refl _)) (grown_alloc _ (.cells #[.int .i64 y.op, .int .i64 y.kind, .int .i64 y.num, .string y.txt, .string y.name, .slice y.A y.n y.c, .int .i64 u.op, .int .i64 u.kind, .int .i64 u.num, .string u.txt, .string u.name, .slice u.A u.n u.c] 87) _)
                    show bodyPost _ _ _ _ _ ((set6 w5 w.heap.size ⟨7, 0, 0, ⟨#[]⟩, ⟨#[]⟩, some ⟨w5.heap.size, 0, none⟩, 2, 2⟩).alloc (.cells #[.int .i64 y.op, .int .i64 y.kind, .int .i64 y.num, .string y.txt, .string y.name, .slice y.A y.n y.c, .int .i64 u.op, .int .i64 u.kind, .int .i64 u.num, .string u.txt, .string u.name, .slice u.A u.n u.c] 87))
                    rw [← hvv]
                    generalize (set6 w5 w.heap.size vv).alloc _ = wf at *
                    obtain ⟨⟨k0, k1, k2, k3, k4, k5⟩, _⟩ := hfin.six_of
                    exact bodyPost_ret (v := vv.val) (by simp [results, Tryz.results73, go_sem, k0, k1, k2, k3, k4, k5, Ex.val]) rfl ⟨⟨vv, rfl⟩, h3, hg3⟩
                · have hbf : (x4.c == 0) = false := by simpa using hb
                  rw [hbf] at FI4
                  obtain ⟨h1, h2⟩ := HS4.out.stay (d2 := d) GN.out HCP.out HK.out HT.out hb
                  have H5 : Hid (DpC w4 q s st' d) := ⟨h1, x4, HX4.out, h2⟩
                  clear hb hbf h1 h2
                  obtain ⟨⟨y0, y1, y2, y3, y4, y5⟩, _⟩ := HY4.out.six_of
                  obtain ⟨⟨z0, z1, z2, z3, z4, z5⟩, g0, g1, g2, g3, g4, g5⟩ := HZ4.out.six_of
                  go_wp2_with fail
                  refine FI4.out.mono ?_
                  rintro e3 w5 ⟨rfl, rfl⟩
                  go_wp2
                  have hfin := HZ4.out.six y
                  have h3 := H5.out.other (set6_grown w4 w.heap.size y) (by intro e; have := Option.some.inj e; omega)
                  have hg3 := grown_past HG4.out (set6_grown w4 w.heap.size y) (Nat.le_refl _)
                  show bodyPost _ _ _ _ _ (set6 w4 w.heap.size y)
                  generalize set6 w4 w.heap.size y = wf at *
                  obtain ⟨⟨k0, k1, k2, k3, k4, k5⟩, _⟩ := hfin.six_of
                  exact bodyPost_ret (v := y.val) (by simp [results, Tryz.results73, go_sem, k0, k1, k2, k3, k4, k5, Ex.val]) rfl ⟨⟨y, rfl⟩, h3, hg3⟩
              · obtain ⟨wd, hwd⟩ : ∃ wd : ByteArray, wd = ⟨(Co.text s.data.toList st1).toArray⟩ := ⟨_, rfl⟩
                rw [← hwd] at k3v
                have hwl : (wd.toList == [33, 61]) = false := by
                  rw [Co.eq_lit, hwd]; exact decide_eq_false hm
                have HM := Lib.hid hm
                clear hm hwd
                go_wp2_with fail
                refine FIV.out.mono ?_
                rintro e3 w4 ⟨rfl, rfl⟩
                go_wp2_with fail
                go_quiet (fail)
                go_wp2_with fail
                go_round
                case measure => simp [intOf]
                case rel =>
                  refine ⟨2, by omega, rfl, fun k hk => ?_, below_drewN hbd _⟩
                  rcases Nat.lt_or_ge k 1 with h | h
                  · exact hns.out k h
                  · obtain rfl : k = 1 := by omega
                    exact HM.out
            · have cj := below_cells hbd (HWD.out.cell 2 _ rfl)
              by_cases hm : Co.text s.data.toList st1 = [60]
              · rw [hm] at k3v
                have H0 : Hid (Co.op s.data.toList st1 6 11 = 8) := by
                  show _ = _
                  rw [HOP.out, hm]; rfl
                go_wp2_with fail
                refine FIV.out.mono ?_
                rintro e3 w4 ⟨rfl, rfl⟩
                go_wp2_with fail
                go_quiet (fail)
                go_wp2_with fail
                refine (NX.out _ (HX3.out.below (below_drewN hbd _) (Nat.le_refl _))).mono ?_
                rintro e4 w4 ⟨rfl, ⟨x4, hx4, hs4⟩, hg4⟩
                have HG4 := Lib.hid (grown_trans (grown_of HG3.out (below_drewN hbd _) (Nat.le_refl _)) hg4)
                have HY4 := Lib.hid ((HY.out.below (below_drewN hbd _) (Nat.le_refl _)).kept hg4 (by intro e; have := Option.some.inj e; omega))
                have HZ4 := Lib.hid ((HZ3.out.below (below_drewN hbd _) (Nat.le_refl _)).kept hg4 (by intro e; have := Option.some.inj e; omega))
                have HX4 := Lib.hid hx4
                have HS4 := Lib.hid hs4
                have FI4 := Lib.hid (dfine_any hx4)
                obtain ⟨r2, hcp⟩ : ∃ r2, cp (Co.next s.data.toList st1) = some (r2, st') := by
                  have hf := HF.out
                  rw [if_neg (by rw [H0.out]; decide)] at hf
                  cases hp : cp (Co.next s.data.toList st1) with
                  | none => rw [hp] at hf; cases hf
                  | some r =>
                    obtain ⟨r2, st2⟩ := r
                    rw [hp] at hf
                    obtain rfl : st2 = st' := by cases hf; rfl
                    exact ⟨r2, rfl⟩
                have HCP := Lib.hid hcp
                clear hx4 hs4 hg4 hcp
                by_cases hb : x4.c = 0
                · have hbt : (x4.c == 0) = true := by simpa using hb
                  rw [hbt] at FI4
                  have hbd4 : Below w4.heap.size w4 w4.drew := (Below.refl w4.heap.size w4).drew
                  have HC2 := Lib.hid (HPP.out _ _ _ HCP.out w4.drew ⟨GN.out, x4, HX4.out.below hbd4 (Nat.le_refl _), HS4.out⟩)
                  have HG4d := Lib.hid (grown_of HG4.out hbd4 (Nat.le_refl _))
                  have HY4d := Lib.hid (HY4.out.below hbd4 (Nat.le_refl _))
                  have HZ4d := Lib.hid (HZ4.out.below hbd4 (Nat.le_refl _))
                  clear hb hbt hbd4
                  obtain ⟨⟨y0, y1, y2, y3, y4, y5⟩, _⟩ := HY4.out.six_of
                  go_wp2_with fail
                  refine FI4.out.mono ?_
                  rintro e3 w5 ⟨rfl, rfl⟩
                  go_wp2_with fail
                  go_region_with (go_at_call 60; refine HC2.out.mono ?_; rintro e5 w5 ⟨⟨u, rfl⟩, h5, hg5⟩; have HZ5 : Hid (Cel w5 w.heap.size Ex.zero.list) := (HZ4d.out.kept hg5 (by intro e; have := Option.some.inj e; omega)); have HY5 : Hid (Cel w5 w1.heap.size y.list) := (HY4d.out.kept hg5 (by intro e; have := Option.some.inj e; omega)); have H5 := Lib.hid h5; have HG5 := Lib.hid (grown_trans HG4d.out hg5); have hz5 := HZ5.out.lt; clear h5 hg5; obtain ⟨⟨z0, z1, z2, z3, z4, z5⟩, g0, g1, g2, g3, g4, g5⟩ := HZ5.out.six_of; obtain ⟨⟨v0, v1, v2, v3, v4, v5⟩, _⟩ := HY5.out.six_of; unfold Ex.val)
                  all_goals
                    go_wp2
                    obtain ⟨vv, hvv⟩ : ∃ vv : Ex, vv = ⟨8, 0, 0, ⟨#[]⟩, ⟨#[]⟩, some ⟨w5.heap.size, 0, none⟩, 2, 2⟩ := ⟨_, rfl⟩
                    have hfin := (HZ5.out.six vv).alloc (.cells #[.int .i64 y.op, .int .i64 y.kind, .int .i64 y.num, .string y.txt, .string y.name, .slice y.A y.n y.c, .int .i64 u.op, .int .i64 u.kind, .int .i64 u.num, .string u.txt, .string u.name, .slice u.A u.n u.c] 87)
                    have h3 := (H5.out.other (set6_grown w5 w.heap.size vv) (by intro e; have := Option.some.inj e; omega)).alloc (.cells #[.int .i64 y.op, .int .i64 y.kind, .int .i64 y.num, .string y.txt, .string y.name, .slice y.A y.n y.c, .int .i64 u.op, .int .i64 u.kind, .int .i64 u.num, .string u.txt, .string u.name, .slice u.A u.n u.c] 87)
                    have hg3 := grown_trans (grown_past HG5.out (set6_grown w5 w.heap.size vv) (Nat.le_refl _)) (grown_alloc _ (.cells #[.int .i64 y.op, .int .i64 y.kind, .int .i64 y.num, .string y.txt, .string y.name, .slice y.A y.n y.c, .int .i64 u.op, .int .i64 u.kind, .int .i64 u.num, .string u.txt, .string u.name, .slice u.A u.n u.c] 87) _)
                    show bodyPost _ _ _ _ _ ((set6 w5 w.heap.size ⟨8, 0, 0, ⟨#[]⟩, ⟨#[]⟩, some ⟨w5.heap.size, 0, none⟩, 2, 2⟩).alloc (.cells #[.int .i64 y.op, .int .i64 y.kind, .int .i64 y.num, .string y.txt, .string y.name, .slice y.A y.n y.c, .int .i64 u.op, .int .i64 u.kind, .int .i64 u.num, .string u.txt, .string u.name, .slice u.A u.n u.c] 87))
                    rw [← hvv]
                    generalize (set6 w5 w.heap.size vv).alloc _ = wf at *
                    obtain ⟨⟨k0, k1, k2, k3, k4, k5⟩, _⟩ := hfin.six_of
                    exact bodyPost_ret (v := vv.val) (by simp [results, Tryz.results73, go_sem, k0, k1, k2, k3, k4, k5, Ex.val]) rfl ⟨⟨vv, rfl⟩, h3, hg3⟩
                · have hbf : (x4.c == 0) = false := by simpa using hb
                  rw [hbf] at FI4
                  obtain ⟨h1, h2⟩ := HS4.out.stay (d2 := d) GN.out HCP.out HK.out HT.out hb
                  have H5 : Hid (DpC w4 q s st' d) := ⟨h1, x4, HX4.out, h2⟩
                  clear hb hbf h1 h2
                  obtain ⟨⟨y0, y1, y2, y3, y4, y5⟩, _⟩ := HY4.out.six_of
                  obtain ⟨⟨z0, z1, z2, z3, z4, z5⟩, g0, g1, g2, g3, g4, g5⟩ := HZ4.out.six_of
                  go_wp2_with fail
                  refine FI4.out.mono ?_
                  rintro e3 w5 ⟨rfl, rfl⟩
                  go_wp2
                  have hfin := HZ4.out.six y
                  have h3 := H5.out.other (set6_grown w4 w.heap.size y) (by intro e; have := Option.some.inj e; omega)
                  have hg3 := grown_past HG4.out (set6_grown w4 w.heap.size y) (Nat.le_refl _)
                  show bodyPost _ _ _ _ _ (set6 w4 w.heap.size y)
                  generalize set6 w4 w.heap.size y = wf at *
                  obtain ⟨⟨k0, k1, k2, k3, k4, k5⟩, _⟩ := hfin.six_of
                  exact bodyPost_ret (v := y.val) (by simp [results, Tryz.results73, go_sem, k0, k1, k2, k3, k4, k5, Ex.val]) rfl ⟨⟨y, rfl⟩, h3, hg3⟩
              · obtain ⟨wd, hwd⟩ : ∃ wd : ByteArray, wd = ⟨(Co.text s.data.toList st1).toArray⟩ := ⟨_, rfl⟩
                rw [← hwd] at k3v
                have hwl : (wd.toList == [60]) = false := by
                  rw [Co.eq_lit, hwd]; exact decide_eq_false hm
                have HM := Lib.hid hm
                clear hm hwd
                go_wp2_with fail
                refine FIV.out.mono ?_
                rintro e3 w4 ⟨rfl, rfl⟩
                go_wp2_with fail
                go_quiet (fail)
                go_wp2_with fail
                go_round
                case measure => simp [intOf]
                case rel =>
                  refine ⟨3, by omega, rfl, fun k hk => ?_, below_drewN hbd _⟩
                  rcases Nat.lt_or_ge k 2 with h | h
                  · exact hns.out k h
                  · obtain rfl : k = 2 := by omega
                    exact HM.out
            · have cj := below_cells hbd (HWD.out.cell 3 _ rfl)
              by_cases hm : Co.text s.data.toList st1 = [60, 61]
              · rw [hm] at k3v
                have H0 : Hid (Co.op s.data.toList st1 6 11 = 9) := by
                  show _ = _
                  rw [HOP.out, hm]; rfl
                go_wp2_with fail
                refine FIV.out.mono ?_
                rintro e3 w4 ⟨rfl, rfl⟩
                go_wp2_with fail
                go_quiet (fail)
                go_wp2_with fail
                refine (NX.out _ (HX3.out.below (below_drewN hbd _) (Nat.le_refl _))).mono ?_
                rintro e4 w4 ⟨rfl, ⟨x4, hx4, hs4⟩, hg4⟩
                have HG4 := Lib.hid (grown_trans (grown_of HG3.out (below_drewN hbd _) (Nat.le_refl _)) hg4)
                have HY4 := Lib.hid ((HY.out.below (below_drewN hbd _) (Nat.le_refl _)).kept hg4 (by intro e; have := Option.some.inj e; omega))
                have HZ4 := Lib.hid ((HZ3.out.below (below_drewN hbd _) (Nat.le_refl _)).kept hg4 (by intro e; have := Option.some.inj e; omega))
                have HX4 := Lib.hid hx4
                have HS4 := Lib.hid hs4
                have FI4 := Lib.hid (dfine_any hx4)
                obtain ⟨r2, hcp⟩ : ∃ r2, cp (Co.next s.data.toList st1) = some (r2, st') := by
                  have hf := HF.out
                  rw [if_neg (by rw [H0.out]; decide)] at hf
                  cases hp : cp (Co.next s.data.toList st1) with
                  | none => rw [hp] at hf; cases hf
                  | some r =>
                    obtain ⟨r2, st2⟩ := r
                    rw [hp] at hf
                    obtain rfl : st2 = st' := by cases hf; rfl
                    exact ⟨r2, rfl⟩
                have HCP := Lib.hid hcp
                clear hx4 hs4 hg4 hcp
                by_cases hb : x4.c = 0
                · have hbt : (x4.c == 0) = true := by simpa using hb
                  rw [hbt] at FI4
                  have hbd4 : Below w4.heap.size w4 w4.drew := (Below.refl w4.heap.size w4).drew
                  have HC2 := Lib.hid (HPP.out _ _ _ HCP.out w4.drew ⟨GN.out, x4, HX4.out.below hbd4 (Nat.le_refl _), HS4.out⟩)
                  have HG4d := Lib.hid (grown_of HG4.out hbd4 (Nat.le_refl _))
                  have HY4d := Lib.hid (HY4.out.below hbd4 (Nat.le_refl _))
                  have HZ4d := Lib.hid (HZ4.out.below hbd4 (Nat.le_refl _))
                  clear hb hbt hbd4
                  obtain ⟨⟨y0, y1, y2, y3, y4, y5⟩, _⟩ := HY4.out.six_of
                  go_wp2_with fail
                  refine FI4.out.mono ?_
                  rintro e3 w5 ⟨rfl, rfl⟩
                  go_wp2_with fail
                  go_region_with (go_at_call 60; refine HC2.out.mono ?_; rintro e5 w5 ⟨⟨u, rfl⟩, h5, hg5⟩; have HZ5 : Hid (Cel w5 w.heap.size Ex.zero.list) := (HZ4d.out.kept hg5 (by intro e; have := Option.some.inj e; omega)); have HY5 : Hid (Cel w5 w1.heap.size y.list) := (HY4d.out.kept hg5 (by intro e; have := Option.some.inj e; omega)); have H5 := Lib.hid h5; have HG5 := Lib.hid (grown_trans HG4d.out hg5); have hz5 := HZ5.out.lt; clear h5 hg5; obtain ⟨⟨z0, z1, z2, z3, z4, z5⟩, g0, g1, g2, g3, g4, g5⟩ := HZ5.out.six_of; obtain ⟨⟨v0, v1, v2, v3, v4, v5⟩, _⟩ := HY5.out.six_of; unfold Ex.val)
                  all_goals
                    go_wp2
                    obtain ⟨vv, hvv⟩ : ∃ vv : Ex, vv = ⟨9, 0, 0, ⟨#[]⟩, ⟨#[]⟩, some ⟨w5.heap.size, 0, none⟩, 2, 2⟩ := ⟨_, rfl⟩
                    have hfin := (HZ5.out.six vv).alloc (.cells #[.int .i64 y.op, .int .i64 y.kind, .int .i64 y.num, .string y.txt, .string y.name, .slice y.A y.n y.c, .int .i64 u.op, .int .i64 u.kind, .int .i64 u.num, .string u.txt, .string u.name, .slice u.A u.n u.c] 87)
                    have h3 := (H5.out.other (set6_grown w5 w.heap.size vv) (by intro e; have := Option.some.inj e; omega)).alloc (.cells #[.int .i64 y.op, .int .i64 y.kind, .int .i64 y.num, .string y.txt, .string y.name, .slice y.A y.n y.c, .int .i64 u.op, .int .i64 u.kind, .int .i64 u.num, .string u.txt, .string u.name, .slice u.A u.n u.c] 87)
                    have hg3 := grown_trans (grown_past HG5.out (set6_grown w5 w.heap.size vv) (Nat.le_refl _)) (grown_alloc _ (.cells #[.int .i64 y.op, .int .i64 y.kind, .int .i64 y.num, .string y.txt, .string y.name, .slice y.A y.n y.c, .int .i64 u.op, .int .i64 u.kind, .int .i64 u.num, .string u.txt, .string u.name, .slice u.A u.n u.c] 87) _)
                    show bodyPost _ _ _ _ _ ((set6 w5 w.heap.size ⟨9, 0, 0, ⟨#[]⟩, ⟨#[]⟩, some ⟨w5.heap.size, 0, none⟩, 2, 2⟩).alloc (.cells #[.int .i64 y.op, .int .i64 y.kind, .int .i64 y.num, .string y.txt, .string y.name, .slice y.A y.n y.c, .int .i64 u.op, .int .i64 u.kind, .int .i64 u.num, .string u.txt, .string u.name, .slice u.A u.n u.c] 87))
                    rw [← hvv]
                    generalize (set6 w5 w.heap.size vv).alloc _ = wf at *
                    obtain ⟨⟨k0, k1, k2, k3, k4, k5⟩, _⟩ := hfin.six_of
                    exact bodyPost_ret (v := vv.val) (by simp [results, Tryz.results73, go_sem, k0, k1, k2, k3, k4, k5, Ex.val]) rfl ⟨⟨vv, rfl⟩, h3, hg3⟩
                · have hbf : (x4.c == 0) = false := by simpa using hb
                  rw [hbf] at FI4
                  obtain ⟨h1, h2⟩ := HS4.out.stay (d2 := d) GN.out HCP.out HK.out HT.out hb
                  have H5 : Hid (DpC w4 q s st' d) := ⟨h1, x4, HX4.out, h2⟩
                  clear hb hbf h1 h2
                  obtain ⟨⟨y0, y1, y2, y3, y4, y5⟩, _⟩ := HY4.out.six_of
                  obtain ⟨⟨z0, z1, z2, z3, z4, z5⟩, g0, g1, g2, g3, g4, g5⟩ := HZ4.out.six_of
                  go_wp2_with fail
                  refine FI4.out.mono ?_
                  rintro e3 w5 ⟨rfl, rfl⟩
                  go_wp2
                  have hfin := HZ4.out.six y
                  have h3 := H5.out.other (set6_grown w4 w.heap.size y) (by intro e; have := Option.some.inj e; omega)
                  have hg3 := grown_past HG4.out (set6_grown w4 w.heap.size y) (Nat.le_refl _)
                  show bodyPost _ _ _ _ _ (set6 w4 w.heap.size y)
                  generalize set6 w4 w.heap.size y = wf at *
                  obtain ⟨⟨k0, k1, k2, k3, k4, k5⟩, _⟩ := hfin.six_of
                  exact bodyPost_ret (v := y.val) (by simp [results, Tryz.results73, go_sem, k0, k1, k2, k3, k4, k5, Ex.val]) rfl ⟨⟨y, rfl⟩, h3, hg3⟩
              · obtain ⟨wd, hwd⟩ : ∃ wd : ByteArray, wd = ⟨(Co.text s.data.toList st1).toArray⟩ := ⟨_, rfl⟩
                rw [← hwd] at k3v
                have hwl : (wd.toList == [60, 61]) = false := by
                  rw [Co.eq_lit, hwd]; exact decide_eq_false hm
                have HM := Lib.hid hm
                clear hm hwd
                go_wp2_with fail
                refine FIV.out.mono ?_
                rintro e3 w4 ⟨rfl, rfl⟩
                go_wp2_with fail
                go_quiet (fail)
                go_wp2_with fail
                go_round
                case measure => simp [intOf]
                case rel =>
                  refine ⟨4, by omega, rfl, fun k hk => ?_, below_drewN hbd _⟩
                  rcases Nat.lt_or_ge k 3 with h | h
                  · exact hns.out k h
                  · obtain rfl : k = 3 := by omega
                    exact HM.out
            · have cj := below_cells hbd (HWD.out.cell 4 _ rfl)
              by_cases hm : Co.text s.data.toList st1 = [62]
              · rw [hm] at k3v
                have H0 : Hid (Co.op s.data.toList st1 6 11 = 10) := by
                  show _ = _
                  rw [HOP.out, hm]; rfl
                go_wp2_with fail
                refine FIV.out.mono ?_
                rintro e3 w4 ⟨rfl, rfl⟩
                go_wp2_with fail
                go_quiet (fail)
                go_wp2_with fail
                refine (NX.out _ (HX3.out.below (below_drewN hbd _) (Nat.le_refl _))).mono ?_
                rintro e4 w4 ⟨rfl, ⟨x4, hx4, hs4⟩, hg4⟩
                have HG4 := Lib.hid (grown_trans (grown_of HG3.out (below_drewN hbd _) (Nat.le_refl _)) hg4)
                have HY4 := Lib.hid ((HY.out.below (below_drewN hbd _) (Nat.le_refl _)).kept hg4 (by intro e; have := Option.some.inj e; omega))
                have HZ4 := Lib.hid ((HZ3.out.below (below_drewN hbd _) (Nat.le_refl _)).kept hg4 (by intro e; have := Option.some.inj e; omega))
                have HX4 := Lib.hid hx4
                have HS4 := Lib.hid hs4
                have FI4 := Lib.hid (dfine_any hx4)
                obtain ⟨r2, hcp⟩ : ∃ r2, cp (Co.next s.data.toList st1) = some (r2, st') := by
                  have hf := HF.out
                  rw [if_neg (by rw [H0.out]; decide)] at hf
                  cases hp : cp (Co.next s.data.toList st1) with
                  | none => rw [hp] at hf; cases hf
                  | some r =>
                    obtain ⟨r2, st2⟩ := r
                    rw [hp] at hf
                    obtain rfl : st2 = st' := by cases hf; rfl
                    exact ⟨r2, rfl⟩
                have HCP := Lib.hid hcp
                clear hx4 hs4 hg4 hcp
                by_cases hb : x4.c = 0
                · have hbt : (x4.c == 0) = true := by simpa using hb
                  rw [hbt] at FI4
                  have hbd4 : Below w4.heap.size w4 w4.drew := (Below.refl w4.heap.size w4).drew
                  have HC2 := Lib.hid (HPP.out _ _ _ HCP.out w4.drew ⟨GN.out, x4, HX4.out.below hbd4 (Nat.le_refl _), HS4.out⟩)
                  have HG4d := Lib.hid (grown_of HG4.out hbd4 (Nat.le_refl _))
                  have HY4d := Lib.hid (HY4.out.below hbd4 (Nat.le_refl _))
                  have HZ4d := Lib.hid (HZ4.out.below hbd4 (Nat.le_refl _))
                  clear hb hbt hbd4
                  obtain ⟨⟨y0, y1, y2, y3, y4, y5⟩, _⟩ := HY4.out.six_of
                  go_wp2_with fail
                  refine FI4.out.mono ?_
                  rintro e3 w5 ⟨rfl, rfl⟩
                  go_wp2_with fail
                  go_region_with (go_at_call 60; refine HC2.out.mono ?_; rintro e5 w5 ⟨⟨u, rfl⟩, h5, hg5⟩; have HZ5 : Hid (Cel w5 w.heap.size Ex.zero.list) := (HZ4d.out.kept hg5 (by intro e; have := Option.some.inj e; omega)); have HY5 : Hid (Cel w5 w1.heap.size y.list) := (HY4d.out.kept hg5 (by intro e; have := Option.some.inj e; omega)); have H5 := Lib.hid h5; have HG5 := Lib.hid (grown_trans HG4d.out hg5); have hz5 := HZ5.out.lt; clear h5 hg5; obtain ⟨⟨z0, z1, z2, z3, z4, z5⟩, g0, g1, g2, g3, g4, g5⟩ := HZ5.out.six_of; obtain ⟨⟨v0, v1, v2, v3, v4, v5⟩, _⟩ := HY5.out.six_of; unfold Ex.val)
                  all_goals
                    go_wp2
                    obtain ⟨vv, hvv⟩ : ∃ vv : Ex, vv = ⟨10, 0, 0, ⟨#[]⟩, ⟨#[]⟩, some ⟨w5.heap.size, 0, none⟩, 2, 2⟩ := ⟨_, rfl⟩
                    have hfin := (HZ5.out.six vv).alloc (.cells #[.int .i64 y.op, .int .i64 y.kind, .int .i64 y.num, .string y.txt, .string y.name, .slice y.A y.n y.c, .int .i64 u.op, .int .i64 u.kind, .int .i64 u.num, .string u.txt, .string u.name, .slice u.A u.n u.c] 87)
                    have h3 := (H5.out.other (set6_grown w5 w.heap.size vv) (by intro e; have := Option.some.inj e; omega)).alloc (.cells #[.int .i64 y.op, .int .i64 y.kind, .int .i64 y.num, .string y.txt, .string y.name, .slice y.A y.n y.c, .int .i64 u.op, .int .i64 u.kind, .int .i64 u.num, .string u.txt, .string u.name, .slice u.A u.n u.c] 87)
                    have hg3 := grown_trans (grown_past HG5.out (set6_grown w5 w.heap.size vv) (Nat.le_refl _)) (grown_alloc _ (.cells #[.int .i64 y.op, .int .i64 y.kind, .int .i64 y.num, .string y.txt, .string y.name, .slice y.A y.n y.c, .int .i64 u.op, .int .i64 u.kind, .int .i64 u.num, .string u.txt, .string u.name, .slice u.A u.n u.c] 87) _)
                    show bodyPost _ _ _ _ _ ((set6 w5 w.heap.size ⟨10, 0, 0, ⟨#[]⟩, ⟨#[]⟩, some ⟨w5.heap.size, 0, none⟩, 2, 2⟩).alloc (.cells #[.int .i64 y.op, .int .i64 y.kind, .int .i64 y.num, .string y.txt, .string y.name, .slice y.A y.n y.c, .int .i64 u.op, .int .i64 u.kind, .int .i64 u.num, .string u.txt, .string u.name, .slice u.A u.n u.c] 87))
                    rw [← hvv]
                    generalize (set6 w5 w.heap.size vv).alloc _ = wf at *
                    obtain ⟨⟨k0, k1, k2, k3, k4, k5⟩, _⟩ := hfin.six_of
                    exact bodyPost_ret (v := vv.val) (by simp [results, Tryz.results73, go_sem, k0, k1, k2, k3, k4, k5, Ex.val]) rfl ⟨⟨vv, rfl⟩, h3, hg3⟩
                · have hbf : (x4.c == 0) = false := by simpa using hb
                  rw [hbf] at FI4
                  obtain ⟨h1, h2⟩ := HS4.out.stay (d2 := d) GN.out HCP.out HK.out HT.out hb
                  have H5 : Hid (DpC w4 q s st' d) := ⟨h1, x4, HX4.out, h2⟩
                  clear hb hbf h1 h2
                  obtain ⟨⟨y0, y1, y2, y3, y4, y5⟩, _⟩ := HY4.out.six_of
                  obtain ⟨⟨z0, z1, z2, z3, z4, z5⟩, g0, g1, g2, g3, g4, g5⟩ := HZ4.out.six_of
                  go_wp2_with fail
                  refine FI4.out.mono ?_
                  rintro e3 w5 ⟨rfl, rfl⟩
                  go_wp2
                  have hfin := HZ4.out.six y
                  have h3 := H5.out.other (set6_grown w4 w.heap.size y) (by intro e; have := Option.some.inj e; omega)
                  have hg3 := grown_past HG4.out (set6_grown w4 w.heap.size y) (Nat.le_refl _)
                  show bodyPost _ _ _ _ _ (set6 w4 w.heap.size y)
                  generalize set6 w4 w.heap.size y = wf at *
                  obtain ⟨⟨k0, k1, k2, k3, k4, k5⟩, _⟩ := hfin.six_of
                  exact bodyPost_ret (v := y.val) (by simp [results, Tryz.results73, go_sem, k0, k1, k2, k3, k4, k5, Ex.val]) rfl ⟨⟨y, rfl⟩, h3, hg3⟩
              · obtain ⟨wd, hwd⟩ : ∃ wd : ByteArray, wd = ⟨(Co.text s.data.toList st1).toArray⟩ := ⟨_, rfl⟩
                rw [← hwd] at k3v
                have hwl : (wd.toList == [62]) = false := by
                  rw [Co.eq_lit, hwd]; exact decide_eq_false hm
                have HM := Lib.hid hm
                clear hm hwd
                go_wp2_with fail
                refine FIV.out.mono ?_
                rintro e3 w4 ⟨rfl, rfl⟩
                go_wp2_with fail
                go_quiet (fail)
                go_wp2_with fail
                go_round
                case measure => simp [intOf]
                case rel =>
                  refine ⟨5, by omega, rfl, fun k hk => ?_, below_drewN hbd _⟩
                  rcases Nat.lt_or_ge k 4 with h | h
                  · exact hns.out k h
                  · obtain rfl : k = 4 := by omega
                    exact HM.out
            · have cj := below_cells hbd (HWD.out.cell 5 _ rfl)
              by_cases hm : Co.text s.data.toList st1 = [62, 61]
              · rw [hm] at k3v
                have H0 : Hid (Co.op s.data.toList st1 6 11 = 11) := by
                  show _ = _
                  rw [HOP.out, hm]; rfl
                go_wp2_with fail
                refine FIV.out.mono ?_
                rintro e3 w4 ⟨rfl, rfl⟩
                go_wp2_with fail
                go_quiet (fail)
                go_wp2_with fail
                refine (NX.out _ (HX3.out.below (below_drewN hbd _) (Nat.le_refl _))).mono ?_
                rintro e4 w4 ⟨rfl, ⟨x4, hx4, hs4⟩, hg4⟩
                have HG4 := Lib.hid (grown_trans (grown_of HG3.out (below_drewN hbd _) (Nat.le_refl _)) hg4)
                have HY4 := Lib.hid ((HY.out.below (below_drewN hbd _) (Nat.le_refl _)).kept hg4 (by intro e; have := Option.some.inj e; omega))
                have HZ4 := Lib.hid ((HZ3.out.below (below_drewN hbd _) (Nat.le_refl _)).kept hg4 (by intro e; have := Option.some.inj e; omega))
                have HX4 := Lib.hid hx4
                have HS4 := Lib.hid hs4
                have FI4 := Lib.hid (dfine_any hx4)
                obtain ⟨r2, hcp⟩ : ∃ r2, cp (Co.next s.data.toList st1) = some (r2, st') := by
                  have hf := HF.out
                  rw [if_neg (by rw [H0.out]; decide)] at hf
                  cases hp : cp (Co.next s.data.toList st1) with
                  | none => rw [hp] at hf; cases hf
                  | some r =>
                    obtain ⟨r2, st2⟩ := r
                    rw [hp] at hf
                    obtain rfl : st2 = st' := by cases hf; rfl
                    exact ⟨r2, rfl⟩
                have HCP := Lib.hid hcp
                clear hx4 hs4 hg4 hcp
                by_cases hb : x4.c = 0
                · have hbt : (x4.c == 0) = true := by simpa using hb
                  rw [hbt] at FI4
                  have hbd4 : Below w4.heap.size w4 w4.drew := (Below.refl w4.heap.size w4).drew
                  have HC2 := Lib.hid (HPP.out _ _ _ HCP.out w4.drew ⟨GN.out, x4, HX4.out.below hbd4 (Nat.le_refl _), HS4.out⟩)
                  have HG4d := Lib.hid (grown_of HG4.out hbd4 (Nat.le_refl _))
                  have HY4d := Lib.hid (HY4.out.below hbd4 (Nat.le_refl _))
                  have HZ4d := Lib.hid (HZ4.out.below hbd4 (Nat.le_refl _))
                  clear hb hbt hbd4
                  obtain ⟨⟨y0, y1, y2, y3, y4, y5⟩, _⟩ := HY4.out.six_of
                  go_wp2_with fail
                  refine FI4.out.mono ?_
                  rintro e3 w5 ⟨rfl, rfl⟩
                  go_wp2_with fail
                  go_region_with (go_at_call 60; refine HC2.out.mono ?_; rintro e5 w5 ⟨⟨u, rfl⟩, h5, hg5⟩; have HZ5 : Hid (Cel w5 w.heap.size Ex.zero.list) := (HZ4d.out.kept hg5 (by intro e; have := Option.some.inj e; omega)); have HY5 : Hid (Cel w5 w1.heap.size y.list) := (HY4d.out.kept hg5 (by intro e; have := Option.some.inj e; omega)); have H5 := Lib.hid h5; have HG5 := Lib.hid (grown_trans HG4d.out hg5); have hz5 := HZ5.out.lt; clear h5 hg5; obtain ⟨⟨z0, z1, z2, z3, z4, z5⟩, g0, g1, g2, g3, g4, g5⟩ := HZ5.out.six_of; obtain ⟨⟨v0, v1, v2, v3, v4, v5⟩, _⟩ := HY5.out.six_of; unfold Ex.val)
                  all_goals
                    go_wp2
                    obtain ⟨vv, hvv⟩ : ∃ vv : Ex, vv = ⟨11, 0, 0, ⟨#[]⟩, ⟨#[]⟩, some ⟨w5.heap.size, 0, none⟩, 2, 2⟩ := ⟨_, rfl⟩
                    have hfin := (HZ5.out.six vv).alloc (.cells #[.int .i64 y.op, .int .i64 y.kind, .int .i64 y.num, .string y.txt, .string y.name, .slice y.A y.n y.c, .int .i64 u.op, .int .i64 u.kind, .int .i64 u.num, .string u.txt, .string u.name, .slice u.A u.n u.c] 87)
                    have h3 := (H5.out.other (set6_grown w5 w.heap.size vv) (by intro e; have := Option.some.inj e; omega)).alloc (.cells #[.int .i64 y.op, .int .i64 y.kind, .int .i64 y.num, .string y.txt, .string y.name, .slice y.A y.n y.c, .int .i64 u.op, .int .i64 u.kind, .int .i64 u.num, .string u.txt, .string u.name, .slice u.A u.n u.c] 87)
                    have hg3 := grown_trans (grown_past HG5.out (set6_grown w5 w.heap.size vv) (Nat.le_refl _)) (grown_alloc _ (.cells #[.int .i64 y.op, .int .i64 y.kind, .int .i64 y.num, .string y.txt, .string y.name, .slice y.A y.n y.c, .int .i64 u.op, .int .i64 u.kind, .int .i64 u.num, .string u.txt, .string u.name, .slice u.A u.n u.c] 87) _)
                    show bodyPost _ _ _ _ _ ((set6 w5 w.heap.size ⟨11, 0, 0, ⟨#[]⟩, ⟨#[]⟩, some ⟨w5.heap.size, 0, none⟩, 2, 2⟩).alloc (.cells #[.int .i64 y.op, .int .i64 y.kind, .int .i64 y.num, .string y.txt, .string y.name, .slice y.A y.n y.c, .int .i64 u.op, .int .i64 u.kind, .int .i64 u.num, .string u.txt, .string u.name, .slice u.A u.n u.c] 87))
                    rw [← hvv]
                    generalize (set6 w5 w.heap.size vv).alloc _ = wf at *
                    obtain ⟨⟨k0, k1, k2, k3, k4, k5⟩, _⟩ := hfin.six_of
                    exact bodyPost_ret (v := vv.val) (by simp [results, Tryz.results73, go_sem, k0, k1, k2, k3, k4, k5, Ex.val]) rfl ⟨⟨vv, rfl⟩, h3, hg3⟩
                · have hbf : (x4.c == 0) = false := by simpa using hb
                  rw [hbf] at FI4
                  obtain ⟨h1, h2⟩ := HS4.out.stay (d2 := d) GN.out HCP.out HK.out HT.out hb
                  have H5 : Hid (DpC w4 q s st' d) := ⟨h1, x4, HX4.out, h2⟩
                  clear hb hbf h1 h2
                  obtain ⟨⟨y0, y1, y2, y3, y4, y5⟩, _⟩ := HY4.out.six_of
                  obtain ⟨⟨z0, z1, z2, z3, z4, z5⟩, g0, g1, g2, g3, g4, g5⟩ := HZ4.out.six_of
                  go_wp2_with fail
                  refine FI4.out.mono ?_
                  rintro e3 w5 ⟨rfl, rfl⟩
                  go_wp2
                  have hfin := HZ4.out.six y
                  have h3 := H5.out.other (set6_grown w4 w.heap.size y) (by intro e; have := Option.some.inj e; omega)
                  have hg3 := grown_past HG4.out (set6_grown w4 w.heap.size y) (Nat.le_refl _)
                  show bodyPost _ _ _ _ _ (set6 w4 w.heap.size y)
                  generalize set6 w4 w.heap.size y = wf at *
                  obtain ⟨⟨k0, k1, k2, k3, k4, k5⟩, _⟩ := hfin.six_of
                  exact bodyPost_ret (v := y.val) (by simp [results, Tryz.results73, go_sem, k0, k1, k2, k3, k4, k5, Ex.val]) rfl ⟨⟨y, rfl⟩, h3, hg3⟩
              · obtain ⟨wd, hwd⟩ : ∃ wd : ByteArray, wd = ⟨(Co.text s.data.toList st1).toArray⟩ := ⟨_, rfl⟩
                rw [← hwd] at k3v
                have hwl : (wd.toList == [62, 61]) = false := by
                  rw [Co.eq_lit, hwd]; exact decide_eq_false hm
                have HM := Lib.hid hm
                clear hm hwd
                go_wp2_with fail
                refine FIV.out.mono ?_
                rintro e3 w4 ⟨rfl, rfl⟩
                go_wp2_with fail
                go_quiet (fail)
                go_wp2_with fail
                go_round
                case measure => simp [intOf]
                case rel =>
                  refine ⟨6, by omega, rfl, fun k hk => ?_, below_drewN hbd _⟩
                  rcases Nat.lt_or_ge k 5 with h | h
                  · exact hns.out k h
                  · obtain rfl : k = 5 := by omega
                    exact HM.out
            · have H0 : Hid (Co.op s.data.toList st1 6 11 = 0) := by
                show _ = _
                rw [HOP.out]
                have h := hns.out
                rw [if_neg (h 0 (by omega)), if_neg (h 1 (by omega)), if_neg (h 2 (by omega)), if_neg (h 3 (by omega)), if_neg (h 4 (by omega)), if_neg (h 5 (by omega))]
              obtain rfl : st1 = st' := by
                have hf := HF.out
                rw [if_pos H0.out] at hf
                cases hf; rfl
              obtain ⟨⟨y0, y1, y2, y3, y4, y5⟩, _⟩ := HYV.out.six_of
              obtain ⟨⟨z0, z1, z2, z3, z4, z5⟩, g0, g1, g2, g3, g4, g5⟩ := HZV.out.six_of
              go_wp2
              have hfin := HZV.out.six y
              have h3 := HDV.out.other (set6_grown wv w.heap.size y) (by intro e; have := Option.some.inj e; omega)
              have hg3 := grown_past HGV.out (set6_grown wv w.heap.size y) (Nat.le_refl _)
              show bodyPost _ _ _ _ _ (set6 wv w.heap.size y)
              generalize set6 wv w.heap.size y = wf at *
              obtain ⟨⟨k0, k1, k2, k3, k4, k5⟩, _⟩ := hfin.six_of
              exact bodyPost_ret (v := y.val) (by simp [results, Tryz.results73, go_sem, k0, k1, k2, k3, k4, k5, Ex.val]) rfl ⟨⟨y, rfl⟩, h3, hg3⟩
      · have H0 : Hid (Co.op s.data.toList st1 6 11 = 0) := by
          cases hs3 with
          | fine he hk1 => exact absurd rfl hb3
          | bad a n d' wd c k hc he =>
            show _ = _
            by_cases h0 : Co.op s.data.toList st1 6 11 = 0
            · exact h0
            · have h6 := Co.op_kind h0
              have h1 := Co.eff_of he (by rw [h6]; decide)
              have h2 := H3.out.gd.bad (by rw [h1]; rfl)
              omega
        have hbf : (x3.c == 0) = false := by simpa using hb3
        have FI3 := Lib.hid (fun wv (hb : Below w3.heap.size w3 wv) => dfine_any (hx3.below hb (Nat.le_refl _)))
        rw [hbf] at FI3
        clear hb3 hbf hx3 hs3
        obtain rfl : st1 = st' := by
          have hf := HF.out
          rw [if_pos H0.out] at hf
          cases hf; rfl
        go_wp2_with fail
        go_loopw [6] (fun i v => i = .int .i64 0 ∧ Below w3.heap.size w3 v) (fun i _ => 6 - (intOf i).toNat)
        case atStart => exact ⟨rfl, Below.refl _ _⟩
        case round =>
          obtain ⟨rfl, hbd⟩ := hrel
          generalize wr = wv at *
          have FIV := Lib.hid (FI3.out wv hbd)
          have HYV := Lib.hid (HY.out.below hbd (Nat.le_refl _))
          have HZV := Lib.hid (HZ3.out.below hbd (Nat.le_refl _))
          have HGV := Lib.hid (grown_of HG3.out hbd (Nat.le_refl _))
          have HDV := Lib.hid (H3.out.other (grown_of (World.grownBy.refl w3 none) hbd (Nat.le_refl _)) (by simp))
          obtain ⟨⟨y0, y1, y2, y3, y4, y5⟩, _⟩ := HYV.out.six_of
          obtain ⟨⟨z0, z1, z2, z3, z4, z5⟩, g0, g1, g2, g3, g4, g5⟩ := HZV.out.six_of
          go_wp2_with fail
          refine FIV.out.mono ?_
          rintro e3 w5 ⟨rfl, rfl⟩
          go_wp2
          have hfin := HZV.out.six y
          have h3 := HDV.out.other (set6_grown wv w.heap.size y) (by intro e; have := Option.some.inj e; omega)
          have hg3 := grown_past HGV.out (set6_grown wv w.heap.size y) (Nat.le_refl _)
          show bodyPost _ _ _ _ _ (set6 wv w.heap.size y)
          generalize set6 wv w.heap.size y = wf at *
          obtain ⟨⟨k0, k1, k2, k3, k4, k5⟩, _⟩ := hfin.six_of
          exact bodyPost_ret (v := y.val) (by simp [results, Tryz.results73, go_sem, k0, k1, k2, k3, k4, k5, Ex.val]) rfl ⟨⟨y, rfl⟩, h3, hg3⟩
    · have hbf : (x.c == 0) = false := by simpa using hb
      rw [hbf] at FI
      clear hbf HW
      go_enter Tryz.func73, Tryz.ntmps73
      go_wp2_with fail
      refine FI.out.mono ?_
      rintro e3 w3 ⟨rfl, rfl⟩
      go_wp2_with fail
      refine HC.out.mono ?_
      rintro x w1 ⟨⟨y, rfl⟩, h1, hg1⟩
      have HG1 := Lib.hid (grown_trans HG.out hg1)
      have HZ1 : Hid (Cel w1 w.heap.size Ex.zero.list) := HZ.out.kept hg1 (by intro e; have := Option.some.inj e; omega)
      have H1 := Lib.hid h1
      clear h1 hg1 HC HG HZ
      unfold Ex.val
      go_upto_region 9 with (fail)
      have hzl : w.heap.size < w1.heap.size := HZ1.out.lt
      have HY := Lib.hid ((Cel.lit w1 #[.int .i64 y.op, .int .i64 y.kind, .int .i64 y.num, .string y.txt, .string y.name, .slice y.A y.n y.c] 87).alloc (.cells #[.string ⟨#[61, 61]⟩, .string ⟨#[33, 61]⟩, .string ⟨#[60]⟩, .string ⟨#[60, 61]⟩, .string ⟨#[62]⟩, .string ⟨#[62, 61]⟩] 9))
      have HWD : Hid (Cel ((w1.alloc (.cells #[.int .i64 y.op, .int .i64 y.kind, .int .i64 y.num, .string y.txt, .string y.name, .slice y.A y.n y.c] 87)).alloc (.cells #[.string ⟨#[61, 61]⟩, .string ⟨#[33, 61]⟩, .string ⟨#[60]⟩, .string ⟨#[60, 61]⟩, .string ⟨#[62]⟩, .string ⟨#[62, 61]⟩] 9)) (w1.heap.size + 1) [.string ⟨#[61, 61]⟩, .string ⟨#[33, 61]⟩, .string ⟨#[60]⟩, .string ⟨#[60, 61]⟩, .string ⟨#[62]⟩, .string ⟨#[62, 61]⟩]) := cel_at (Cel.lit (w1.alloc (.cells #[.int .i64 y.op, .int .i64 y.kind, .int .i64 y.num, .string y.txt, .string y.name, .slice y.A y.n y.c] 87)) #[.string ⟨#[61, 61]⟩, .string ⟨#[33, 61]⟩, .string ⟨#[60]⟩, .string ⟨#[60, 61]⟩, .string ⟨#[62]⟩, .string ⟨#[62, 61]⟩] 9) (by simp)
      have H3 := Lib.hid ((H1.out.alloc (.cells #[.int .i64 y.op, .int .i64 y.kind, .int .i64 y.num, .string y.txt, .string y.name, .slice y.A y.n y.c] 87)).alloc (.cells #[.string ⟨#[61, 61]⟩, .string ⟨#[33, 61]⟩, .string ⟨#[60]⟩, .string ⟨#[60, 61]⟩, .string ⟨#[62]⟩, .string ⟨#[62, 61]⟩] 9))
      have HZ3 := Lib.hid ((HZ1.out.alloc (.cells #[.int .i64 y.op, .int .i64 y.kind, .int .i64 y.num, .string y.txt, .string y.name, .slice y.A y.n y.c] 87)).alloc (.cells #[.string ⟨#[61, 61]⟩, .string ⟨#[33, 61]⟩, .string ⟨#[60]⟩, .string ⟨#[60, 61]⟩, .string ⟨#[62]⟩, .string ⟨#[62, 61]⟩] 9))
      have HG3 := Lib.hid (grown_trans (grown_trans HG1.out (grown_alloc w1 (.cells #[.int .i64 y.op, .int .i64 y.kind, .int .i64 y.num, .string y.txt, .string y.name, .slice y.A y.n y.c] 87) _)) (grown_alloc _ (.cells #[.string ⟨#[61, 61]⟩, .string ⟨#[33, 61]⟩, .string ⟨#[60]⟩, .string ⟨#[60, 61]⟩, .string ⟨#[62]⟩, .string ⟨#[62, 61]⟩] 9) _))
      clear H1 HZ1 HG1
      have HY : Hid (Cel _ w1.heap.size y.list) := HY
      generalize (w1.alloc _).alloc _ = w3 at *
      obtain ⟨x3, hx3, hs3⟩ := H3.out.ex
      have hb3 := HBAD.out hb x3 hs3
      have H0 : Hid (Co.op s.data.toList st1 6 11 = 0) := by
        cases hs3 with
        | fine he hk1 => exact absurd rfl hb3
        | bad a n d' wd c k hc he =>
          show _ = _
          by_cases h0 : Co.op s.data.toList st1 6 11 = 0
          · exact h0
          · have h6 := Co.op_kind h0
            have h1 := Co.eff_of he (by rw [h6]; decide)
            have h2 := H3.out.gd.bad (by rw [h1]; rfl)
            omega
      have hbf : (x3.c == 0) = false := by simpa using hb3
      have FI3 := Lib.hid (fun wv (hb : Below w3.heap.size w3 wv) => dfine_any (hx3.below hb (Nat.le_refl _)))
      rw [hbf] at FI3
      clear hb3 hbf hx3 hs3
      obtain rfl : st1 = st' := by
        have hf := HF.out
        rw [if_pos H0.out] at hf
        cases hf; rfl
      go_wp2_with fail
      go_loopw [6] (fun i v => i = .int .i64 0 ∧ Below w3.heap.size w3 v) (fun i _ => 6 - (intOf i).toNat)
      case atStart => exact ⟨rfl, Below.refl _ _⟩
      case round =>
        obtain ⟨rfl, hbd⟩ := hrel
        generalize wr = wv at *
        have FIV := Lib.hid (FI3.out wv hbd)
        have HYV := Lib.hid (HY.out.below hbd (Nat.le_refl _))
        have HZV := Lib.hid (HZ3.out.below hbd (Nat.le_refl _))
        have HGV := Lib.hid (grown_of HG3.out hbd (Nat.le_refl _))
        have HDV := Lib.hid (H3.out.other (grown_of (World.grownBy.refl w3 none) hbd (Nat.le_refl _)) (by simp))
        obtain ⟨⟨y0, y1, y2, y3, y4, y5⟩, _⟩ := HYV.out.six_of
        obtain ⟨⟨z0, z1, z2, z3, z4, z5⟩, g0, g1, g2, g3, g4, g5⟩ := HZV.out.six_of
        go_wp2_with fail
        refine FIV.out.mono ?_
        rintro e3 w5 ⟨rfl, rfl⟩
        go_wp2
        have hfin := HZV.out.six y
        have h3 := HDV.out.other (set6_grown wv w.heap.size y) (by intro e; have := Option.some.inj e; omega)
        have hg3 := grown_past HGV.out (set6_grown wv w.heap.size y) (Nat.le_refl _)
        show bodyPost _ _ _ _ _ (set6 wv w.heap.size y)
        generalize set6 wv w.heap.size y = wf at *
        obtain ⟨⟨k0, k1, k2, k3, k4, k5⟩, _⟩ := hfin.six_of
        exact bodyPost_ret (v := y.val) (by simp [results, Tryz.results73, go_sem, k0, k1, k2, k3, k4, k5, Ex.val]) rfl ⟨⟨y, rfl⟩, h3, hg3⟩
theorem dnot_any (hsz : s.size ≤ 80) (hd : d ≤ 12) (part : Nat → Co.St → Co.Out) (cp : Co.St → Co.Out) (hk : d ≠ 12 → Co.Keeps (part (d + 1))) (ht : d ≠ 12 → Co.Tot s.data.toList (part (d + 1)))
    (HP : d ≠ 12 → DPart q s 73 #[] (d + 1) (part (d + 1))) (hkc : Co.Keeps cp) (htc : Co.Tot s.data.toList cp) (HC : DPart q s 60 #[.int .i64 4] d cp) :
    DPart q s 73 #[] d (Co.under s.data.toList [110, 111, 116] 5 part (Co.compared s.data.toList cp) d) := by
  intro st e st' hf w h
  by_cases hm : Co.isM s.data.toList st [110, 111, 116] = true
  · have hm2 : Co.text s.data.toList st = [110, 111, 116] := by
      unfold Co.isM at hm
      simp only [Bool.and_eq_true, decide_eq_true_eq] at hm
      exact hm.2
    have he := Co.kind_err h.gd (by rw [Co.isM_kind hm]; decide)
    exact dnot_yes hsz hd part _ hk ht HP hm2 he hf h
  · unfold Co.under at hf
    rw [if_neg hm] at hf
    exact dnot_no hsz cp hkc htc HC (fun he e => hm (by rw [h.gd.isM he _ (by decide) (by decide)]; exact decide_eq_true e)) hf h
end
end Go.Proofs.YtddedbpbenkdoaaGreatDoor
