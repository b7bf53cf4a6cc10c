/- The document's parser: a sign: a bracket. -/
import Derived.Test.YtddedbpbenkdoaaGreatDoorDhY
namespace Go.Proofs.YtddedbpbenkdoaaGreatDoor
open Go.RowKit

namespace Co
/-- Behind what a bracket holds. -/
def shut (l : List UInt8) (st : St) : St := next l (if isM l st [41] = true then st else fail 111 st)
theorem shut_gd {l : List UInt8} {st : St} (h : Gd l st) : Gd l (shut l st) := by
  unfold shut
  split
  · exact h.next.1
  · exact (h.fail 111).1.next.1
theorem shut_keeps {l : List UInt8} {st1 : St} {x : Int × Nat} (h1 : eff st1 = some x) : eff (shut l st1) = some x := by
  unfold shut
  by_cases hm : isM l st1 [41] = true
  · rw [if_pos hm]
    have he := eff_of h1 (by rw [isM_kind hm]; decide)
    rw [nextD_err he]
    exact h1
  · rw [if_neg hm]
    cases he : st1.err with
    | some y =>
      rw [failD_err he, nextD_err he]
      exact h1
    | none =>
      have hf : fail 111 st1 = ⟨0, st1.frm, st1.till, some (111, st1.frm)⟩ := by unfold fail; rw [he]; rfl
      rw [hf, nextD_err rfl]
      unfold eff at h1 ⊢
      rw [he] at h1
      by_cases hk0 : st1.kind = 0
      · simp [hk0] at h1 ⊢; exact h1
      · simp [hk0] at h1
end Co
section
variable {w w1 : World} {q d : Nat} {s : ByteArray} {st : Co.St}
theorem Says.shut {x : Dq} {d2 : Nat} (hs : Says s st d x) (hb : x.c ≠ 0) : Says s (Co.shut s.data.toList st) d2 x := by
  cases hs with
  | fine h1 h2 => exact absurd rfl hb
  | bad a n d' wd c k hc he => exact .bad a n d' wd c k hc (Co.shut_keeps he)
set_option maxRecDepth 10000 in
set_option maxHeartbeats 3200000 in
theorem dsign_bracket (hsz : s.size ≤ 80) (hd : d ≤ 12) (part : Nat → Co.St → Co.Out) (hk : d ≠ 12 → Co.Keeps (part (d + 1))) (ht : d ≠ 12 → Co.Tot s.data.toList (part (d + 1)))
    (HP : d ≠ 12 → DPart q s 60 #[.int .i64 0] (d + 1) (part (d + 1))) {e : Co.Tr} {st' : Co.St} (hm : Co.text s.data.toList st = [40]) (he : st.err = none)
    (hf : Co.bracket s.data.toList part d st = some (e, st')) (h : DpC w q s st d) :
    Calls Tryz.prog 85 #[.pointer (some ⟨q, 0, none⟩)] w (DEnd q s d st' w) := by
  have hql := h.lt
  have hM := h.gd.isM he [40] (by decide) (by decide)
  rw [hm] at hM
  have hM : Co.isM s.data.toList st [40] = true := hM
  unfold Co.bracket at hf
  have hfa := h.gd.facts he
  have hsl : s.data.toList.length = s.size := by simp
  have H1 := Lib.hid (h.alloc (.cells #[.int .i64 0, .int .i64 0, .int .i64 0, .string ⟨#[]⟩, .string ⟨#[]⟩, .slice none 0 0] 87))
  have HZ := Lib.hid (Cel.lit w #[.int .i64 0, .int .i64 0, .int .i64 0, .string ⟨#[]⟩, .string ⟨#[]⟩, .slice none 0 0] 87)
  obtain ⟨x, hx, hs⟩ := H1.out.ex
  have HGd := Lib.hid h.gd
  have hti : st.till ≤ s.size := by rw [← hsl]; exact hfa.2.1
  clear h hfa hM
  cases hs with
  | bad a n d' wd c k hc he2 =>
    exfalso
    have hM := HGd.out.isM he [40] (by decide) (by decide)
    rw [hm] at hM
    have hk6 := Co.isM_kind (show Co.isM s.data.toList st [40] = true from hM)
    have := Co.eff_of he2 (by rw [hk6]; decide)
    rw [he] at this
    cases this
  | fine _ hk1 =>
    have HX : Hid (Cel _ q (Dq.list s (Dq.good s st d))) := hx
    have FI := Lib.hid (dfine_any hx)
    have IN := Lib.hid (dinner_any HX.out he hti hsz hd)
    obtain ⟨⟨_, _, _, k3, _, _, _, _⟩, _⟩ := Dq.facts hx
    dsimp only at k3
    rw [hm] at k3
    have HF := Lib.hid hf
    have HE := Lib.hid he
    have HK := Lib.hid hk
    have HT := Lib.hid ht
    have HPP := Lib.hid HP
    clear hf hx hk ht HP hm he hk1 hti
    go_enter Tryz.func85, Tryz.ntmps85
    go_wp2_with fail
    refine FI.out.mono ?_
    rintro e3 w3 ⟨rfl, rfl⟩
    go_wp2_with fail
    refine IN.out.mono ?_
    rintro e4 w4 ⟨x4, rfl, hx4, hs12, hsn, hg4⟩
    have HG4 := Lib.hid (grown_trans (grown_alloc w (.cells #[.int .i64 0, .int .i64 0, .int .i64 0, .string ⟨#[]⟩, .string ⟨#[]⟩, .slice none 0 0] 87) (some q)) hg4)
    have HX4 := Lib.hid hx4
    have HZ4 : Hid (Cel w4 w.heap.size Ex.zero.list) := HZ.out.kept hg4 (by intro e; have := Option.some.inj e; omega)
    clear hg4 hx4
    by_cases hb : x4.c = 0
    · have hbt : (x4.c == 0) = true := by simpa using hb
      rw [hbt]
      by_cases h12 : d = 12
      · exfalso
        cases hs12 h12 with
        | fine h1 _ => exact (HGd.out.fail 112).2 h1
        | bad a n d' wd c k hc he2 => exact hc hb
      have hsn := hsn h12
      have hf := HF.out
      unfold Co.deeper at hf
      rw [if_neg h12] at hf
      cases hp : part (d + 1) (Co.next s.data.toList st) with
      | none => rw [hp] at hf; cases hf
      | some r =>
        obtain ⟨e1, st1⟩ := r
        rw [hp] at hf
        obtain rfl : Co.shut s.data.toList st1 = st' := by cases hf; rfl
        have HC := Lib.hid (HPP.out h12 _ e1 st1 hp w4 ⟨HGd.out.next.1, x4, HX4.out, hsn⟩)
        clear hp hf hsn hs12 hb hbt
        go_wp2_with fail
        refine HC.out.mono ?_
        rintro e5 w5 ⟨⟨y, rfl⟩, h5, hg5⟩
        have HZ5 : Hid (Cel w5 w.heap.size Ex.zero.list) := HZ4.out.kept hg5 (by intro e; have := Option.some.inj e; omega)
        have H5 := Lib.hid h5
        have HG5 := Lib.hid (grown_trans HG4.out hg5)
        have hz5 : w.heap.size < w5.heap.size := HZ5.out.lt
        clear h5 hg5
        unfold Ex.val
        go_upto_region 17 with (fail)
        have H7 := Lib.hid (H5.out.alloc (.cells #[.int .i64 y.op, .int .i64 y.kind, .int .i64 y.num, .string y.txt, .string y.name, .slice y.A y.n y.c] 87))
        have HZ7 := Lib.hid (HZ5.out.alloc (.cells #[.int .i64 y.op, .int .i64 y.kind, .int .i64 y.num, .string y.txt, .string y.name, .slice y.A y.n y.c] 87))
        have HY7 : Hid (Cel (w5.alloc (.cells #[.int .i64 y.op, .int .i64 y.kind, .int .i64 y.num, .string y.txt, .string y.name, .slice y.A y.n y.c] 87)) w5.heap.size y.list) := Lib.hid (Cel.lit w5 #[.int .i64 y.op, .int .i64 y.kind, .int .i64 y.num, .string y.txt, .string y.name, .slice y.A y.n y.c] 87)
        have HG7 := Lib.hid (grown_trans HG5.out (grown_alloc w5 (.cells #[.int .i64 y.op, .int .i64 y.kind, .int .i64 y.num, .string y.txt, .string y.name, .slice y.A y.n y.c] 87) _))
        generalize w5.alloc _ = w7 at *
        obtain ⟨x7, hx7, hs7⟩ := H7.out.ex
        have HU := Lib.hid (DpC.up H7.out.gd hx7 hs7 hd)
        obtain ⟨⟨_, _, _, _, _, _, _, k7⟩, _, _, _, _, _, _, f7⟩ := Dq.facts hx7
        obtain ⟨v, hv⟩ : ∃ v : Int, v = wrap64 (x7.d - 1) := ⟨_, rfl⟩
        rw [← hv] at HU
        have HG8 := Lib.hid (set_grown HG7.out 7 (.int .i64 v))
        have HZ8 : Hid (Cel (w7.setCell ⟨q, 7, none⟩ (.int .i64 v)) w.heap.size Ex.zero.list) := HZ7.out.kept (set_grown (World.grownBy.refl w7 (some q)) 7 (.int .i64 v)) (by intro e; have := Option.some.inj e; omega)
        have HY8 : Hid (Cel (w7.setCell ⟨q, 7, none⟩ (.int .i64 v)) w5.heap.size y.list) := HY7.out.kept (set_grown (World.grownBy.refl w7 (some q)) 7 (.int .i64 v)) (by intro e; have := Option.some.inj e; omega)
        clear hx7 hs7 H7 HZ7 HY7 HG7 H5 HZ5 HG5 HZ4 HG4 HX4
        go_upto_region 18 with (fail)
        rw [show wrap64 (x7.d - 1) = v from hv.symm]
        generalize w7.setCell _ _ = w8 at *
        obtain ⟨x8, hx8, hs8⟩ := HU.out.ex
        have FI8 := Lib.hid (dfine_any hx8)
        have GS := Lib.hid (Co.shut_gd HU.out.gd)
        by_cases hb : x8.c = 0
        · cases hs8 with
          | bad a n d' wd c k hc he => exact absurd hb hc
          | fine he8 hk8 =>
            have HX8 : Hid (Cel w8 q (Dq.list s (Dq.good s st1 d))) := hx8
            obtain ⟨⟨_, k1, _, k3, _, _, _, _⟩, _⟩ := Dq.facts HX8.out
            unfold Dq.good at k1 k3
            dsimp only at k1 k3
            have hfa8 := HU.out.gd.facts he8
            have hM8 := HU.out.gd.isM he8 [41] (by decide) (by decide)
            by_cases hm : Co.text s.data.toList st1 = [41]
            · rw [hm] at k3
              have NX8 := Lib.hid (dnext_any HX8.out he8 (by rw [← hsl]; exact hfa8.2.1) hsz)
              have HSH : Hid (Co.shut s.data.toList st1 = Co.next s.data.toList st1) := by
                show _ = _
                unfold Co.shut
                rw [if_pos (by rw [hM8]; exact decide_eq_true hm)]
              clear hb hx8 he8 hk8 hfa8 hM8 hm
              go_wp2_with fail
              refine FI8.out.mono ?_
              rintro e9 w9 ⟨rfl, rfl⟩
              go_wp2_with fail
              refine FI8.out.mono ?_
              rintro e9 w9 ⟨rfl, rfl⟩
              go_wp2_with fail
              refine NX8.out.mono ?_
              rintro e9 w9 ⟨rfl, ⟨x9, hx9, hs9⟩, hg9⟩
              have HZ9 := Lib.hid (HZ8.out.kept hg9 (by intro e; have := Option.some.inj e; omega))
              have HY9 := Lib.hid (HY8.out.kept hg9 (by intro e; have := Option.some.inj e; omega))
              have HG9 := Lib.hid (grown_trans HG8.out hg9)
              have HD9 : Hid (DpC w9 q s (Co.shut s.data.toList st1) d) := ⟨GS.out, x9, hx9, by rw [HSH.out]; exact hs9⟩
              clear hx9 hs9 hg9
              obtain ⟨⟨y0, y1, y2, y3, y4, y5⟩, _⟩ := HY9.out.six_of
              obtain ⟨⟨z0, z1, z2, z3, z4, z5⟩, g0, g1, g2, g3, g4, g5⟩ := HZ9.out.six_of
              go_wp2
              have hfin := HZ9.out.six y
              have h3 := HD9.out.other (set6_grown w9 w.heap.size y) (by intro e; have := Option.some.inj e; omega)
              have hg3 := grown_past HG9.out (set6_grown w9 w.heap.size y) (Nat.le_refl _)
              show bodyPost _ _ _ _ _ (set6 w9 w.heap.size y)
              generalize set6 w9 w.heap.size y = wf at *
              obtain ⟨⟨k0, k1, k2, k3, k4, k5⟩, _⟩ := hfin.six_of
              exact bodyPost_ret (v := y.val) (by simp [results, Tryz.results85, go_sem, k0, k1, k2, k3, k4, k5, Ex.val]) rfl ⟨⟨y, rfl⟩, h3, hg3⟩
            · obtain ⟨wd, hwd⟩ : ∃ wd : ByteArray, wd = ⟨(Co.text s.data.toList st1).toArray⟩ := ⟨_, rfl⟩
              rw [← hwd] at k3
              have hwl : (wd.toList == [41]) = false := by rw [Co.eq_lit, hwd]; exact decide_eq_false hm
              have AMI := Lib.hid (damiss_any HX8.out rfl 111 (st1.frm : Int) (by decide))
              have HSH : Hid (Co.eff (Co.shut s.data.toList st1) = some (111, st1.frm)) := by
                show _ = _
                unfold Co.shut
                rw [if_neg (by rw [hM8]; simpa using hm)]
                have hf1 : Co.fail 111 st1 = ⟨0, st1.frm, st1.till, some (111, st1.frm)⟩ := by unfold Co.fail; rw [he8]; rfl
                rw [hf1, Co.nextD_err rfl]
                rfl
              clear hb hx8 he8 hk8 hfa8 hM8 hm hwd
              go_wp2_with fail
              refine FI8.out.mono ?_
              rintro e9 w9 ⟨rfl, rfl⟩
              go_wp2_with (go_at_call 62; refine (AMI.out).mono ?_; rintro e w9 ⟨rfl, h9, hg9⟩)
              have FI9 := Lib.hid (dfine_any h9)
              have HZ9 := Lib.hid (HZ8.out.kept hg9 (by intro e; have := Option.some.inj e; omega))
              have HY9 := Lib.hid (HY8.out.kept hg9 (by intro e; have := Option.some.inj e; omega))
              have HG9 := Lib.hid (grown_trans HG8.out hg9)
              have HD9 : Hid (DpC w9 q s (Co.shut s.data.toList st1) d) := ⟨GS.out, _, h9, .bad _ _ _ _ _ _ (by decide) HSH.out⟩
              clear h9 hg9
              obtain ⟨⟨y0, y1, y2, y3, y4, y5⟩, _⟩ := HY9.out.six_of
              obtain ⟨⟨z0, z1, z2, z3, z4, z5⟩, g0, g1, g2, g3, g4, g5⟩ := HZ9.out.six_of
              go_wp2_with fail
              refine FI9.out.mono ?_
              rintro e9 w10 ⟨rfl, rfl⟩
              go_wp2
              have hfin := HZ9.out.six y
              have h3 := HD9.out.other (set6_grown w9 w.heap.size y) (by intro e; have := Option.some.inj e; omega)
              have hg3 := grown_past HG9.out (set6_grown w9 w.heap.size y) (Nat.le_refl _)
              show bodyPost _ _ _ _ _ (set6 w9 w.heap.size y)
              generalize set6 w9 w.heap.size y = wf at *
              obtain ⟨⟨k0, k1, k2, k3, k4, k5⟩, _⟩ := hfin.six_of
              exact bodyPost_ret (v := y.val) (by simp [results, Tryz.results85, go_sem, k0, k1, k2, k3, k4, k5, Ex.val]) rfl ⟨⟨y, rfl⟩, h3, hg3⟩
        · have hbf : (x8.c == 0) = false := by simpa using hb
          rw [hbf] at FI8
          have HD9 : Hid (DpC w8 q s (Co.shut s.data.toList st1) d) := ⟨GS.out, x8, hx8, hs8.shut hb⟩
          clear hb hbf hx8 hs8
          obtain ⟨⟨y0, y1, y2, y3, y4, y5⟩, _⟩ := HY8.out.six_of
          obtain ⟨⟨z0, z1, z2, z3, z4, z5⟩, g0, g1, g2, g3, g4, g5⟩ := HZ8.out.six_of
          go_wp2_with fail
          refine FI8.out.mono ?_
          rintro e9 w9 ⟨rfl, rfl⟩
          go_wp2_with fail
          refine FI8.out.mono ?_
          rintro e9 w9 ⟨rfl, rfl⟩
          go_wp2
          have hfin := HZ8.out.six y
          have h3 := HD9.out.other (set6_grown w8 w.heap.size y) (by intro e; have := Option.some.inj e; omega)
          have hg3 := grown_past HG8.out (set6_grown w8 w.heap.size y) (Nat.le_refl _)
          show bodyPost _ _ _ _ _ (set6 w8 w.heap.size y)
          generalize set6 w8 w.heap.size y = wf at *
          obtain ⟨⟨k0, k1, k2, k3, k4, k5⟩, _⟩ := hfin.six_of
          exact bodyPost_ret (v := y.val) (by simp [results, Tryz.results85, go_sem, k0, k1, k2, k3, k4, k5, Ex.val]) rfl ⟨⟨y, rfl⟩, h3, hg3⟩
    · have hbf : (x4.c == 0) = false := by simpa using hb
      rw [hbf]
      obtain ⟨⟨z0, z1, z2, z3, z4, z5⟩, g0, g1, g2, g3, g4, g5⟩ := HZ4.out.six_of
      go_wp2
      have hfin := HZ4.out.six Ex.zero
      have hg3 : w.grownBy (set6 w4 w.heap.size Ex.zero) (some q) := grown_past HG4.out (set6_grown w4 w.heap.size Ex.zero) (Nat.le_refl _)
      have hx5 := HX4.out.kept (set6_grown w4 w.heap.size Ex.zero) (by intro e; have := Option.some.inj e; omega)
      show bodyPost _ _ _ _ _ (set6 w4 w.heap.size Ex.zero)
      generalize set6 w4 w.heap.size Ex.zero = wf at *
      obtain ⟨⟨k0, k1, k2, k3, k4, k5⟩, _⟩ := hfin.six_of
      refine bodyPost_ret (v := Ex.zero.val) (by simp [results, Tryz.results85, go_sem, k0, k1, k2, k3, k4, k5, Ex.val]) rfl ⟨⟨_, rfl⟩, ?_, hg3⟩
      have hf := HF.out
      unfold Co.deeper at hf
      by_cases h12 : d = 12
      · rw [if_pos h12] at hf
        obtain rfl : Co.shut s.data.toList (Co.fail 112 st) = st' := by cases hf; rfl
        have hs4 := hs12 h12
        exact ⟨Co.shut_gd (HGd.out.fail 112).1, x4, hx5, hs4.shut hb⟩
      · rw [if_neg h12] at hf
        cases hp : part (d + 1) (Co.next s.data.toList st) with
        | none => rw [hp] at hf; cases hf
        | some r =>
          obtain ⟨e1, st1⟩ := r
          rw [hp] at hf
          obtain rfl : Co.shut s.data.toList st1 = st' := by cases hf; rfl
          obtain ⟨h1, h2⟩ := (hsn h12).stay (d2 := d) HGd.out.next.1 hp (HK.out h12) (HT.out h12) hb
          exact ⟨Co.shut_gd h1, x4, hx5, h2.shut hb⟩
end
end Go.Proofs.YtddedbpbenkdoaaGreatDoor
