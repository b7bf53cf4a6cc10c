/- The document's parser: a sign: none of these. -/
import Derived.Test.YtddedbpbenkdoaaGreatDoorDcY
namespace Go.Proofs.YtddedbpbenkdoaaGreatDoor
open Go.RowKit

section
variable {w w1 : World} {q d : Nat} {s : ByteArray} {st : Co.St}
set_option maxRecDepth 10000 in
set_option maxHeartbeats 800000 in
/-- The end. -/
theorem dsign_end (hsz : s.size ≤ 80) (hnil : Co.text s.data.toList st = []) (he : st.err = none) (h : DpC w q s st d) (hx : Cel w q ((Dq.good s st d).list s)) :
    Calls Tryz.prog 85 #[.pointer (some ⟨q, 0, none⟩)] w (DEnd q s d (Co.next s.data.toList (Co.fail 111 st)) w) := by
  have hql := h.lt
  have hsl : s.data.toList.length = s.size := by simp
  have hti : st.till ≤ s.size := by rw [← hsl]; exact (h.gd.facts he).2.1
  have HX := Lib.hid (hx.alloc (.cells #[.int .i64 0, .int .i64 0, .int .i64 0, .string ⟨#[]⟩, .string ⟨#[]⟩, .slice none 0 0] 87))
  have HZ : Hid (Cel (w.alloc (.cells #[.int .i64 0, .int .i64 0, .int .i64 0, .string ⟨#[]⟩, .string ⟨#[]⟩, .slice none 0 0] 87)) w.heap.size Ex.zero.list) := Lib.hid (Cel.lit w #[.int .i64 0, .int .i64 0, .int .i64 0, .string ⟨#[]⟩, .string ⟨#[]⟩, .slice none 0 0] 87)
  have FI := Lib.hid (dfine_any HX.out)
  have HG := Lib.hid (grown_alloc w (.cells #[.int .i64 0, .int .i64 0, .int .i64 0, .string ⟨#[]⟩, .string ⟨#[]⟩, .slice none 0 0] 87) (some q))
  obtain ⟨⟨_, k1, _, k3, _, _, _, _⟩, _⟩ := Dq.facts HX.out
  unfold Dq.good at k1 k3
  dsimp only at k1 k3
  obtain ⟨wd, hwd⟩ : ∃ wd : ByteArray, wd = ⟨(Co.text s.data.toList st).toArray⟩ := ⟨_, rfl⟩
  rw [← hwd] at k3
  have hz : wd.size = (Co.text s.data.toList st).length := by rw [hwd]; simp [ByteArray.size]
  have h80 : wd.size ≤ 80 := by
    rw [hz]; unfold Co.text; rw [List.length_take, List.length_drop]; omega
  have hw0 : wd = ⟨#[]⟩ := by rw [hwd, hnil]
  have AMI := Lib.hid (damiss_any HX.out rfl 111 (st.frm : Int) (by decide))
  have HGD := Lib.hid (h.gd.fail 111).1.next.1
  have HEF : Hid (Co.eff (Co.next s.data.toList (Co.fail 111 st)) = some (111, st.frm)) := Co.fail_eff he
  clear h hx he hwd hz h80 hnil
  subst hw0
  go_enter Tryz.func85, Tryz.ntmps85
  go_wp2_with fail
  refine FI.out.mono ?_
  rintro e3 w3 ⟨rfl, rfl⟩
  go_wp2_with (go_at_call 62; refine (AMI.out).mono ?_; rintro e w5 ⟨rfl, h5, hg5⟩; have HZ5 : Hid (Cel w5 w.heap.size Ex.zero.list) := (HZ.out.kept hg5 (by intro e; have := Option.some.inj e; omega)); have HG5 := Lib.hid (grown_trans HG.out hg5); have H5 := Lib.hid h5; clear h5 hg5; obtain ⟨⟨z0, z1, z2, z3, z4, z5⟩, g0, g1, g2, g3, g4, g5⟩ := HZ5.out.six_of)
  have hfin := HZ5.out.six Ex.zero
  have hx6 := H5.out.kept (set6_grown w5 w.heap.size Ex.zero) (by intro e; have := Option.some.inj e; omega)
  have hg3 := grown_past HG5.out (set6_grown w5 w.heap.size Ex.zero) (Nat.le_refl _)
  show bodyPost _ _ _ _ _ (set6 w5 w.heap.size Ex.zero)
  generalize set6 w5 w.heap.size Ex.zero = wf at *
  obtain ⟨⟨k0, k1, k2, k3, k4, k5⟩, _⟩ := hfin.six_of
  exact bodyPost_ret (v := Ex.zero.val) (by simp [results, Tryz.results85, go_sem, k0, k1, k2, k3, k4, k5, Ex.val]) rfl ⟨⟨_, rfl⟩, ⟨HGD.out, _, hx6, .bad _ _ _ _ _ _ (by decide) HEF.out⟩, hg3⟩
set_option maxRecDepth 10000 in
set_option maxHeartbeats 800000 in
/-- A sign below the digits, no quote. -/
theorem dsign_low (hsz : s.size ≤ 80) (hl1 : 1 ≤ (Co.text s.data.toList st).length) (hc : ((Co.text s.data.toList st)[0]!).toNat < 48) (h34 : (Co.text s.data.toList st)[0]! ≠ 34) (hn : ∀ m ∈ ([[45], [40], [116, 114, 117, 101], [102, 97, 108, 115, 101]] : List (List UInt8)), Co.text s.data.toList st ≠ m) (he : st.err = none) (h : DpC w q s st d) (hx : Cel w q ((Dq.good s st d).list s)) :
    Calls Tryz.prog 85 #[.pointer (some ⟨q, 0, none⟩)] w (DEnd q s d (Co.next s.data.toList (Co.fail 111 st)) w) := by
  have hql := h.lt
  have hsl : s.data.toList.length = s.size := by simp
  have hti : st.till ≤ s.size := by rw [← hsl]; exact (h.gd.facts he).2.1
  have HX := Lib.hid (hx.alloc (.cells #[.int .i64 0, .int .i64 0, .int .i64 0, .string ⟨#[]⟩, .string ⟨#[]⟩, .slice none 0 0] 87))
  have HZ : Hid (Cel (w.alloc (.cells #[.int .i64 0, .int .i64 0, .int .i64 0, .string ⟨#[]⟩, .string ⟨#[]⟩, .slice none 0 0] 87)) w.heap.size Ex.zero.list) := Lib.hid (Cel.lit w #[.int .i64 0, .int .i64 0, .int .i64 0, .string ⟨#[]⟩, .string ⟨#[]⟩, .slice none 0 0] 87)
  have FI := Lib.hid (dfine_any HX.out)
  have HG := Lib.hid (grown_alloc w (.cells #[.int .i64 0, .int .i64 0, .int .i64 0, .string ⟨#[]⟩, .string ⟨#[]⟩, .slice none 0 0] 87) (some q))
  obtain ⟨⟨_, k1, _, k3, _, _, _, _⟩, _⟩ := Dq.facts HX.out
  unfold Dq.good at k1 k3
  dsimp only at k1 k3
  obtain ⟨wd, hwd⟩ : ∃ wd : ByteArray, wd = ⟨(Co.text s.data.toList st).toArray⟩ := ⟨_, rfl⟩
  rw [← hwd] at k3
  have hz : wd.size = (Co.text s.data.toList st).length := by rw [hwd]; simp [ByteArray.size]
  have h80 : wd.size ≤ 80 := by
    rw [hz]; unfold Co.text; rw [List.length_take, List.length_drop]; omega
  have hat : ∀ k (hk : k < wd.size), (Co.text s.data.toList st)[k]! = wd[k] := fun k hk => by
    have hlen : k < (Co.text s.data.toList st).length := by omega
    subst hwd
    rw [getElem!_pos (Co.text s.data.toList st) k hlen]
    rfl
  have h0I : (0 : Int) < (wd.size : Int) := by omega
  have h0n : 0 < wd.size := by omega
  have w1 : (wd.toList == [45]) = false := by rw [Co.eq_lit, hwd]; exact decide_eq_false (hn _ (by simp))
  have w2 : (wd.toList == [40]) = false := by rw [Co.eq_lit, hwd]; exact decide_eq_false (hn _ (by simp))
  have w3 : (wd.toList == [116, 114, 117, 101]) = false := by rw [Co.eq_lit, hwd]; exact decide_eq_false (hn _ (by simp))
  have w4 : (wd.toList == [102, 97, 108, 115, 101]) = false := by rw [Co.eq_lit, hwd]; exact decide_eq_false (hn _ (by simp))
  rw [hat 0 h0n] at hc h34
  have g3 : ((wd[0].toNat : Int) == 34) = false := by
    rw [beq_eq_false_iff_ne]
    intro e
    exact h34 (UInt8.toNat_inj.1 (by show wd[0].toNat = 34; omega))
  have g4 : ¬ (48 : Int) ≤ (wd[0].toNat : Int) := by omega
  have g5 : ¬ (97 : Int) ≤ (wd[0].toNat : Int) := by omega
  have AMI := Lib.hid (damiss_any HX.out rfl 111 (st.frm : Int) (by decide))
  have HGD := Lib.hid (h.gd.fail 111).1.next.1
  have HEF : Hid (Co.eff (Co.next s.data.toList (Co.fail 111 st)) = some (111, st.frm)) := Co.fail_eff he
  clear h hx he hwd hz h80 hl1 hat hn hc h34
  go_enter Tryz.func85, Tryz.ntmps85
  go_wp2_with fail
  refine FI.out.mono ?_
  rintro e3 w3 ⟨rfl, rfl⟩
  go_wp2_with (go_at_call 62; refine (AMI.out).mono ?_; rintro e w5 ⟨rfl, h5, hg5⟩; have HZ5 : Hid (Cel w5 w.heap.size Ex.zero.list) := (HZ.out.kept hg5 (by intro e; have := Option.some.inj e; omega)); have HG5 := Lib.hid (grown_trans HG.out hg5); have H5 := Lib.hid h5; clear h5 hg5; obtain ⟨⟨z0, z1, z2, z3, z4, z5⟩, g0, g1, g2, g3, g4, g5⟩ := HZ5.out.six_of)
  have hfin := HZ5.out.six Ex.zero
  have hx6 := H5.out.kept (set6_grown w5 w.heap.size Ex.zero) (by intro e; have := Option.some.inj e; omega)
  have hg3 := grown_past HG5.out (set6_grown w5 w.heap.size Ex.zero) (Nat.le_refl _)
  show bodyPost _ _ _ _ _ (set6 w5 w.heap.size Ex.zero)
  generalize set6 w5 w.heap.size Ex.zero = wf at *
  obtain ⟨⟨k0, k1, k2, k3, k4, k5⟩, _⟩ := hfin.six_of
  exact bodyPost_ret (v := Ex.zero.val) (by simp [results, Tryz.results85, go_sem, k0, k1, k2, k3, k4, k5, Ex.val]) rfl ⟨⟨_, rfl⟩, ⟨HGD.out, _, hx6, .bad _ _ _ _ _ _ (by decide) HEF.out⟩, hg3⟩
set_option maxRecDepth 10000 in
set_option maxHeartbeats 800000 in
/-- A sign between digits and letters. -/
theorem dsign_mid (hsz : s.size ≤ 80) (hl1 : 1 ≤ (Co.text s.data.toList st).length) (hc : 57 < ((Co.text s.data.toList st)[0]!).toNat) (hc2 : ((Co.text s.data.toList st)[0]!).toNat < 97) (hn : ∀ m ∈ ([[45], [40], [116, 114, 117, 101], [102, 97, 108, 115, 101]] : List (List UInt8)), Co.text s.data.toList st ≠ m) (he : st.err = none) (h : DpC w q s st d) (hx : Cel w q ((Dq.good s st d).list s)) :
    Calls Tryz.prog 85 #[.pointer (some ⟨q, 0, none⟩)] w (DEnd q s d (Co.next s.data.toList (Co.fail 111 st)) w) := by
  have hql := h.lt
  have hsl : s.data.toList.length = s.size := by simp
  have hti : st.till ≤ s.size := by rw [← hsl]; exact (h.gd.facts he).2.1
  have HX := Lib.hid (hx.alloc (.cells #[.int .i64 0, .int .i64 0, .int .i64 0, .string ⟨#[]⟩, .string ⟨#[]⟩, .slice none 0 0] 87))
  have HZ : Hid (Cel (w.alloc (.cells #[.int .i64 0, .int .i64 0, .int .i64 0, .string ⟨#[]⟩, .string ⟨#[]⟩, .slice none 0 0] 87)) w.heap.size Ex.zero.list) := Lib.hid (Cel.lit w #[.int .i64 0, .int .i64 0, .int .i64 0, .string ⟨#[]⟩, .string ⟨#[]⟩, .slice none 0 0] 87)
  have FI := Lib.hid (dfine_any HX.out)
  have HG := Lib.hid (grown_alloc w (.cells #[.int .i64 0, .int .i64 0, .int .i64 0, .string ⟨#[]⟩, .string ⟨#[]⟩, .slice none 0 0] 87) (some q))
  obtain ⟨⟨_, k1, _, k3, _, _, _, _⟩, _⟩ := Dq.facts HX.out
  unfold Dq.good at k1 k3
  dsimp only at k1 k3
  obtain ⟨wd, hwd⟩ : ∃ wd : ByteArray, wd = ⟨(Co.text s.data.toList st).toArray⟩ := ⟨_, rfl⟩
  rw [← hwd] at k3
  have hz : wd.size = (Co.text s.data.toList st).length := by rw [hwd]; simp [ByteArray.size]
  have h80 : wd.size ≤ 80 := by
    rw [hz]; unfold Co.text; rw [List.length_take, List.length_drop]; omega
  have hat : ∀ k (hk : k < wd.size), (Co.text s.data.toList st)[k]! = wd[k] := fun k hk => by
    have hlen : k < (Co.text s.data.toList st).length := by omega
    subst hwd
    rw [getElem!_pos (Co.text s.data.toList st) k hlen]
    rfl
  have h0I : (0 : Int) < (wd.size : Int) := by omega
  have h0n : 0 < wd.size := by omega
  have w1 : (wd.toList == [45]) = false := by rw [Co.eq_lit, hwd]; exact decide_eq_false (hn _ (by simp))
  have w2 : (wd.toList == [40]) = false := by rw [Co.eq_lit, hwd]; exact decide_eq_false (hn _ (by simp))
  have w3 : (wd.toList == [116, 114, 117, 101]) = false := by rw [Co.eq_lit, hwd]; exact decide_eq_false (hn _ (by simp))
  have w4 : (wd.toList == [102, 97, 108, 115, 101]) = false := by rw [Co.eq_lit, hwd]; exact decide_eq_false (hn _ (by simp))
  rw [hat 0 h0n] at hc hc2
  have g3 : ((wd[0].toNat : Int) == 34) = false := by rw [beq_eq_false_iff_ne]; omega
  have g4 : (48 : Int) ≤ (wd[0].toNat : Int) := by omega
  have g5 : ¬ (wd[0].toNat : Int) ≤ 57 := by omega
  have g6 : ¬ (97 : Int) ≤ (wd[0].toNat : Int) := by omega
  have AMI := Lib.hid (damiss_any HX.out rfl 111 (st.frm : Int) (by decide))
  have HGD := Lib.hid (h.gd.fail 111).1.next.1
  have HEF : Hid (Co.eff (Co.next s.data.toList (Co.fail 111 st)) = some (111, st.frm)) := Co.fail_eff he
  clear h hx he hwd hz h80 hl1 hat hn hc hc2
  go_enter Tryz.func85, Tryz.ntmps85
  go_wp2_with fail
  refine FI.out.mono ?_
  rintro e3 w3 ⟨rfl, rfl⟩
  go_wp2_with (go_at_call 62; refine (AMI.out).mono ?_; rintro e w5 ⟨rfl, h5, hg5⟩; have HZ5 : Hid (Cel w5 w.heap.size Ex.zero.list) := (HZ.out.kept hg5 (by intro e; have := Option.some.inj e; omega)); have HG5 := Lib.hid (grown_trans HG.out hg5); have H5 := Lib.hid h5; clear h5 hg5; obtain ⟨⟨z0, z1, z2, z3, z4, z5⟩, g0, g1, g2, g3, g4, g5⟩ := HZ5.out.six_of)
  have hfin := HZ5.out.six Ex.zero
  have hx6 := H5.out.kept (set6_grown w5 w.heap.size Ex.zero) (by intro e; have := Option.some.inj e; omega)
  have hg3 := grown_past HG5.out (set6_grown w5 w.heap.size Ex.zero) (Nat.le_refl _)
  show bodyPost _ _ _ _ _ (set6 w5 w.heap.size Ex.zero)
  generalize set6 w5 w.heap.size Ex.zero = wf at *
  obtain ⟨⟨k0, k1, k2, k3, k4, k5⟩, _⟩ := hfin.six_of
  exact bodyPost_ret (v := Ex.zero.val) (by simp [results, Tryz.results85, go_sem, k0, k1, k2, k3, k4, k5, Ex.val]) rfl ⟨⟨_, rfl⟩, ⟨HGD.out, _, hx6, .bad _ _ _ _ _ _ (by decide) HEF.out⟩, hg3⟩
set_option maxRecDepth 10000 in
set_option maxHeartbeats 800000 in
/-- A sign behind the letters. -/
theorem dsign_high (hsz : s.size ≤ 80) (hl1 : 1 ≤ (Co.text s.data.toList st).length) (hc : 122 < ((Co.text s.data.toList st)[0]!).toNat) (hn : ∀ m ∈ ([[45], [40], [116, 114, 117, 101], [102, 97, 108, 115, 101]] : List (List UInt8)), Co.text s.data.toList st ≠ m) (he : st.err = none) (h : DpC w q s st d) (hx : Cel w q ((Dq.good s st d).list s)) :
    Calls Tryz.prog 85 #[.pointer (some ⟨q, 0, none⟩)] w (DEnd q s d (Co.next s.data.toList (Co.fail 111 st)) w) := by
  have hql := h.lt
  have hsl : s.data.toList.length = s.size := by simp
  have hti : st.till ≤ s.size := by rw [← hsl]; exact (h.gd.facts he).2.1
  have HX := Lib.hid (hx.alloc (.cells #[.int .i64 0, .int .i64 0, .int .i64 0, .string ⟨#[]⟩, .string ⟨#[]⟩, .slice none 0 0] 87))
  have HZ : Hid (Cel (w.alloc (.cells #[.int .i64 0, .int .i64 0, .int .i64 0, .string ⟨#[]⟩, .string ⟨#[]⟩, .slice none 0 0] 87)) w.heap.size Ex.zero.list) := Lib.hid (Cel.lit w #[.int .i64 0, .int .i64 0, .int .i64 0, .string ⟨#[]⟩, .string ⟨#[]⟩, .slice none 0 0] 87)
  have FI := Lib.hid (dfine_any HX.out)
  have HG := Lib.hid (grown_alloc w (.cells #[.int .i64 0, .int .i64 0, .int .i64 0, .string ⟨#[]⟩, .string ⟨#[]⟩, .slice none 0 0] 87) (some q))
  obtain ⟨⟨_, k1, _, k3, _, _, _, _⟩, _⟩ := Dq.facts HX.out
  unfold Dq.good at k1 k3
  dsimp only at k1 k3
  obtain ⟨wd, hwd⟩ : ∃ wd : ByteArray, wd = ⟨(Co.text s.data.toList st).toArray⟩ := ⟨_, rfl⟩
  rw [← hwd] at k3
  have hz : wd.size = (Co.text s.data.toList st).length := by rw [hwd]; simp [ByteArray.size]
  have h80 : wd.size ≤ 80 := by
    rw [hz]; unfold Co.text; rw [List.length_take, List.length_drop]; omega
  have hat : ∀ k (hk : k < wd.size), (Co.text s.data.toList st)[k]! = wd[k] := fun k hk => by
    have hlen : k < (Co.text s.data.toList st).length := by omega
    subst hwd
    rw [getElem!_pos (Co.text s.data.toList st) k hlen]
    rfl
  have h0I : (0 : Int) < (wd.size : Int) := by omega
  have h0n : 0 < wd.size := by omega
  have w1 : (wd.toList == [45]) = false := by rw [Co.eq_lit, hwd]; exact decide_eq_false (hn _ (by simp))
  have w2 : (wd.toList == [40]) = false := by rw [Co.eq_lit, hwd]; exact decide_eq_false (hn _ (by simp))
  have w3 : (wd.toList == [116, 114, 117, 101]) = false := by rw [Co.eq_lit, hwd]; exact decide_eq_false (hn _ (by simp))
  have w4 : (wd.toList == [102, 97, 108, 115, 101]) = false := by rw [Co.eq_lit, hwd]; exact decide_eq_false (hn _ (by simp))
  rw [hat 0 h0n] at hc
  have g3 : ((wd[0].toNat : Int) == 34) = false := by rw [beq_eq_false_iff_ne]; omega
  have g4 : (48 : Int) ≤ (wd[0].toNat : Int) := by omega
  have g5 : ¬ (wd[0].toNat : Int) ≤ 57 := by omega
  have g6 : (97 : Int) ≤ (wd[0].toNat : Int) := by omega
  have g7 : ¬ (wd[0].toNat : Int) ≤ 122 := by omega
  have AMI := Lib.hid (damiss_any HX.out rfl 111 (st.frm : Int) (by decide))
  have HGD := Lib.hid (h.gd.fail 111).1.next.1
  have HEF : Hid (Co.eff (Co.next s.data.toList (Co.fail 111 st)) = some (111, st.frm)) := Co.fail_eff he
  clear h hx he hwd hz h80 hl1 hat hn hc
  go_enter Tryz.func85, Tryz.ntmps85
  go_wp2_with fail
  refine FI.out.mono ?_
  rintro e3 w3 ⟨rfl, rfl⟩
  go_wp2_with (go_at_call 62; refine (AMI.out).mono ?_; rintro e w5 ⟨rfl, h5, hg5⟩; have HZ5 : Hid (Cel w5 w.heap.size Ex.zero.list) := (HZ.out.kept hg5 (by intro e; have := Option.some.inj e; omega)); have HG5 := Lib.hid (grown_trans HG.out hg5); have H5 := Lib.hid h5; clear h5 hg5; obtain ⟨⟨z0, z1, z2, z3, z4, z5⟩, g0, g1, g2, g3, g4, g5⟩ := HZ5.out.six_of)
  have hfin := HZ5.out.six Ex.zero
  have hx6 := H5.out.kept (set6_grown w5 w.heap.size Ex.zero) (by intro e; have := Option.some.inj e; omega)
  have hg3 := grown_past HG5.out (set6_grown w5 w.heap.size Ex.zero) (Nat.le_refl _)
  show bodyPost _ _ _ _ _ (set6 w5 w.heap.size Ex.zero)
  generalize set6 w5 w.heap.size Ex.zero = wf at *
  obtain ⟨⟨k0, k1, k2, k3, k4, k5⟩, _⟩ := hfin.six_of
  exact bodyPost_ret (v := Ex.zero.val) (by simp [results, Tryz.results85, go_sem, k0, k1, k2, k3, k4, k5, Ex.val]) rfl ⟨⟨_, rfl⟩, ⟨HGD.out, _, hx6, .bad _ _ _ _ _ _ (by decide) HEF.out⟩, hg3⟩
set_option maxRecDepth 10000 in
set_option maxHeartbeats 800000 in
/-- A name that is too long. -/
theorem dsign_longname (hsz : s.size ≤ 80) (hc : 97 ≤ ((Co.text s.data.toList st)[0]!).toNat) (hc2 : ((Co.text s.data.toList st)[0]!).toNat ≤ 122) (hlong : 24 < (Co.text s.data.toList st).length) (hn : ∀ m ∈ ([[45], [40], [116, 114, 117, 101], [102, 97, 108, 115, 101]] : List (List UInt8)), Co.text s.data.toList st ≠ m) (he : st.err = none) (h : DpC w q s st d) (hx : Cel w q ((Dq.good s st d).list s)) :
    Calls Tryz.prog 85 #[.pointer (some ⟨q, 0, none⟩)] w (DEnd q s d (Co.next s.data.toList (Co.fail 111 st)) w) := by
  have hql := h.lt
  have hsl : s.data.toList.length = s.size := by simp
  have hti : st.till ≤ s.size := by rw [← hsl]; exact (h.gd.facts he).2.1
  have HX := Lib.hid (hx.alloc (.cells #[.int .i64 0, .int .i64 0, .int .i64 0, .string ⟨#[]⟩, .string ⟨#[]⟩, .slice none 0 0] 87))
  have HZ : Hid (Cel (w.alloc (.cells #[.int .i64 0, .int .i64 0, .int .i64 0, .string ⟨#[]⟩, .string ⟨#[]⟩, .slice none 0 0] 87)) w.heap.size Ex.zero.list) := Lib.hid (Cel.lit w #[.int .i64 0, .int .i64 0, .int .i64 0, .string ⟨#[]⟩, .string ⟨#[]⟩, .slice none 0 0] 87)
  have FI := Lib.hid (dfine_any HX.out)
  have HG := Lib.hid (grown_alloc w (.cells #[.int .i64 0, .int .i64 0, .int .i64 0, .string ⟨#[]⟩, .string ⟨#[]⟩, .slice none 0 0] 87) (some q))
  obtain ⟨⟨_, k1, _, k3, _, _, _, _⟩, _⟩ := Dq.facts HX.out
  unfold Dq.good at k1 k3
  dsimp only at k1 k3
  obtain ⟨wd, hwd⟩ : ∃ wd : ByteArray, wd = ⟨(Co.text s.data.toList st).toArray⟩ := ⟨_, rfl⟩
  rw [← hwd] at k3
  have hz : wd.size = (Co.text s.data.toList st).length := by rw [hwd]; simp [ByteArray.size]
  have h80 : wd.size ≤ 80 := by
    rw [hz]; unfold Co.text; rw [List.length_take, List.length_drop]; omega
  have hat : ∀ k (hk : k < wd.size), (Co.text s.data.toList st)[k]! = wd[k] := fun k hk => by
    have hlen : k < (Co.text s.data.toList st).length := by omega
    subst hwd
    rw [getElem!_pos (Co.text s.data.toList st) k hlen]
    rfl
  have h0I : (0 : Int) < (wd.size : Int) := by omega
  have h0n : 0 < wd.size := by omega
  have w1 : (wd.toList == [45]) = false := by rw [Co.eq_lit, hwd]; exact decide_eq_false (hn _ (by simp))
  have w2 : (wd.toList == [40]) = false := by rw [Co.eq_lit, hwd]; exact decide_eq_false (hn _ (by simp))
  have w3 : (wd.toList == [116, 114, 117, 101]) = false := by rw [Co.eq_lit, hwd]; exact decide_eq_false (hn _ (by simp))
  have w4 : (wd.toList == [102, 97, 108, 115, 101]) = false := by rw [Co.eq_lit, hwd]; exact decide_eq_false (hn _ (by simp))
  rw [hat 0 h0n] at hc hc2
  have g3 : ((wd[0].toNat : Int) == 34) = false := by rw [beq_eq_false_iff_ne]; omega
  have g4 : (48 : Int) ≤ (wd[0].toNat : Int) := by omega
  have g5 : ¬ (wd[0].toNat : Int) ≤ 57 := by omega
  have g6 : (97 : Int) ≤ (wd[0].toNat : Int) := by omega
  have g7 : (wd[0].toNat : Int) ≤ 122 := by omega
  have g8 : ¬ (wd.size : Int) ≤ 24 := by omega
  have AMI := Lib.hid (damiss_any HX.out rfl 111 (st.frm : Int) (by decide))
  have HGD := Lib.hid (h.gd.fail 111).1.next.1
  have HEF : Hid (Co.eff (Co.next s.data.toList (Co.fail 111 st)) = some (111, st.frm)) := Co.fail_eff he
  clear h hx he hwd hz h80 hat hn hc hc2 hlong
  go_enter Tryz.func85, Tryz.ntmps85
  go_wp2_with fail
  refine FI.out.mono ?_
  rintro e3 w3 ⟨rfl, rfl⟩
  go_wp2_with (go_at_call 62; refine (AMI.out).mono ?_; rintro e w5 ⟨rfl, h5, hg5⟩; have HZ5 : Hid (Cel w5 w.heap.size Ex.zero.list) := (HZ.out.kept hg5 (by intro e; have := Option.some.inj e; omega)); have HG5 := Lib.hid (grown_trans HG.out hg5); have H5 := Lib.hid h5; clear h5 hg5; obtain ⟨⟨z0, z1, z2, z3, z4, z5⟩, g0, g1, g2, g3, g4, g5⟩ := HZ5.out.six_of)
  have hfin := HZ5.out.six Ex.zero
  have hx6 := H5.out.kept (set6_grown w5 w.heap.size Ex.zero) (by intro e; have := Option.some.inj e; omega)
  have hg3 := grown_past HG5.out (set6_grown w5 w.heap.size Ex.zero) (Nat.le_refl _)
  show bodyPost _ _ _ _ _ (set6 w5 w.heap.size Ex.zero)
  generalize set6 w5 w.heap.size Ex.zero = wf at *
  obtain ⟨⟨k0, k1, k2, k3, k4, k5⟩, _⟩ := hfin.six_of
  exact bodyPost_ret (v := Ex.zero.val) (by simp [results, Tryz.results85, go_sem, k0, k1, k2, k3, k4, k5, Ex.val]) rfl ⟨⟨_, rfl⟩, ⟨HGD.out, _, hx6, .bad _ _ _ _ _ _ (by decide) HEF.out⟩, hg3⟩
set_option maxRecDepth 10000 in
set_option maxHeartbeats 800000 in
/-- or. -/
theorem dsign_or (hsz : s.size ≤ 80) (hm : Co.text s.data.toList st = [111, 114]) (he : st.err = none) (h : DpC w q s st d) (hx : Cel w q ((Dq.good s st d).list s)) :
    Calls Tryz.prog 85 #[.pointer (some ⟨q, 0, none⟩)] w (DEnd q s d (Co.next s.data.toList (Co.fail 111 st)) w) := by
  have hql := h.lt
  have hsl : s.data.toList.length = s.size := by simp
  have hti : st.till ≤ s.size := by rw [← hsl]; exact (h.gd.facts he).2.1
  have HX := Lib.hid (hx.alloc (.cells #[.int .i64 0, .int .i64 0, .int .i64 0, .string ⟨#[]⟩, .string ⟨#[]⟩, .slice none 0 0] 87))
  have HZ : Hid (Cel (w.alloc (.cells #[.int .i64 0, .int .i64 0, .int .i64 0, .string ⟨#[]⟩, .string ⟨#[]⟩, .slice none 0 0] 87)) w.heap.size Ex.zero.list) := Lib.hid (Cel.lit w #[.int .i64 0, .int .i64 0, .int .i64 0, .string ⟨#[]⟩, .string ⟨#[]⟩, .slice none 0 0] 87)
  have FI := Lib.hid (dfine_any HX.out)
  have HG := Lib.hid (grown_alloc w (.cells #[.int .i64 0, .int .i64 0, .int .i64 0, .string ⟨#[]⟩, .string ⟨#[]⟩, .slice none 0 0] 87) (some q))
  obtain ⟨⟨_, k1, _, k3, _, _, _, _⟩, _⟩ := Dq.facts HX.out
  unfold Dq.good at k1 k3
  dsimp only at k1 k3
  obtain ⟨wd, hwd⟩ : ∃ wd : ByteArray, wd = ⟨(Co.text s.data.toList st).toArray⟩ := ⟨_, rfl⟩
  rw [← hwd] at k3
  have hz : wd.size = (Co.text s.data.toList st).length := by rw [hwd]; simp [ByteArray.size]
  have h80 : wd.size ≤ 80 := by
    rw [hz]; unfold Co.text; rw [List.length_take, List.length_drop]; omega
  have hw0 : wd = ⟨#[111, 114]⟩ := by rw [hwd, hm]
  have AMI := Lib.hid (damiss_any HX.out rfl 111 (st.frm : Int) (by decide))
  have HGD := Lib.hid (h.gd.fail 111).1.next.1
  have HEF : Hid (Co.eff (Co.next s.data.toList (Co.fail 111 st)) = some (111, st.frm)) := Co.fail_eff he
  clear h hx he hwd hz h80 hm
  subst hw0
  go_enter Tryz.func85, Tryz.ntmps85
  go_wp2_with fail
  refine FI.out.mono ?_
  rintro e3 w3 ⟨rfl, rfl⟩
  go_wp2_with (go_at_call 62; refine (AMI.out).mono ?_; rintro e w5 ⟨rfl, h5, hg5⟩; have HZ5 : Hid (Cel w5 w.heap.size Ex.zero.list) := (HZ.out.kept hg5 (by intro e; have := Option.some.inj e; omega)); have HG5 := Lib.hid (grown_trans HG.out hg5); have H5 := Lib.hid h5; clear h5 hg5; obtain ⟨⟨z0, z1, z2, z3, z4, z5⟩, g0, g1, g2, g3, g4, g5⟩ := HZ5.out.six_of)
  have hfin := HZ5.out.six Ex.zero
  have hx6 := H5.out.kept (set6_grown w5 w.heap.size Ex.zero) (by intro e; have := Option.some.inj e; omega)
  have hg3 := grown_past HG5.out (set6_grown w5 w.heap.size Ex.zero) (Nat.le_refl _)
  show bodyPost _ _ _ _ _ (set6 w5 w.heap.size Ex.zero)
  generalize set6 w5 w.heap.size Ex.zero = wf at *
  obtain ⟨⟨k0, k1, k2, k3, k4, k5⟩, _⟩ := hfin.six_of
  exact bodyPost_ret (v := Ex.zero.val) (by simp [results, Tryz.results85, go_sem, k0, k1, k2, k3, k4, k5, Ex.val]) rfl ⟨⟨_, rfl⟩, ⟨HGD.out, _, hx6, .bad _ _ _ _ _ _ (by decide) HEF.out⟩, hg3⟩
set_option maxRecDepth 10000 in
set_option maxHeartbeats 800000 in
/-- and. -/
theorem dsign_and (hsz : s.size ≤ 80) (hm : Co.text s.data.toList st = [97, 110, 100]) (he : st.err = none) (h : DpC w q s st d) (hx : Cel w q ((Dq.good s st d).list s)) :
    Calls Tryz.prog 85 #[.pointer (some ⟨q, 0, none⟩)] w (DEnd q s d (Co.next s.data.toList (Co.fail 111 st)) w) := by
  have hql := h.lt
  have hsl : s.data.toList.length = s.size := by simp
  have hti : st.till ≤ s.size := by rw [← hsl]; exact (h.gd.facts he).2.1
  have HX := Lib.hid (hx.alloc (.cells #[.int .i64 0, .int .i64 0, .int .i64 0, .string ⟨#[]⟩, .string ⟨#[]⟩, .slice none 0 0] 87))
  have HZ : Hid (Cel (w.alloc (.cells #[.int .i64 0, .int .i64 0, .int .i64 0, .string ⟨#[]⟩, .string ⟨#[]⟩, .slice none 0 0] 87)) w.heap.size Ex.zero.list) := Lib.hid (Cel.lit w #[.int .i64 0, .int .i64 0, .int .i64 0, .string ⟨#[]⟩, .string ⟨#[]⟩, .slice none 0 0] 87)
  have FI := Lib.hid (dfine_any HX.out)
  have HG := Lib.hid (grown_alloc w (.cells #[.int .i64 0, .int .i64 0, .int .i64 0, .string ⟨#[]⟩, .string ⟨#[]⟩, .slice none 0 0] 87) (some q))
  obtain ⟨⟨_, k1, _, k3, _, _, _, _⟩, _⟩ := Dq.facts HX.out
  unfold Dq.good at k1 k3
  dsimp only at k1 k3
  obtain ⟨wd, hwd⟩ : ∃ wd : ByteArray, wd = ⟨(Co.text s.data.toList st).toArray⟩ := ⟨_, rfl⟩
  rw [← hwd] at k3
  have hz : wd.size = (Co.text s.data.toList st).length := by rw [hwd]; simp [ByteArray.size]
  have h80 : wd.size ≤ 80 := by
    rw [hz]; unfold Co.text; rw [List.length_take, List.length_drop]; omega
  have hw0 : wd = ⟨#[97, 110, 100]⟩ := by rw [hwd, hm]
  have AMI := Lib.hid (damiss_any HX.out rfl 111 (st.frm : Int) (by decide))
  have HGD := Lib.hid (h.gd.fail 111).1.next.1
  have HEF : Hid (Co.eff (Co.next s.data.toList (Co.fail 111 st)) = some (111, st.frm)) := Co.fail_eff he
  clear h hx he hwd hz h80 hm
  subst hw0
  go_enter Tryz.func85, Tryz.ntmps85
  go_wp2_with fail
  refine FI.out.mono ?_
  rintro e3 w3 ⟨rfl, rfl⟩
  go_wp2_with (go_at_call 62; refine (AMI.out).mono ?_; rintro e w5 ⟨rfl, h5, hg5⟩; have HZ5 : Hid (Cel w5 w.heap.size Ex.zero.list) := (HZ.out.kept hg5 (by intro e; have := Option.some.inj e; omega)); have HG5 := Lib.hid (grown_trans HG.out hg5); have H5 := Lib.hid h5; clear h5 hg5; obtain ⟨⟨z0, z1, z2, z3, z4, z5⟩, g0, g1, g2, g3, g4, g5⟩ := HZ5.out.six_of)
  have hfin := HZ5.out.six Ex.zero
  have hx6 := H5.out.kept (set6_grown w5 w.heap.size Ex.zero) (by intro e; have := Option.some.inj e; omega)
  have hg3 := grown_past HG5.out (set6_grown w5 w.heap.size Ex.zero) (Nat.le_refl _)
  show bodyPost _ _ _ _ _ (set6 w5 w.heap.size Ex.zero)
  generalize set6 w5 w.heap.size Ex.zero = wf at *
  obtain ⟨⟨k0, k1, k2, k3, k4, k5⟩, _⟩ := hfin.six_of
  exact bodyPost_ret (v := Ex.zero.val) (by simp [results, Tryz.results85, go_sem, k0, k1, k2, k3, k4, k5, Ex.val]) rfl ⟨⟨_, rfl⟩, ⟨HGD.out, _, hx6, .bad _ _ _ _ _ _ (by decide) HEF.out⟩, hg3⟩
set_option maxRecDepth 10000 in
set_option maxHeartbeats 800000 in
/-- not. -/
theorem dsign_not (hsz : s.size ≤ 80) (hm : Co.text s.data.toList st = [110, 111, 116]) (he : st.err = none) (h : DpC w q s st d) (hx : Cel w q ((Dq.good s st d).list s)) :
    Calls Tryz.prog 85 #[.pointer (some ⟨q, 0, none⟩)] w (DEnd q s d (Co.next s.data.toList (Co.fail 111 st)) w) := by
  have hql := h.lt
  have hsl : s.data.toList.length = s.size := by simp
  have hti : st.till ≤ s.size := by rw [← hsl]; exact (h.gd.facts he).2.1
  have HX := Lib.hid (hx.alloc (.cells #[.int .i64 0, .int .i64 0, .int .i64 0, .string ⟨#[]⟩, .string ⟨#[]⟩, .slice none 0 0] 87))
  have HZ : Hid (Cel (w.alloc (.cells #[.int .i64 0, .int .i64 0, .int .i64 0, .string ⟨#[]⟩, .string ⟨#[]⟩, .slice none 0 0] 87)) w.heap.size Ex.zero.list) := Lib.hid (Cel.lit w #[.int .i64 0, .int .i64 0, .int .i64 0, .string ⟨#[]⟩, .string ⟨#[]⟩, .slice none 0 0] 87)
  have FI := Lib.hid (dfine_any HX.out)
  have HG := Lib.hid (grown_alloc w (.cells #[.int .i64 0, .int .i64 0, .int .i64 0, .string ⟨#[]⟩, .string ⟨#[]⟩, .slice none 0 0] 87) (some q))
  obtain ⟨⟨_, k1, _, k3, _, _, _, _⟩, _⟩ := Dq.facts HX.out
  unfold Dq.good at k1 k3
  dsimp only at k1 k3
  obtain ⟨wd, hwd⟩ : ∃ wd : ByteArray, wd = ⟨(Co.text s.data.toList st).toArray⟩ := ⟨_, rfl⟩
  rw [← hwd] at k3
  have hz : wd.size = (Co.text s.data.toList st).length := by rw [hwd]; simp [ByteArray.size]
  have h80 : wd.size ≤ 80 := by
    rw [hz]; unfold Co.text; rw [List.length_take, List.length_drop]; omega
  have hw0 : wd = ⟨#[110, 111, 116]⟩ := by rw [hwd, hm]
  have AMI := Lib.hid (damiss_any HX.out rfl 111 (st.frm : Int) (by decide))
  have HGD := Lib.hid (h.gd.fail 111).1.next.1
  have HEF : Hid (Co.eff (Co.next s.data.toList (Co.fail 111 st)) = some (111, st.frm)) := Co.fail_eff he
  clear h hx he hwd hz h80 hm
  subst hw0
  go_enter Tryz.func85, Tryz.ntmps85
  go_wp2_with fail
  refine FI.out.mono ?_
  rintro e3 w3 ⟨rfl, rfl⟩
  go_wp2_with (go_at_call 62; refine (AMI.out).mono ?_; rintro e w5 ⟨rfl, h5, hg5⟩; have HZ5 : Hid (Cel w5 w.heap.size Ex.zero.list) := (HZ.out.kept hg5 (by intro e; have := Option.some.inj e; omega)); have HG5 := Lib.hid (grown_trans HG.out hg5); have H5 := Lib.hid h5; clear h5 hg5; obtain ⟨⟨z0, z1, z2, z3, z4, z5⟩, g0, g1, g2, g3, g4, g5⟩ := HZ5.out.six_of)
  have hfin := HZ5.out.six Ex.zero
  have hx6 := H5.out.kept (set6_grown w5 w.heap.size Ex.zero) (by intro e; have := Option.some.inj e; omega)
  have hg3 := grown_past HG5.out (set6_grown w5 w.heap.size Ex.zero) (Nat.le_refl _)
  show bodyPost _ _ _ _ _ (set6 w5 w.heap.size Ex.zero)
  generalize set6 w5 w.heap.size Ex.zero = wf at *
  obtain ⟨⟨k0, k1, k2, k3, k4, k5⟩, _⟩ := hfin.six_of
  exact bodyPost_ret (v := Ex.zero.val) (by simp [results, Tryz.results85, go_sem, k0, k1, k2, k3, k4, k5, Ex.val]) rfl ⟨⟨_, rfl⟩, ⟨HGD.out, _, hx6, .bad _ _ _ _ _ _ (by decide) HEF.out⟩, hg3⟩
end
end Go.Proofs.YtddedbpbenkdoaaGreatDoor
