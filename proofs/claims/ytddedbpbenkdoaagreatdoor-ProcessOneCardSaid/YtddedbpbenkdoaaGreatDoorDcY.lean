/- The document's parser: a sign: a number. -/
import Derived.Test.YtddedbpbenkdoaaGreatDoorDqY
namespace Go.Proofs.YtddedbpbenkdoaaGreatDoor
open Go.RowKit

theorem Co.fail_eff {l : List UInt8} {st : Co.St} (he : st.err = none) : Co.eff (Co.next l (Co.fail 111 st)) = some (111, st.frm) := by
  have hf1 : Co.fail 111 st = ⟨0, st.frm, st.till, some (111, st.frm)⟩ := by unfold Co.fail; rw [he]; rfl
  rw [hf1, Co.nextD_err rfl]
  rfl
section
variable {w w1 : World} {q d : Nat} {s : ByteArray} {st : Co.St}
set_option maxRecDepth 10000 in
set_option maxHeartbeats 1600000 in
/-- A number of nine digits at most. -/
theorem dsign_num (hsz : s.size ≤ 80) (hl1 : 1 ≤ (Co.text s.data.toList st).length) (hl2 : (Co.text s.data.toList st).length ≤ 9) (hd : ∀ k, k < (Co.text s.data.toList st).length → 48 ≤ ((Co.text s.data.toList st)[k]!).toNat ∧ ((Co.text s.data.toList st)[k]!).toNat ≤ 57) (he : st.err = none) (h : DpC w q s st d) (hx : Cel w q ((Dq.good s st d).list s)) :
    Calls Tryz.prog 85 #[.pointer (some ⟨q, 0, none⟩)] w (DEnd q s d (Co.next s.data.toList st) w) := by
  have hql := h.lt
  have hsl : s.data.toList.length = s.size := by simp
  have hti : st.till ≤ s.size := by rw [← hsl]; exact (h.gd.facts he).2.1
  have HX := Lib.hid (hx.alloc (.cells #[.int .i64 0, .int .i64 0, .int .i64 0, .string ⟨#[]⟩, .string ⟨#[]⟩, .slice none 0 0] 87))
  have HZ : Hid (Cel (w.alloc (.cells #[.int .i64 0, .int .i64 0, .int .i64 0, .string ⟨#[]⟩, .string ⟨#[]⟩, .slice none 0 0] 87)) w.heap.size Ex.zero.list) := Lib.hid (Cel.lit w #[.int .i64 0, .int .i64 0, .int .i64 0, .string ⟨#[]⟩, .string ⟨#[]⟩, .slice none 0 0] 87)
  have FI := Lib.hid (dfine_any HX.out)
  have HG := Lib.hid (grown_alloc w (.cells #[.int .i64 0, .int .i64 0, .int .i64 0, .string ⟨#[]⟩, .string ⟨#[]⟩, .slice none 0 0] 87) (some q))
  obtain ⟨⟨_, k1, _, k3, _, _, _, _⟩, _⟩ := Dq.facts HX.out
  unfold Dq.good at k1 k3
  dsimp only at k1 k3
  obtain ⟨wd, hwd⟩ : ∃ wd : ByteArray, wd = ⟨(Co.text s.data.toList st).toArray⟩ := ⟨_, rfl⟩
  rw [← hwd] at k3
  have hz : wd.size = (Co.text s.data.toList st).length := by rw [hwd]; simp [ByteArray.size]
  have h80 : wd.size ≤ 80 := by
    rw [hz]; unfold Co.text; rw [List.length_take, List.length_drop]; omega
  have hat : ∀ k (hk : k < wd.size), (Co.text s.data.toList st)[k]! = wd[k] := fun k hk => by
    have hlen : k < (Co.text s.data.toList st).length := by omega
    subst hwd
    rw [getElem!_pos (Co.text s.data.toList st) k hlen]
    rfl
  have nt : ∀ m : List UInt8, ((m[0]!).toNat < 48 ∨ 57 < (m[0]!).toNat) → Co.text s.data.toList st ≠ m := fun m hm e => by have := hd 0 (by omega); rw [e] at this; omega
  have w1 : (wd.toList == [45]) = false := by rw [Co.eq_lit, hwd]; exact decide_eq_false (nt _ (by decide))
  have w2 : (wd.toList == [40]) = false := by rw [Co.eq_lit, hwd]; exact decide_eq_false (nt _ (by decide))
  have w3 : (wd.toList == [116, 114, 117, 101]) = false := by rw [Co.eq_lit, hwd]; exact decide_eq_false (nt _ (by decide))
  have w4 : (wd.toList == [102, 97, 108, 115, 101]) = false := by rw [Co.eq_lit, hwd]; exact decide_eq_false (nt _ (by decide))
  have HD : Hid (∀ k (hk : k < wd.size), 48 ≤ (wd[k].toNat : Int) ∧ (wd[k].toNat : Int) ≤ 57) := fun k hk => by
    have := hd k (by omega)
    rw [hat k hk] at this
    omega
  have h0I : (0 : Int) < (wd.size : Int) := by omega
  have h0n : 0 < wd.size := by omega
  obtain ⟨d0, d1⟩ := HD.out 0 h0n
  have g3 : ((wd[0].toNat : Int) == 34) = false := by rw [beq_eq_false_iff_ne]; omega
  have h9 : wd.size ≤ 9 := by omega
  have NX := Lib.hid (dnext_any HX.out he hti hsz)
  have GN := Lib.hid h.gd.next.1
  clear h hx he hat hwd hl1 hl2 hd hz nt h80
  go_enter Tryz.func85, Tryz.ntmps85
  go_wp2_with fail
  refine FI.out.mono ?_
  rintro e3 w3 ⟨rfl, rfl⟩
  go_wp2_with fail
  go_loop [7, 8] (fun n i => ∃ (j : Nat) (v : Int), j ≤ wd.size ∧ i = .int .i64 j ∧ n = .int .i64 v) (fun _ i => wd.size - (intOf i).toNat)
  case atStart => exact ⟨0, 0, Nat.zero_le _, rfl, rfl⟩
  case round =>
    obtain ⟨j, v, hj, rfl, rfl⟩ := hrel
    by_cases hlt : j < wd.size
    · obtain ⟨a0, a1⟩ := HD.out j hlt
      have h8 : (j : Int) ≤ 8 := by omega
      have hjn : 0 ≤ (j : Int) := by omega
      have n1 : ¬ (wd[j].toNat : Int) < 48 := by omega
      have n2 : ¬ (57 : Int) < (wd[j].toNat : Int) := by omega
      have n3 : ¬ (8 : Int) < (j : Int) := by omega
      clear d0 d1 g3
      go_wp2_with fail
      go_round
      case measure => simp [intOf]; omega
      case rel => exact ⟨j + 1, _, by omega, by go_num, rfl⟩
    · obtain rfl : j = wd.size := by omega
      clear d0 d1 g3
      go_wp2_with fail
      refine NX.out.mono ?_
      rintro e9 w9 ⟨rfl, ⟨x9, hx9, hs9⟩, hg9⟩
      have HZ9 : Hid (Cel w9 w.heap.size Ex.zero.list) := HZ.out.kept hg9 (by intro e; have := Option.some.inj e; omega)
      have HG9 := Lib.hid (grown_trans HG.out hg9)
      have HD9 : Hid (DpC w9 q s (Co.next s.data.toList st) d) := ⟨GN.out, x9, hx9, hs9⟩
      clear hx9 hs9 hg9
      obtain ⟨⟨z0, z1, z2, z3, z4, z5⟩, f0, f1, f2, f3, f4, f5⟩ := HZ9.out.six_of
      go_wp2
      obtain ⟨y, hy⟩ : ∃ y : Ex, y = ⟨1, 1, v, ⟨#[]⟩, ⟨#[]⟩, none, 0, 0⟩ := ⟨_, rfl⟩
      have hfin := HZ9.out.six y
      have h3 := HD9.out.other (set6_grown w9 w.heap.size y) (by intro e; have := Option.some.inj e; omega)
      have hg3 := grown_past HG9.out (set6_grown w9 w.heap.size y) (Nat.le_refl _)
      show bodyPost _ _ _ _ _ (set6 w9 w.heap.size ⟨1, 1, v, ⟨#[]⟩, ⟨#[]⟩, none, 0, 0⟩)
      rw [← hy]
      generalize set6 w9 w.heap.size y = wf at *
      obtain ⟨⟨k0, k1, k2, k3, k4, k5⟩, _⟩ := hfin.six_of
      exact bodyPost_ret (v := y.val) (by simp [results, Tryz.results85, go_sem, k0, k1, k2, k3, k4, k5, Ex.val]) rfl ⟨⟨y, rfl⟩, h3, hg3⟩
set_option maxRecDepth 10000 in
set_option maxHeartbeats 1600000 in
/-- A number with a sign that is no digit, or with a tenth one. -/
theorem dsign_numbad (hsz : s.size ≤ 80) (b : Nat) (hb1 : 1 ≤ b) (hb : b < (Co.text s.data.toList st).length) (hb9 : b ≤ 9) (hd : ∀ k, k < b → 48 ≤ ((Co.text s.data.toList st)[k]!).toNat ∧ ((Co.text s.data.toList st)[k]!).toNat ≤ 57)
    (hbd : ((Co.text s.data.toList st)[b]!).toNat < 48 ∨ 57 < ((Co.text s.data.toList st)[b]!).toNat ∨ b = 9) (he : st.err = none) (h : DpC w q s st d) (hx : Cel w q ((Dq.good s st d).list s)) :
    Calls Tryz.prog 85 #[.pointer (some ⟨q, 0, none⟩)] w (DEnd q s d (Co.next s.data.toList (Co.fail 111 st)) w) := by
  have hql := h.lt
  have hsl : s.data.toList.length = s.size := by simp
  have hti : st.till ≤ s.size := by rw [← hsl]; exact (h.gd.facts he).2.1
  have HX := Lib.hid (hx.alloc (.cells #[.int .i64 0, .int .i64 0, .int .i64 0, .string ⟨#[]⟩, .string ⟨#[]⟩, .slice none 0 0] 87))
  have HZ : Hid (Cel (w.alloc (.cells #[.int .i64 0, .int .i64 0, .int .i64 0, .string ⟨#[]⟩, .string ⟨#[]⟩, .slice none 0 0] 87)) w.heap.size Ex.zero.list) := Lib.hid (Cel.lit w #[.int .i64 0, .int .i64 0, .int .i64 0, .string ⟨#[]⟩, .string ⟨#[]⟩, .slice none 0 0] 87)
  have FI := Lib.hid (dfine_any HX.out)
  have HG := Lib.hid (grown_alloc w (.cells #[.int .i64 0, .int .i64 0, .int .i64 0, .string ⟨#[]⟩, .string ⟨#[]⟩, .slice none 0 0] 87) (some q))
  obtain ⟨⟨_, k1, _, k3, _, _, _, _⟩, _⟩ := Dq.facts HX.out
  unfold Dq.good at k1 k3
  dsimp only at k1 k3
  obtain ⟨wd, hwd⟩ : ∃ wd : ByteArray, wd = ⟨(Co.text s.data.toList st).toArray⟩ := ⟨_, rfl⟩
  rw [← hwd] at k3
  have hz : wd.size = (Co.text s.data.toList st).length := by rw [hwd]; simp [ByteArray.size]
  have h80 : wd.size ≤ 80 := by
    rw [hz]; unfold Co.text; rw [List.length_take, List.length_drop]; omega
  have hat : ∀ k (hk : k < wd.size), (Co.text s.data.toList st)[k]! = wd[k] := fun k hk => by
    have hlen : k < (Co.text s.data.toList st).length := by omega
    subst hwd
    rw [getElem!_pos (Co.text s.data.toList st) k hlen]
    rfl
  have nt : ∀ m : List UInt8, ((m[0]!).toNat < 48 ∨ 57 < (m[0]!).toNat) → Co.text s.data.toList st ≠ m := fun m hm e => by have := hd 0 (by omega); rw [e] at this; omega
  have w1 : (wd.toList == [45]) = false := by rw [Co.eq_lit, hwd]; exact decide_eq_false (nt _ (by decide))
  have w2 : (wd.toList == [40]) = false := by rw [Co.eq_lit, hwd]; exact decide_eq_false (nt _ (by decide))
  have w3 : (wd.toList == [116, 114, 117, 101]) = false := by rw [Co.eq_lit, hwd]; exact decide_eq_false (nt _ (by decide))
  have w4 : (wd.toList == [102, 97, 108, 115, 101]) = false := by rw [Co.eq_lit, hwd]; exact decide_eq_false (nt _ (by decide))
  have HD : Hid (∀ k, k < b → ∀ hk : k < wd.size, 48 ≤ (wd[k].toNat : Int) ∧ (wd[k].toNat : Int) ≤ 57) := fun k hkb hk => by
    have := hd k hkb
    rw [hat k hk] at this
    omega
  have h0I : (0 : Int) < (wd.size : Int) := by omega
  have h0n : 0 < wd.size := by omega
  have hbz : b < wd.size := by omega
  obtain ⟨d0, d1⟩ := HD.out 0 hb1 h0n
  have g3 : ((wd[0].toNat : Int) == 34) = false := by rw [beq_eq_false_iff_ne]; omega
  rw [hat b hbz] at hbd
  have AMI := Lib.hid (damiss_any HX.out rfl 111 (st.frm : Int) (by decide))
  have HGD := Lib.hid (h.gd.fail 111).1.next.1
  have HEF : Hid (Co.eff (Co.next s.data.toList (Co.fail 111 st)) = some (111, st.frm)) := Co.fail_eff he
  clear h hx he hat hwd hd hz nt h80 hb
  go_enter Tryz.func85, Tryz.ntmps85
  go_wp2_with fail
  refine FI.out.mono ?_
  rintro e3 w3 ⟨rfl, rfl⟩
  go_wp2_with fail
  go_loop [7, 8] (fun n i => ∃ (j : Nat) (v : Int), j ≤ b ∧ i = .int .i64 j ∧ n = .int .i64 v) (fun _ i => b - (intOf i).toNat)
  case atStart => exact ⟨0, 0, Nat.zero_le _, rfl, rfl⟩
  case round =>
    obtain ⟨j, v, hj, rfl, rfl⟩ := hrel
    have hlt : j < wd.size := by omega
    have hjn : 0 ≤ (j : Int) := by omega
    by_cases hjb : j < b
    · obtain ⟨a0, a1⟩ := HD.out j hjb hlt
      have n1 : ¬ (wd[j].toNat : Int) < 48 := by omega
      have n2 : ¬ (57 : Int) < (wd[j].toNat : Int) := by omega
      have n3 : ¬ (8 : Int) < (j : Int) := by omega
      clear d0 d1 g3 hbd
      go_wp2_with fail
      go_round
      case measure => simp [intOf]; omega
      case rel => exact ⟨j + 1, _, by omega, by go_num, rfl⟩
    · obtain rfl : j = b := by omega
      clear d0 d1 g3
      by_cases n1 : (wd[j].toNat : Int) < 48
      · clear hbd hjb hj hb9 hb1
        go_wp2_with (go_at_call 62; refine (AMI.out).mono ?_; rintro e w5 ⟨rfl, h5, hg5⟩; have HZ5 : Hid (Cel w5 w.heap.size Ex.zero.list) := (HZ.out.kept hg5 (by intro e; have := Option.some.inj e; omega)); have HG5 := Lib.hid (grown_trans HG.out hg5); have H5 := Lib.hid h5; clear h5 hg5; obtain ⟨⟨z0, z1, z2, z3, z4, z5⟩, g0, g1, g2, g3, g4, g5⟩ := HZ5.out.six_of)
        have hfin := HZ5.out.six Ex.zero
        have hx6 := H5.out.kept (set6_grown w5 w.heap.size Ex.zero) (by intro e; have := Option.some.inj e; omega)
        have hg3 := grown_past HG5.out (set6_grown w5 w.heap.size Ex.zero) (Nat.le_refl _)
        show bodyPost _ _ _ _ _ (set6 w5 w.heap.size Ex.zero)
        generalize set6 w5 w.heap.size Ex.zero = wf at *
        obtain ⟨⟨k0, k1, k2, k3, k4, k5⟩, _⟩ := hfin.six_of
        exact bodyPost_ret (v := Ex.zero.val) (by simp [results, Tryz.results85, go_sem, k0, k1, k2, k3, k4, k5, Ex.val]) rfl ⟨⟨_, rfl⟩, ⟨HGD.out, _, hx6, .bad _ _ _ _ _ _ (by decide) HEF.out⟩, hg3⟩
      · by_cases n2 : (57 : Int) < (wd[j].toNat : Int)
        · clear hbd hjb hj hb9 hb1
          go_wp2_with (go_at_call 62; refine (AMI.out).mono ?_; rintro e w5 ⟨rfl, h5, hg5⟩; have HZ5 : Hid (Cel w5 w.heap.size Ex.zero.list) := (HZ.out.kept hg5 (by intro e; have := Option.some.inj e; omega)); have HG5 := Lib.hid (grown_trans HG.out hg5); have H5 := Lib.hid h5; clear h5 hg5; obtain ⟨⟨z0, z1, z2, z3, z4, z5⟩, g0, g1, g2, g3, g4, g5⟩ := HZ5.out.six_of)
          have hfin := HZ5.out.six Ex.zero
          have hx6 := H5.out.kept (set6_grown w5 w.heap.size Ex.zero) (by intro e; have := Option.some.inj e; omega)
          have hg3 := grown_past HG5.out (set6_grown w5 w.heap.size Ex.zero) (Nat.le_refl _)
          show bodyPost _ _ _ _ _ (set6 w5 w.heap.size Ex.zero)
          generalize set6 w5 w.heap.size Ex.zero = wf at *
          obtain ⟨⟨k0, k1, k2, k3, k4, k5⟩, _⟩ := hfin.six_of
          exact bodyPost_ret (v := Ex.zero.val) (by simp [results, Tryz.results85, go_sem, k0, k1, k2, k3, k4, k5, Ex.val]) rfl ⟨⟨_, rfl⟩, ⟨HGD.out, _, hx6, .bad _ _ _ _ _ _ (by decide) HEF.out⟩, hg3⟩
        · obtain rfl : j = 9 := by omega
          have n3 : (8 : Int) < ((9 : Nat) : Int) := by omega
          clear hbd hjb hj hb9 hb1
          go_wp2_with (go_at_call 62; refine (AMI.out).mono ?_; rintro e w5 ⟨rfl, h5, hg5⟩; have HZ5 : Hid (Cel w5 w.heap.size Ex.zero.list) := (HZ.out.kept hg5 (by intro e; have := Option.some.inj e; omega)); have HG5 := Lib.hid (grown_trans HG.out hg5); have H5 := Lib.hid h5; clear h5 hg5; obtain ⟨⟨z0, z1, z2, z3, z4, z5⟩, g0, g1, g2, g3, g4, g5⟩ := HZ5.out.six_of)
          have hfin := HZ5.out.six Ex.zero
          have hx6 := H5.out.kept (set6_grown w5 w.heap.size Ex.zero) (by intro e; have := Option.some.inj e; omega)
          have hg3 := grown_past HG5.out (set6_grown w5 w.heap.size Ex.zero) (Nat.le_refl _)
          show bodyPost _ _ _ _ _ (set6 w5 w.heap.size Ex.zero)
          generalize set6 w5 w.heap.size Ex.zero = wf at *
          obtain ⟨⟨k0, k1, k2, k3, k4, k5⟩, _⟩ := hfin.six_of
          exact bodyPost_ret (v := Ex.zero.val) (by simp [results, Tryz.results85, go_sem, k0, k1, k2, k3, k4, k5, Ex.val]) rfl ⟨⟨_, rfl⟩, ⟨HGD.out, _, hx6, .bad _ _ _ _ _ _ (by decide) HEF.out⟩, hg3⟩
end
end Go.Proofs.YtddedbpbenkdoaaGreatDoor
