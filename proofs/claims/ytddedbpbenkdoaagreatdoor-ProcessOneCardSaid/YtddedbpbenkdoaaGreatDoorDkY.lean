/- The document's parser: a sign: true and false. -/
import Derived.Test.YtddedbpbenkdoaaGreatDoorDiY
namespace Go.Proofs.YtddedbpbenkdoaaGreatDoor
open Go.RowKit

section
variable {w w1 : World} {q d : Nat} {s : ByteArray} {st : Co.St}
set_option maxRecDepth 10000 in
set_option maxHeartbeats 800000 in
theorem dsign_true (hsz : s.size ≤ 80) (hm : Co.text s.data.toList st = [116, 114, 117, 101]) (he : st.err = none) (h : DpC w q s st d) (hx : Cel w q ((Dq.good s st d).list s)) :
    Calls Tryz.prog 85 #[.pointer (some ⟨q, 0, none⟩)] w (DEnd q s d (Co.next s.data.toList st) w) := by
  have hql := h.lt
  have hsl : s.data.toList.length = s.size := by simp
  have hti : st.till ≤ s.size := by rw [← hsl]; exact (h.gd.facts he).2.1
  have HX := Lib.hid (hx.alloc (.cells #[.int .i64 0, .int .i64 0, .int .i64 0, .string ⟨#[]⟩, .string ⟨#[]⟩, .slice none 0 0] 87))
  have HZ : Hid (Cel (w.alloc (.cells #[.int .i64 0, .int .i64 0, .int .i64 0, .string ⟨#[]⟩, .string ⟨#[]⟩, .slice none 0 0] 87)) w.heap.size Ex.zero.list) := Lib.hid (Cel.lit w #[.int .i64 0, .int .i64 0, .int .i64 0, .string ⟨#[]⟩, .string ⟨#[]⟩, .slice none 0 0] 87)
  have FI := Lib.hid (dfine_any HX.out)
  have GN := Lib.hid h.gd.next.1
  obtain ⟨⟨_, _, _, k3, _, _, _, _⟩, _⟩ := Dq.facts HX.out
  unfold Dq.good at k3
  dsimp only at k3
  rw [hm] at k3
  have HE := Lib.hid he
  clear h hx he hm
  go_enter Tryz.func85, Tryz.ntmps85
  go_wp2_with fail
  refine FI.out.mono ?_
  rintro e3 w3 ⟨rfl, rfl⟩
  have HG := Lib.hid (grown_alloc w (.cells #[.int .i64 0, .int .i64 0, .int .i64 0, .string ⟨#[]⟩, .string ⟨#[]⟩, .slice none 0 0] 87) (some q))
  have hlz : (w.alloc (.cells #[.int .i64 0, .int .i64 0, .int .i64 0, .string ⟨#[]⟩, .string ⟨#[]⟩, .slice none 0 0] 87)).heap.size = w.heap.size + 1 := by simp
  generalize w.alloc _ = wa at *
  go_upto_region 27 with (fail)
  have HY7 : Hid (Cel (wa.alloc (.cells #[.int .i64 1, .int .i64 2, .int .i64 1, .string ⟨#[]⟩, .string ⟨#[]⟩, .slice none 0 0] 87)) (w.heap.size + 1) (Ex.list ⟨1, 2, 1, ⟨#[]⟩, ⟨#[]⟩, none, 0, 0⟩)) := cel_at (Cel.lit wa _ _) hlz
  have HX7 := Lib.hid (HX.out.alloc (.cells #[.int .i64 1, .int .i64 2, .int .i64 1, .string ⟨#[]⟩, .string ⟨#[]⟩, .slice none 0 0] 87))
  have HZ7 := Lib.hid (HZ.out.alloc (.cells #[.int .i64 1, .int .i64 2, .int .i64 1, .string ⟨#[]⟩, .string ⟨#[]⟩, .slice none 0 0] 87))
  have HG7 := Lib.hid (grown_trans HG.out (grown_alloc wa (.cells #[.int .i64 1, .int .i64 2, .int .i64 1, .string ⟨#[]⟩, .string ⟨#[]⟩, .slice none 0 0] 87) _))
  clear HX HZ HG FI
  generalize wa.alloc _ = w7 at *
  have NX := Lib.hid (dnext_any HX7.out HE.out hti hsz)
  go_wp2_with fail
  refine NX.out.mono ?_
  rintro e9 w9 ⟨rfl, ⟨x9, hx9, hs9⟩, hg9⟩
  have HZ9 := Lib.hid (HZ7.out.kept hg9 (by intro e; have := Option.some.inj e; omega))
  have HY9 := Lib.hid (HY7.out.kept hg9 (by intro e; have := Option.some.inj e; omega))
  have HG9 := Lib.hid (grown_trans HG7.out hg9)
  have HD9 : Hid (DpC w9 q s (Co.next s.data.toList st) d) := ⟨GN.out, x9, hx9, hs9⟩
  clear hx9 hs9 hg9
  obtain ⟨⟨y0, y1, y2, y3, y4, y5⟩, _⟩ := HY9.out.six_of
  obtain ⟨⟨z0, z1, z2, z3, z4, z5⟩, g0, g1, g2, g3, g4, g5⟩ := HZ9.out.six_of
  go_wp2
  obtain ⟨y, hy⟩ : ∃ y : Ex, y = ⟨1, 2, 1, ⟨#[]⟩, ⟨#[]⟩, none, 0, 0⟩ := ⟨_, rfl⟩
  have hfin := HZ9.out.six y
  have h3 := HD9.out.other (set6_grown w9 w.heap.size y) (by intro e; have := Option.some.inj e; omega)
  have hg3 := grown_past HG9.out (set6_grown w9 w.heap.size y) (Nat.le_refl _)
  show bodyPost _ _ _ _ _ (set6 w9 w.heap.size ⟨1, 2, 1, ⟨#[]⟩, ⟨#[]⟩, none, 0, 0⟩)
  rw [← hy]
  generalize set6 w9 w.heap.size y = wf at *
  obtain ⟨⟨k0, k1, k2, k3, k4, k5⟩, _⟩ := hfin.six_of
  exact bodyPost_ret (v := y.val) (by simp [results, Tryz.results85, go_sem, k0, k1, k2, k3, k4, k5, Ex.val]) rfl ⟨⟨y, rfl⟩, h3, hg3⟩
set_option maxRecDepth 10000 in
set_option maxHeartbeats 800000 in
theorem dsign_false (hsz : s.size ≤ 80) (hm : Co.text s.data.toList st = [102, 97, 108, 115, 101]) (he : st.err = none) (h : DpC w q s st d) (hx : Cel w q ((Dq.good s st d).list s)) :
    Calls Tryz.prog 85 #[.pointer (some ⟨q, 0, none⟩)] w (DEnd q s d (Co.next s.data.toList st) w) := by
  have hql := h.lt
  have hsl : s.data.toList.length = s.size := by simp
  have hti : st.till ≤ s.size := by rw [← hsl]; exact (h.gd.facts he).2.1
  have HX := Lib.hid (hx.alloc (.cells #[.int .i64 0, .int .i64 0, .int .i64 0, .string ⟨#[]⟩, .string ⟨#[]⟩, .slice none 0 0] 87))
  have HZ : Hid (Cel (w.alloc (.cells #[.int .i64 0, .int .i64 0, .int .i64 0, .string ⟨#[]⟩, .string ⟨#[]⟩, .slice none 0 0] 87)) w.heap.size Ex.zero.list) := Lib.hid (Cel.lit w #[.int .i64 0, .int .i64 0, .int .i64 0, .string ⟨#[]⟩, .string ⟨#[]⟩, .slice none 0 0] 87)
  have FI := Lib.hid (dfine_any HX.out)
  have GN := Lib.hid h.gd.next.1
  obtain ⟨⟨_, _, _, k3, _, _, _, _⟩, _⟩ := Dq.facts HX.out
  unfold Dq.good at k3
  dsimp only at k3
  rw [hm] at k3
  have HE := Lib.hid he
  clear h hx he hm
  go_enter Tryz.func85, Tryz.ntmps85
  go_wp2_with fail
  refine FI.out.mono ?_
  rintro e3 w3 ⟨rfl, rfl⟩
  have HG := Lib.hid (grown_alloc w (.cells #[.int .i64 0, .int .i64 0, .int .i64 0, .string ⟨#[]⟩, .string ⟨#[]⟩, .slice none 0 0] 87) (some q))
  have hlz : (w.alloc (.cells #[.int .i64 0, .int .i64 0, .int .i64 0, .string ⟨#[]⟩, .string ⟨#[]⟩, .slice none 0 0] 87)).heap.size = w.heap.size + 1 := by simp
  generalize w.alloc _ = wa at *
  go_upto_region 27 with (fail)
  have HY7 : Hid (Cel (wa.alloc (.cells #[.int .i64 1, .int .i64 2, .int .i64 0, .string ⟨#[]⟩, .string ⟨#[]⟩, .slice none 0 0] 87)) (w.heap.size + 1) (Ex.list ⟨1, 2, 0, ⟨#[]⟩, ⟨#[]⟩, none, 0, 0⟩)) := cel_at (Cel.lit wa _ _) hlz
  have HX7 := Lib.hid (HX.out.alloc (.cells #[.int .i64 1, .int .i64 2, .int .i64 0, .string ⟨#[]⟩, .string ⟨#[]⟩, .slice none 0 0] 87))
  have HZ7 := Lib.hid (HZ.out.alloc (.cells #[.int .i64 1, .int .i64 2, .int .i64 0, .string ⟨#[]⟩, .string ⟨#[]⟩, .slice none 0 0] 87))
  have HG7 := Lib.hid (grown_trans HG.out (grown_alloc wa (.cells #[.int .i64 1, .int .i64 2, .int .i64 0, .string ⟨#[]⟩, .string ⟨#[]⟩, .slice none 0 0] 87) _))
  clear HX HZ HG FI
  generalize wa.alloc _ = w7 at *
  have NX := Lib.hid (dnext_any HX7.out HE.out hti hsz)
  go_wp2_with fail
  refine NX.out.mono ?_
  rintro e9 w9 ⟨rfl, ⟨x9, hx9, hs9⟩, hg9⟩
  have HZ9 := Lib.hid (HZ7.out.kept hg9 (by intro e; have := Option.some.inj e; omega))
  have HY9 := Lib.hid (HY7.out.kept hg9 (by intro e; have := Option.some.inj e; omega))
  have HG9 := Lib.hid (grown_trans HG7.out hg9)
  have HD9 : Hid (DpC w9 q s (Co.next s.data.toList st) d) := ⟨GN.out, x9, hx9, hs9⟩
  clear hx9 hs9 hg9
  obtain ⟨⟨y0, y1, y2, y3, y4, y5⟩, _⟩ := HY9.out.six_of
  obtain ⟨⟨z0, z1, z2, z3, z4, z5⟩, g0, g1, g2, g3, g4, g5⟩ := HZ9.out.six_of
  go_wp2
  obtain ⟨y, hy⟩ : ∃ y : Ex, y = ⟨1, 2, 0, ⟨#[]⟩, ⟨#[]⟩, none, 0, 0⟩ := ⟨_, rfl⟩
  have hfin := HZ9.out.six y
  have h3 := HD9.out.other (set6_grown w9 w.heap.size y) (by intro e; have := Option.some.inj e; omega)
  have hg3 := grown_past HG9.out (set6_grown w9 w.heap.size y) (Nat.le_refl _)
  show bodyPost _ _ _ _ _ (set6 w9 w.heap.size ⟨1, 2, 0, ⟨#[]⟩, ⟨#[]⟩, none, 0, 0⟩)
  rw [← hy]
  generalize set6 w9 w.heap.size y = wf at *
  obtain ⟨⟨k0, k1, k2, k3, k4, k5⟩, _⟩ := hfin.six_of
  exact bodyPost_ret (v := y.val) (by simp [results, Tryz.results85, go_sem, k0, k1, k2, k3, k4, k5, Ex.val]) rfl ⟨⟨y, rfl⟩, h3, hg3⟩
end
end Go.Proofs.YtddedbpbenkdoaaGreatDoor
