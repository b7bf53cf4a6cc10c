/- The document's parser: a sign: a text. -/
import Derived.Test.YtddedbpbenkdoaaGreatDoorDkY
namespace Go.Proofs.YtddedbpbenkdoaaGreatDoor
open Go.RowKit

section
variable {w w1 : World} {q d : Nat} {s : ByteArray} {st : Co.St}
set_option maxRecDepth 10000 in
set_option maxHeartbeats 800000 in
theorem dsign_text (hsz : s.size ≤ 80) (hl2 : 2 ≤ (Co.text s.data.toList st).length) (h34 : (Co.text s.data.toList st)[0]! = 34) (he : st.err = none) (h : DpC w q s st d) (hx : Cel w q ((Dq.good s st d).list s)) :
    Calls Tryz.prog 85 #[.pointer (some ⟨q, 0, none⟩)] w (DEnd q s d (Co.next s.data.toList st) w) := by
  have hql := h.lt
  have hsl : s.data.toList.length = s.size := by simp
  have hti : st.till ≤ s.size := by rw [← hsl]; exact (h.gd.facts he).2.1
  have HX := Lib.hid (hx.alloc (.cells #[.int .i64 0, .int .i64 0, .int .i64 0, .string ⟨#[]⟩, .string ⟨#[]⟩, .slice none 0 0] 87))
  have HZ : Hid (Cel (w.alloc (.cells #[.int .i64 0, .int .i64 0, .int .i64 0, .string ⟨#[]⟩, .string ⟨#[]⟩, .slice none 0 0] 87)) w.heap.size Ex.zero.list) := Lib.hid (Cel.lit w #[.int .i64 0, .int .i64 0, .int .i64 0, .string ⟨#[]⟩, .string ⟨#[]⟩, .slice none 0 0] 87)
  have FI := Lib.hid (dfine_any HX.out)
  have GN := Lib.hid h.gd.next.1
  obtain ⟨⟨_, _, _, k3, _, _, _, _⟩, _⟩ := Dq.facts HX.out
  unfold Dq.good at k3
  dsimp only at k3
  have NX := Lib.hid (dnext_any HX.out he hti hsz)
  have HG := Lib.hid (grown_alloc w (.cells #[.int .i64 0, .int .i64 0, .int .i64 0, .string ⟨#[]⟩, .string ⟨#[]⟩, .slice none 0 0] 87) (some q))
  have nt : ∀ m : List UInt8, m[0]! ≠ 34 → Co.text s.data.toList st ≠ m := fun m hm e => hm (by rw [← e]; exact h34)
  obtain ⟨wd, hwd⟩ : ∃ wd : ByteArray, wd = ⟨(Co.text s.data.toList st).toArray⟩ := ⟨_, rfl⟩
  rw [← hwd] at k3
  have w1 : (wd.toList == [45]) = false := by rw [Co.eq_lit, hwd]; exact decide_eq_false (nt _ (by decide))
  have w2 : (wd.toList == [40]) = false := by rw [Co.eq_lit, hwd]; exact decide_eq_false (nt _ (by decide))
  have w3 : (wd.toList == [116, 114, 117, 101]) = false := by rw [Co.eq_lit, hwd]; exact decide_eq_false (nt _ (by decide))
  have w4 : (wd.toList == [102, 97, 108, 115, 101]) = false := by rw [Co.eq_lit, hwd]; exact decide_eq_false (nt _ (by decide))
  have hz : wd.size = (Co.text s.data.toList st).length := by rw [hwd]; simp [ByteArray.size]
  have h2I : (2 : Int) ≤ (wd.size : Int) := by omega
  have h0I : (0 : Int) < (wd.size : Int) := by omega
  have h0n : 0 < wd.size := by omega
  have hat : (wd[0].toNat : Int) = 34 := by
    have hlen : 0 < (Co.text s.data.toList st).length := by omega
    have : (Co.text s.data.toList st)[0]! = wd[0] := by
      subst hwd
      rw [getElem!_pos (Co.text s.data.toList st) 0 hlen]
      rfl
    rw [← this, h34]; rfl
  have e1 : IntKind.i64.wrap ((wd.size : Int) - 1) = (wd.size : Int) - 1 := by
    have : wd.size ≤ 80 := by
      rw [hz]; unfold Co.text; rw [List.length_take, List.length_drop]; omega
    rw [IntKind.wrap_i64]; omega
  have s0 : (0 : Int) ≤ (wd.size : Int) - 1 := by omega
  have s1 : (1 : Int) ≤ (wd.size : Int) - 1 := by omega
  have s2 : (wd.size : Int) - 1 ≤ (wd.size : Int) := by omega
  clear h hx he nt hwd h34 hl2 hz
  go_enter Tryz.func85, Tryz.ntmps85
  go_wp2_with fail
  refine FI.out.mono ?_
  rintro e3 w3 ⟨rfl, rfl⟩
  go_wp2_with fail
  refine NX.out.mono ?_
  rintro e9 w9 ⟨rfl, ⟨x9, hx9, hs9⟩, hg9⟩
  have HZ9 : Hid (Cel w9 w.heap.size Ex.zero.list) := HZ.out.kept hg9 (by intro e; have := Option.some.inj e; omega)
  have HG9 := Lib.hid (grown_trans HG.out hg9)
  have HD9 : Hid (DpC w9 q s (Co.next s.data.toList st) d) := ⟨GN.out, x9, hx9, hs9⟩
  clear hx9 hs9 hg9
  obtain ⟨⟨z0, z1, z2, z3, z4, z5⟩, g0, g1, g2, g3, g4, g5⟩ := HZ9.out.six_of
  go_wp2
  obtain ⟨y, hy⟩ : ∃ y : Ex, y = ⟨1, 3, 0, wd.extract 1 (wd.size - 1), ⟨#[]⟩, none, 0, 0⟩ := ⟨_, rfl⟩
  have hfin := HZ9.out.six y
  have h3 := HD9.out.other (set6_grown w9 w.heap.size y) (by intro e; have := Option.some.inj e; omega)
  have hg3 := grown_past HG9.out (set6_grown w9 w.heap.size y) (Nat.le_refl _)
  show bodyPost _ _ _ _ _ (set6 w9 w.heap.size ⟨1, 3, 0, wd.extract 1 (wd.size - 1), ⟨#[]⟩, none, 0, 0⟩)
  rw [← hy]
  generalize set6 w9 w.heap.size y = wf at *
  obtain ⟨⟨k0, k1, k2, k3, k4, k5⟩, _⟩ := hfin.six_of
  exact bodyPost_ret (v := y.val) (by simp [results, Tryz.results85, go_sem, k0, k1, k2, k3, k4, k5, Ex.val]) rfl ⟨⟨y, rfl⟩, h3, hg3⟩
end
end Go.Proofs.YtddedbpbenkdoaaGreatDoor
