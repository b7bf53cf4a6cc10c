/- Walks of package cond: what any condition comes to. -/
import Derived.Test.YtkffnfgdmcebdaaGreatDoorEkY
namespace Go.Proofs.YtkffnfgdmcebdaaGreatDoor
open Go.RowKit

section
variable {E : Int → Option Addr} {V w : World} {A : Option Addr} {n c : Nat} {l : List Vr.V} {t t2 : Co.Tr}
/-- What a part of Eval answers. -/
def AnsC (E : Int → Option Addr) (g : Nat) (args : Array Value) (w : World) (R : Int × Vl) : Prop :=
  Calls Tryz.prog g args w fun r w' => (∃ e, r = .returned (.tuple #[R.2.val, e]) ∧ SeenBy E e R.1) ∧ Below w.heap.size w w'
theorem eparts1 (op : Int) (k : Int) (h : (if op = 5 ∨ op = 17 then (1 : Int) else if 3 ≤ op ∧ op ≤ 16 then 2 else 0) = k) (w : World) :
    Calls Tryz.prog 148 #[.int .i64 op] w fun r w' => r = .returned (.int .i64 k) ∧ w = w' := by
  subst h; exact eparts_any op w
theorem eparts_quiet (op : Int) (k : Int) (h : (if op = 5 ∨ op = 17 then (1 : Int) else if 3 ≤ op ∧ op ≤ 16 then 2 else 0) = k) (w : World) (q : Nat) :
    Calls Tryz.prog 148 #[.int .i64 op] (w.drewN q) fun r w' => r = .returned (.int .i64 k) ∧ ∃ m, w' = w.drewN m :=
  (eparts1 op k h _).mono fun _ _ ⟨h1, h2⟩ => ⟨h1, q, h2.symm⟩
set_option maxHeartbeats 1600000 in
theorem eleaf_any (kind num : Int) (txt name : ByteArray) : AnsC E 140 #[Ex.val ⟨1, kind, num, txt, name, none, 0, 0⟩, .slice A n c] w (0, ⟨kind, num, txt⟩) := by
  unfold AnsC
  have HBA : Hid (Below w.heap.size w ((w.alloc (.cells #[.int .i64 1, .int .i64 kind, .int .i64 num, .string txt, .string name, .slice none 0 0] 185)).alloc (.cells #[.int .i64 0, .int .i64 0, .string ⟨#[]⟩] 94))) := ((Below.refl _ _).alloc (Nat.le_refl _) _).alloc (by simp) _
  have HZ : Hid (Cel ((w.alloc (.cells #[.int .i64 1, .int .i64 kind, .int .i64 num, .string txt, .string name, .slice none 0 0] 185)).alloc (.cells #[.int .i64 0, .int .i64 0, .string ⟨#[]⟩] 94)) (w.heap.size + 1) Vl.zero.list) := by
    have := Cel.lit (w.alloc (.cells #[.int .i64 1, .int .i64 kind, .int .i64 num, .string txt, .string name, .slice none 0 0] 185)) #[.int .i64 0, .int .i64 0, .string ⟨#[]⟩] 94
    rwa [show (w.alloc (.cells #[.int .i64 1, .int .i64 kind, .int .i64 num, .string txt, .string name, .slice none 0 0] 185)).heap.size = w.heap.size + 1 from by simp] at this
  have HX : Hid (Cel ((w.alloc (.cells #[.int .i64 1, .int .i64 kind, .int .i64 num, .string txt, .string name, .slice none 0 0] 185)).alloc (.cells #[.int .i64 0, .int .i64 0, .string ⟨#[]⟩] 94)) w.heap.size (Ex.list ⟨1, kind, num, txt, name, none, 0, 0⟩)) := (Ex.lit w ⟨1, kind, num, txt, name, none, 0, 0⟩).alloc _
  have HPQ := Lib.hid (eparts_quiet 1 0 rfl ((w.alloc (.cells #[.int .i64 1, .int .i64 kind, .int .i64 num, .string txt, .string name, .slice none 0 0] 185)).alloc (.cells #[.int .i64 0, .int .i64 0, .string ⟨#[]⟩] 94)))
  unfold Ex.val
  dsimp only
  go_enter Tryz.func140, Tryz.ntmps140
  go_wp2_with fail
  go_quiet ((go_at_call 148; with_reducible exact HPQ.out _))
  obtain ⟨w0, hw0⟩ : ∃ w0, w0 = ((w.alloc (.cells #[.int .i64 1, .int .i64 kind, .int .i64 num, .string txt, .string name, .slice none 0 0] 185)).alloc (.cells #[.int .i64 0, .int .i64 0, .string ⟨#[]⟩] 94)).drewN nq := ⟨_, rfl⟩
  rw [← hw0]
  have HB0 : Hid (Below w.heap.size w w0) := hw0 ▸ below_drewN HBA.out nq
  have HZ0 : Hid (Cel w0 (w.heap.size + 1) Vl.zero.list) := hw0 ▸ HZ.out.drewN nq
  have HX0 : Hid (Cel w0 w.heap.size _) := hw0 ▸ HX.out.drewN nq
  obtain ⟨⟨x0, x1, x2, x3, x4, x5⟩, _⟩ := HX0.out.six_of
  dsimp only at x0 x1 x2 x3 x4 x5
  have hlx : w.heap.size < w0.heap.size := HX0.out.lt
  have hlz : w.heap.size + 1 < w0.heap.size := HZ0.out.lt
  clear hw0
  obtain ⟨⟨z0, z1, z2⟩, g0, g1, g2⟩ := HZ0.out.tri_of
  have HFIN := Lib.hid (HZ0.out.tri (⟨kind, num, txt⟩ : Vl))
  have HBF := Lib.hid (below_tri (z := w.heap.size + 1) HB0.out (by omega) (⟨kind, num, txt⟩ : Vl))
  go_wp2
  show bodyPost _ _ _ _ _ (tri w0 (w.heap.size + 1) (⟨kind, num, txt⟩ : Vl))
  generalize tri w0 (w.heap.size + 1) _ = wf at *
  obtain ⟨⟨k0, k1, k2⟩, _⟩ := HFIN.out.tri_of
  exact bodyPost_ret (v := .tuple #[Vl.val (⟨kind, num, txt⟩ : Vl), .nilIface]) (by simp [results, Tryz.results140, go_sem, k0, k1, k2, Vl.val]) rfl ⟨⟨_, rfl, SeenBy.nil⟩, HBF.out⟩
set_option maxHeartbeats 3200000 in
theorem edname_any (kind num : Int) (txt name : ByteArray) (R : Int × Vl) (HC : ∀ k, AnsC E 149 #[.string name, .slice A n c] (((w.alloc (.cells #[.int .i64 2, .int .i64 kind, .int .i64 num, .string txt, .string name, .slice none 0 0] 185)).alloc (.cells #[.int .i64 0, .int .i64 0, .string ⟨#[]⟩] 94)).drewN k) R) : AnsC E 140 #[Ex.val ⟨2, kind, num, txt, name, none, 0, 0⟩, .slice A n c] w R := by
  unfold AnsC at *
  have HBA : Hid (Below w.heap.size w ((w.alloc (.cells #[.int .i64 2, .int .i64 kind, .int .i64 num, .string txt, .string name, .slice none 0 0] 185)).alloc (.cells #[.int .i64 0, .int .i64 0, .string ⟨#[]⟩] 94))) := ((Below.refl _ _).alloc (Nat.le_refl _) _).alloc (by simp) _
  have HZ : Hid (Cel ((w.alloc (.cells #[.int .i64 2, .int .i64 kind, .int .i64 num, .string txt, .string name, .slice none 0 0] 185)).alloc (.cells #[.int .i64 0, .int .i64 0, .string ⟨#[]⟩] 94)) (w.heap.size + 1) Vl.zero.list) := by
    have := Cel.lit (w.alloc (.cells #[.int .i64 2, .int .i64 kind, .int .i64 num, .string txt, .string name, .slice none 0 0] 185)) #[.int .i64 0, .int .i64 0, .string ⟨#[]⟩] 94
    rwa [show (w.alloc (.cells #[.int .i64 2, .int .i64 kind, .int .i64 num, .string txt, .string name, .slice none 0 0] 185)).heap.size = w.heap.size + 1 from by simp] at this
  have HX : Hid (Cel ((w.alloc (.cells #[.int .i64 2, .int .i64 kind, .int .i64 num, .string txt, .string name, .slice none 0 0] 185)).alloc (.cells #[.int .i64 0, .int .i64 0, .string ⟨#[]⟩] 94)) w.heap.size (Ex.list ⟨2, kind, num, txt, name, none, 0, 0⟩)) := (Ex.lit w ⟨2, kind, num, txt, name, none, 0, 0⟩).alloc _
  have HPQ := Lib.hid (eparts_quiet 2 0 rfl ((w.alloc (.cells #[.int .i64 2, .int .i64 kind, .int .i64 num, .string txt, .string name, .slice none 0 0] 185)).alloc (.cells #[.int .i64 0, .int .i64 0, .string ⟨#[]⟩] 94)))
  have HP := Lib.hid (eparts1 2 0 rfl)
  have HCC := Lib.hid HC
  clear HC
  unfold Ex.val at *
  dsimp only at *
  go_enter Tryz.func140, Tryz.ntmps140
  go_wp2_with fail
  go_quiet ((go_at_call 148; with_reducible exact HPQ.out _))
  obtain ⟨w0, hw0⟩ : ∃ w0, w0 = ((w.alloc (.cells #[.int .i64 2, .int .i64 kind, .int .i64 num, .string txt, .string name, .slice none 0 0] 185)).alloc (.cells #[.int .i64 0, .int .i64 0, .string ⟨#[]⟩] 94)).drewN nq := ⟨_, rfl⟩
  rw [← hw0]
  have HB0 : Hid (Below w.heap.size w w0) := hw0 ▸ below_drewN HBA.out nq
  have HZ0 : Hid (Cel w0 (w.heap.size + 1) Vl.zero.list) := hw0 ▸ HZ.out.drewN nq
  have HX0 : Hid (Cel w0 w.heap.size _) := hw0 ▸ HX.out.drewN nq
  obtain ⟨⟨x0, x1, x2, x3, x4, x5⟩, _⟩ := HX0.out.six_of
  dsimp only at x0 x1 x2 x3 x4 x5
  have hlx : w.heap.size < w0.heap.size := HX0.out.lt
  have hlz : w.heap.size + 1 < w0.heap.size := HZ0.out.lt
  have HC0 := HCC.out nq
  rw [← hw0] at HC0
  have HCH := Lib.hid HC0
  clear hw0 HC0 HCC
  go_wp2_with fail
  refine HCH.out.mono ?_
  rintro r w5 ⟨⟨e, rfl, hs⟩, hb5⟩
  have HS := Lib.hid hs
  have HB5 := Lib.hid hb5
  clear hs hb5 x0 x1 x2 x3 x4 x5
  have hz1 : Cel w5 (w.heap.size + 1) Vl.zero.list := HZ0.out.below HB5.out (Nat.le_refl _)
  have hbw : Below w.heap.size w w5 := HB0.out.trans (HB5.out.mono HB0.out.size)
  obtain ⟨⟨z0, z1, z2⟩, g0, g1, g2⟩ := hz1.tri_of
  have HFIN := Lib.hid (hz1.tri R.2)
  have HBF := Lib.hid (below_tri (z := w.heap.size + 1) hbw (by omega) R.2)
  clear hz1 hbw
  unfold Vl.val
  go_wp2
  show bodyPost _ _ _ _ _ (tri w5 (w.heap.size + 1) R.2)
  generalize tri w5 (w.heap.size + 1) _ = wf at *
  obtain ⟨⟨k0, k1, k2⟩, _⟩ := HFIN.out.tri_of
  exact bodyPost_ret (v := .tuple #[Vl.val R.2, e]) (by simp [results, Tryz.results140, go_sem, k0, k1, k2, Vl.val]) rfl ⟨⟨_, rfl, HS.out⟩, HBF.out⟩
set_option maxHeartbeats 3200000 in
theorem edjoin3_any (b : Nat) (R : Int × Vl) (HC : ∀ k, AnsC E 150 #[Ex.val ⟨3, 0, 0, ⟨#[]⟩, ⟨#[]⟩, some ⟨b, 0, none⟩, 2, 2⟩, .slice A n c] (((w.alloc (.cells #[.int .i64 3, .int .i64 0, .int .i64 0, .string ⟨#[]⟩, .string ⟨#[]⟩, .slice (some ⟨b, 0, none⟩) 2 2] 185)).alloc (.cells #[.int .i64 0, .int .i64 0, .string ⟨#[]⟩] 94)).drewN k) R) : AnsC E 140 #[Ex.val ⟨3, 0, 0, ⟨#[]⟩, ⟨#[]⟩, some ⟨b, 0, none⟩, 2, 2⟩, .slice A n c] w R := by
  unfold AnsC at *
  have HBA : Hid (Below w.heap.size w ((w.alloc (.cells #[.int .i64 3, .int .i64 0, .int .i64 0, .string ⟨#[]⟩, .string ⟨#[]⟩, .slice (some ⟨b, 0, none⟩) 2 2] 185)).alloc (.cells #[.int .i64 0, .int .i64 0, .string ⟨#[]⟩] 94))) := ((Below.refl _ _).alloc (Nat.le_refl _) _).alloc (by simp) _
  have HZ : Hid (Cel ((w.alloc (.cells #[.int .i64 3, .int .i64 0, .int .i64 0, .string ⟨#[]⟩, .string ⟨#[]⟩, .slice (some ⟨b, 0, none⟩) 2 2] 185)).alloc (.cells #[.int .i64 0, .int .i64 0, .string ⟨#[]⟩] 94)) (w.heap.size + 1) Vl.zero.list) := by
    have := Cel.lit (w.alloc (.cells #[.int .i64 3, .int .i64 0, .int .i64 0, .string ⟨#[]⟩, .string ⟨#[]⟩, .slice (some ⟨b, 0, none⟩) 2 2] 185)) #[.int .i64 0, .int .i64 0, .string ⟨#[]⟩] 94
    rwa [show (w.alloc (.cells #[.int .i64 3, .int .i64 0, .int .i64 0, .string ⟨#[]⟩, .string ⟨#[]⟩, .slice (some ⟨b, 0, none⟩) 2 2] 185)).heap.size = w.heap.size + 1 from by simp] at this
  have HX : Hid (Cel ((w.alloc (.cells #[.int .i64 3, .int .i64 0, .int .i64 0, .string ⟨#[]⟩, .string ⟨#[]⟩, .slice (some ⟨b, 0, none⟩) 2 2] 185)).alloc (.cells #[.int .i64 0, .int .i64 0, .string ⟨#[]⟩] 94)) w.heap.size (Ex.list ⟨3, 0, 0, ⟨#[]⟩, ⟨#[]⟩, some ⟨b, 0, none⟩, 2, 2⟩)) := (Ex.lit w ⟨3, 0, 0, ⟨#[]⟩, ⟨#[]⟩, some ⟨b, 0, none⟩, 2, 2⟩).alloc _
  have HPQ := Lib.hid (eparts_quiet 3 2 rfl ((w.alloc (.cells #[.int .i64 3, .int .i64 0, .int .i64 0, .string ⟨#[]⟩, .string ⟨#[]⟩, .slice (some ⟨b, 0, none⟩) 2 2] 185)).alloc (.cells #[.int .i64 0, .int .i64 0, .string ⟨#[]⟩] 94)))
  have HP := Lib.hid (eparts1 3 2 rfl)
  have HCC := Lib.hid HC
  clear HC
  unfold Ex.val at *
  dsimp only at *
  go_enter Tryz.func140, Tryz.ntmps140
  go_wp2_with fail
  go_quiet ((go_at_call 148; with_reducible exact HPQ.out _))
  obtain ⟨w0, hw0⟩ : ∃ w0, w0 = ((w.alloc (.cells #[.int .i64 3, .int .i64 0, .int .i64 0, .string ⟨#[]⟩, .string ⟨#[]⟩, .slice (some ⟨b, 0, none⟩) 2 2] 185)).alloc (.cells #[.int .i64 0, .int .i64 0, .string ⟨#[]⟩] 94)).drewN nq := ⟨_, rfl⟩
  rw [← hw0]
  have HB0 : Hid (Below w.heap.size w w0) := hw0 ▸ below_drewN HBA.out nq
  have HZ0 : Hid (Cel w0 (w.heap.size + 1) Vl.zero.list) := hw0 ▸ HZ.out.drewN nq
  have HX0 : Hid (Cel w0 w.heap.size _) := hw0 ▸ HX.out.drewN nq
  obtain ⟨⟨x0, x1, x2, x3, x4, x5⟩, _⟩ := HX0.out.six_of
  dsimp only at x0 x1 x2 x3 x4 x5
  have hlx : w.heap.size < w0.heap.size := HX0.out.lt
  have hlz : w.heap.size + 1 < w0.heap.size := HZ0.out.lt
  have HC0 := HCC.out nq
  rw [← hw0] at HC0
  have HCH := Lib.hid HC0
  clear hw0 HC0 HCC
  go_wp2_with fail
  refine HCH.out.mono ?_
  rintro r w5 ⟨⟨e, rfl, hs⟩, hb5⟩
  have HS := Lib.hid hs
  have HB5 := Lib.hid hb5
  clear hs hb5 x0 x1 x2 x3 x4 x5
  have hz1 : Cel w5 (w.heap.size + 1) Vl.zero.list := HZ0.out.below HB5.out (Nat.le_refl _)
  have hbw : Below w.heap.size w w5 := HB0.out.trans (HB5.out.mono HB0.out.size)
  obtain ⟨⟨z0, z1, z2⟩, g0, g1, g2⟩ := hz1.tri_of
  have HFIN := Lib.hid (hz1.tri R.2)
  have HBF := Lib.hid (below_tri (z := w.heap.size + 1) hbw (by omega) R.2)
  clear hz1 hbw
  unfold Vl.val
  go_wp2
  show bodyPost _ _ _ _ _ (tri w5 (w.heap.size + 1) R.2)
  generalize tri w5 (w.heap.size + 1) _ = wf at *
  obtain ⟨⟨k0, k1, k2⟩, _⟩ := HFIN.out.tri_of
  exact bodyPost_ret (v := .tuple #[Vl.val R.2, e]) (by simp [results, Tryz.results140, go_sem, k0, k1, k2, Vl.val]) rfl ⟨⟨_, rfl, HS.out⟩, HBF.out⟩
set_option maxHeartbeats 3200000 in
theorem edjoin4_any (b : Nat) (R : Int × Vl) (HC : ∀ k, AnsC E 150 #[Ex.val ⟨4, 0, 0, ⟨#[]⟩, ⟨#[]⟩, some ⟨b, 0, none⟩, 2, 2⟩, .slice A n c] (((w.alloc (.cells #[.int .i64 4, .int .i64 0, .int .i64 0, .string ⟨#[]⟩, .string ⟨#[]⟩, .slice (some ⟨b, 0, none⟩) 2 2] 185)).alloc (.cells #[.int .i64 0, .int .i64 0, .string ⟨#[]⟩] 94)).drewN k) R) : AnsC E 140 #[Ex.val ⟨4, 0, 0, ⟨#[]⟩, ⟨#[]⟩, some ⟨b, 0, none⟩, 2, 2⟩, .slice A n c] w R := by
  unfold AnsC at *
  have HBA : Hid (Below w.heap.size w ((w.alloc (.cells #[.int .i64 4, .int .i64 0, .int .i64 0, .string ⟨#[]⟩, .string ⟨#[]⟩, .slice (some ⟨b, 0, none⟩) 2 2] 185)).alloc (.cells #[.int .i64 0, .int .i64 0, .string ⟨#[]⟩] 94))) := ((Below.refl _ _).alloc (Nat.le_refl _) _).alloc (by simp) _
  have HZ : Hid (Cel ((w.alloc (.cells #[.int .i64 4, .int .i64 0, .int .i64 0, .string ⟨#[]⟩, .string ⟨#[]⟩, .slice (some ⟨b, 0, none⟩) 2 2] 185)).alloc (.cells #[.int .i64 0, .int .i64 0, .string ⟨#[]⟩] 94)) (w.heap.size + 1) Vl.zero.list) := by
    have := Cel.lit (w.alloc (.cells #[.int .i64 4, .int .i64 0, .int .i64 0, .string ⟨#[]⟩, .string ⟨#[]⟩, .slice (some ⟨b, 0, none⟩) 2 2] 185)) #[.int .i64 0, .int .i64 0, .string ⟨#[]⟩] 94
    rwa [show (w.alloc (.cells #[.int .i64 4, .int .i64 0, .int .i64 0, .string ⟨#[]⟩, .string ⟨#[]⟩, .slice (some ⟨b, 0, none⟩) 2 2] 185)).heap.size = w.heap.size + 1 from by simp] at this
  have HX : Hid (Cel ((w.alloc (.cells #[.int .i64 4, .int .i64 0, .int .i64 0, .string ⟨#[]⟩, .string ⟨#[]⟩, .slice (some ⟨b, 0, none⟩) 2 2] 185)).alloc (.cells #[.int .i64 0, .int .i64 0, .string ⟨#[]⟩] 94)) w.heap.size (Ex.list ⟨4, 0, 0, ⟨#[]⟩, ⟨#[]⟩, some ⟨b, 0, none⟩, 2, 2⟩)) := (Ex.lit w ⟨4, 0, 0, ⟨#[]⟩, ⟨#[]⟩, some ⟨b, 0, none⟩, 2, 2⟩).alloc _
  have HPQ := Lib.hid (eparts_quiet 4 2 rfl ((w.alloc (.cells #[.int .i64 4, .int .i64 0, .int .i64 0, .string ⟨#[]⟩, .string ⟨#[]⟩, .slice (some ⟨b, 0, none⟩) 2 2] 185)).alloc (.cells #[.int .i64 0, .int .i64 0, .string ⟨#[]⟩] 94)))
  have HP := Lib.hid (eparts1 4 2 rfl)
  have HCC := Lib.hid HC
  clear HC
  unfold Ex.val at *
  dsimp only at *
  go_enter Tryz.func140, Tryz.ntmps140
  go_wp2_with fail
  go_quiet ((go_at_call 148; with_reducible exact HPQ.out _))
  obtain ⟨w0, hw0⟩ : ∃ w0, w0 = ((w.alloc (.cells #[.int .i64 4, .int .i64 0, .int .i64 0, .string ⟨#[]⟩, .string ⟨#[]⟩, .slice (some ⟨b, 0, none⟩) 2 2] 185)).alloc (.cells #[.int .i64 0, .int .i64 0, .string ⟨#[]⟩] 94)).drewN nq := ⟨_, rfl⟩
  rw [← hw0]
  have HB0 : Hid (Below w.heap.size w w0) := hw0 ▸ below_drewN HBA.out nq
  have HZ0 : Hid (Cel w0 (w.heap.size + 1) Vl.zero.list) := hw0 ▸ HZ.out.drewN nq
  have HX0 : Hid (Cel w0 w.heap.size _) := hw0 ▸ HX.out.drewN nq
  obtain ⟨⟨x0, x1, x2, x3, x4, x5⟩, _⟩ := HX0.out.six_of
  dsimp only at x0 x1 x2 x3 x4 x5
  have hlx : w.heap.size < w0.heap.size := HX0.out.lt
  have hlz : w.heap.size + 1 < w0.heap.size := HZ0.out.lt
  have HC0 := HCC.out nq
  rw [← hw0] at HC0
  have HCH := Lib.hid HC0
  clear hw0 HC0 HCC
  go_wp2_with fail
  refine HCH.out.mono ?_
  rintro r w5 ⟨⟨e, rfl, hs⟩, hb5⟩
  have HS := Lib.hid hs
  have HB5 := Lib.hid hb5
  clear hs hb5 x0 x1 x2 x3 x4 x5
  have hz1 : Cel w5 (w.heap.size + 1) Vl.zero.list := HZ0.out.below HB5.out (Nat.le_refl _)
  have hbw : Below w.heap.size w w5 := HB0.out.trans (HB5.out.mono HB0.out.size)
  obtain ⟨⟨z0, z1, z2⟩, g0, g1, g2⟩ := hz1.tri_of
  have HFIN := Lib.hid (hz1.tri R.2)
  have HBF := Lib.hid (below_tri (z := w.heap.size + 1) hbw (by omega) R.2)
  clear hz1 hbw
  unfold Vl.val
  go_wp2
  show bodyPost _ _ _ _ _ (tri w5 (w.heap.size + 1) R.2)
  generalize tri w5 (w.heap.size + 1) _ = wf at *
  obtain ⟨⟨k0, k1, k2⟩, _⟩ := HFIN.out.tri_of
  exact bodyPost_ret (v := .tuple #[Vl.val R.2, e]) (by simp [results, Tryz.results140, go_sem, k0, k1, k2, Vl.val]) rfl ⟨⟨_, rfl, HS.out⟩, HBF.out⟩
set_option maxHeartbeats 3200000 in
theorem edone5_any (b : Nat) (R : Int × Vl) (HC : ∀ k, AnsC E 151 #[Ex.val ⟨5, 0, 0, ⟨#[]⟩, ⟨#[]⟩, some ⟨b, 0, none⟩, 1, 1⟩, .slice A n c] (((w.alloc (.cells #[.int .i64 5, .int .i64 0, .int .i64 0, .string ⟨#[]⟩, .string ⟨#[]⟩, .slice (some ⟨b, 0, none⟩) 1 1] 185)).alloc (.cells #[.int .i64 0, .int .i64 0, .string ⟨#[]⟩] 94)).drewN k) R) : AnsC E 140 #[Ex.val ⟨5, 0, 0, ⟨#[]⟩, ⟨#[]⟩, some ⟨b, 0, none⟩, 1, 1⟩, .slice A n c] w R := by
  unfold AnsC at *
  have HBA : Hid (Below w.heap.size w ((w.alloc (.cells #[.int .i64 5, .int .i64 0, .int .i64 0, .string ⟨#[]⟩, .string ⟨#[]⟩, .slice (some ⟨b, 0, none⟩) 1 1] 185)).alloc (.cells #[.int .i64 0, .int .i64 0, .string ⟨#[]⟩] 94))) := ((Below.refl _ _).alloc (Nat.le_refl _) _).alloc (by simp) _
  have HZ : Hid (Cel ((w.alloc (.cells #[.int .i64 5, .int .i64 0, .int .i64 0, .string ⟨#[]⟩, .string ⟨#[]⟩, .slice (some ⟨b, 0, none⟩) 1 1] 185)).alloc (.cells #[.int .i64 0, .int .i64 0, .string ⟨#[]⟩] 94)) (w.heap.size + 1) Vl.zero.list) := by
    have := Cel.lit (w.alloc (.cells #[.int .i64 5, .int .i64 0, .int .i64 0, .string ⟨#[]⟩, .string ⟨#[]⟩, .slice (some ⟨b, 0, none⟩) 1 1] 185)) #[.int .i64 0, .int .i64 0, .string ⟨#[]⟩] 94
    rwa [show (w.alloc (.cells #[.int .i64 5, .int .i64 0, .int .i64 0, .string ⟨#[]⟩, .string ⟨#[]⟩, .slice (some ⟨b, 0, none⟩) 1 1] 185)).heap.size = w.heap.size + 1 from by simp] at this
  have HX : Hid (Cel ((w.alloc (.cells #[.int .i64 5, .int .i64 0, .int .i64 0, .string ⟨#[]⟩, .string ⟨#[]⟩, .slice (some ⟨b, 0, none⟩) 1 1] 185)).alloc (.cells #[.int .i64 0, .int .i64 0, .string ⟨#[]⟩] 94)) w.heap.size (Ex.list ⟨5, 0, 0, ⟨#[]⟩, ⟨#[]⟩, some ⟨b, 0, none⟩, 1, 1⟩)) := (Ex.lit w ⟨5, 0, 0, ⟨#[]⟩, ⟨#[]⟩, some ⟨b, 0, none⟩, 1, 1⟩).alloc _
  have HPQ := Lib.hid (eparts_quiet 5 1 rfl ((w.alloc (.cells #[.int .i64 5, .int .i64 0, .int .i64 0, .string ⟨#[]⟩, .string ⟨#[]⟩, .slice (some ⟨b, 0, none⟩) 1 1] 185)).alloc (.cells #[.int .i64 0, .int .i64 0, .string ⟨#[]⟩] 94)))
  have HP := Lib.hid (eparts1 5 1 rfl)
  have HCC := Lib.hid HC
  clear HC
  unfold Ex.val at *
  dsimp only at *
  go_enter Tryz.func140, Tryz.ntmps140
  go_wp2_with fail
  go_quiet ((go_at_call 148; with_reducible exact HPQ.out _))
  obtain ⟨w0, hw0⟩ : ∃ w0, w0 = ((w.alloc (.cells #[.int .i64 5, .int .i64 0, .int .i64 0, .string ⟨#[]⟩, .string ⟨#[]⟩, .slice (some ⟨b, 0, none⟩) 1 1] 185)).alloc (.cells #[.int .i64 0, .int .i64 0, .string ⟨#[]⟩] 94)).drewN nq := ⟨_, rfl⟩
  rw [← hw0]
  have HB0 : Hid (Below w.heap.size w w0) := hw0 ▸ below_drewN HBA.out nq
  have HZ0 : Hid (Cel w0 (w.heap.size + 1) Vl.zero.list) := hw0 ▸ HZ.out.drewN nq
  have HX0 : Hid (Cel w0 w.heap.size _) := hw0 ▸ HX.out.drewN nq
  obtain ⟨⟨x0, x1, x2, x3, x4, x5⟩, _⟩ := HX0.out.six_of
  dsimp only at x0 x1 x2 x3 x4 x5
  have hlx : w.heap.size < w0.heap.size := HX0.out.lt
  have hlz : w.heap.size + 1 < w0.heap.size := HZ0.out.lt
  have HC0 := HCC.out nq
  rw [← hw0] at HC0
  have HCH := Lib.hid HC0
  clear hw0 HC0 HCC
  go_wp2_with fail
  refine (HP.out _).mono ?_
  rintro r w' ⟨rfl, rfl⟩
  go_wp2_with fail
  refine HCH.out.mono ?_
  rintro r w5 ⟨⟨e, rfl, hs⟩, hb5⟩
  have HS := Lib.hid hs
  have HB5 := Lib.hid hb5
  clear hs hb5 x0 x1 x2 x3 x4 x5
  have hz1 : Cel w5 (w.heap.size + 1) Vl.zero.list := HZ0.out.below HB5.out (Nat.le_refl _)
  have hbw : Below w.heap.size w w5 := HB0.out.trans (HB5.out.mono HB0.out.size)
  obtain ⟨⟨z0, z1, z2⟩, g0, g1, g2⟩ := hz1.tri_of
  have HFIN := Lib.hid (hz1.tri R.2)
  have HBF := Lib.hid (below_tri (z := w.heap.size + 1) hbw (by omega) R.2)
  clear hz1 hbw
  unfold Vl.val
  go_wp2
  show bodyPost _ _ _ _ _ (tri w5 (w.heap.size + 1) R.2)
  generalize tri w5 (w.heap.size + 1) _ = wf at *
  obtain ⟨⟨k0, k1, k2⟩, _⟩ := HFIN.out.tri_of
  exact bodyPost_ret (v := .tuple #[Vl.val R.2, e]) (by simp [results, Tryz.results140, go_sem, k0, k1, k2, Vl.val]) rfl ⟨⟨_, rfl, HS.out⟩, HBF.out⟩
set_option maxHeartbeats 3200000 in
theorem edone17_any (b : Nat) (R : Int × Vl) (HC : ∀ k, AnsC E 151 #[Ex.val ⟨17, 0, 0, ⟨#[]⟩, ⟨#[]⟩, some ⟨b, 0, none⟩, 1, 1⟩, .slice A n c] (((w.alloc (.cells #[.int .i64 17, .int .i64 0, .int .i64 0, .string ⟨#[]⟩, .string ⟨#[]⟩, .slice (some ⟨b, 0, none⟩) 1 1] 185)).alloc (.cells #[.int .i64 0, .int .i64 0, .string ⟨#[]⟩] 94)).drewN k) R) : AnsC E 140 #[Ex.val ⟨17, 0, 0, ⟨#[]⟩, ⟨#[]⟩, some ⟨b, 0, none⟩, 1, 1⟩, .slice A n c] w R := by
  unfold AnsC at *
  have HBA : Hid (Below w.heap.size w ((w.alloc (.cells #[.int .i64 17, .int .i64 0, .int .i64 0, .string ⟨#[]⟩, .string ⟨#[]⟩, .slice (some ⟨b, 0, none⟩) 1 1] 185)).alloc (.cells #[.int .i64 0, .int .i64 0, .string ⟨#[]⟩] 94))) := ((Below.refl _ _).alloc (Nat.le_refl _) _).alloc (by simp) _
  have HZ : Hid (Cel ((w.alloc (.cells #[.int .i64 17, .int .i64 0, .int .i64 0, .string ⟨#[]⟩, .string ⟨#[]⟩, .slice (some ⟨b, 0, none⟩) 1 1] 185)).alloc (.cells #[.int .i64 0, .int .i64 0, .string ⟨#[]⟩] 94)) (w.heap.size + 1) Vl.zero.list) := by
    have := Cel.lit (w.alloc (.cells #[.int .i64 17, .int .i64 0, .int .i64 0, .string ⟨#[]⟩, .string ⟨#[]⟩, .slice (some ⟨b, 0, none⟩) 1 1] 185)) #[.int .i64 0, .int .i64 0, .string ⟨#[]⟩] 94
    rwa [show (w.alloc (.cells #[.int .i64 17, .int .i64 0, .int .i64 0, .string ⟨#[]⟩, .string ⟨#[]⟩, .slice (some ⟨b, 0, none⟩) 1 1] 185)).heap.size = w.heap.size + 1 from by simp] at this
  have HX : Hid (Cel ((w.alloc (.cells #[.int .i64 17, .int .i64 0, .int .i64 0, .string ⟨#[]⟩, .string ⟨#[]⟩, .slice (some ⟨b, 0, none⟩) 1 1] 185)).alloc (.cells #[.int .i64 0, .int .i64 0, .string ⟨#[]⟩] 94)) w.heap.size (Ex.list ⟨17, 0, 0, ⟨#[]⟩, ⟨#[]⟩, some ⟨b, 0, none⟩, 1, 1⟩)) := (Ex.lit w ⟨17, 0, 0, ⟨#[]⟩, ⟨#[]⟩, some ⟨b, 0, none⟩, 1, 1⟩).alloc _
  have HPQ := Lib.hid (eparts_quiet 17 1 rfl ((w.alloc (.cells #[.int .i64 17, .int .i64 0, .int .i64 0, .string ⟨#[]⟩, .string ⟨#[]⟩, .slice (some ⟨b, 0, none⟩) 1 1] 185)).alloc (.cells #[.int .i64 0, .int .i64 0, .string ⟨#[]⟩] 94)))
  have HP := Lib.hid (eparts1 17 1 rfl)
  have HCC := Lib.hid HC
  clear HC
  unfold Ex.val at *
  dsimp only at *
  go_enter Tryz.func140, Tryz.ntmps140
  go_wp2_with fail
  go_quiet ((go_at_call 148; with_reducible exact HPQ.out _))
  obtain ⟨w0, hw0⟩ : ∃ w0, w0 = ((w.alloc (.cells #[.int .i64 17, .int .i64 0, .int .i64 0, .string ⟨#[]⟩, .string ⟨#[]⟩, .slice (some ⟨b, 0, none⟩) 1 1] 185)).alloc (.cells #[.int .i64 0, .int .i64 0, .string ⟨#[]⟩] 94)).drewN nq := ⟨_, rfl⟩
  rw [← hw0]
  have HB0 : Hid (Below w.heap.size w w0) := hw0 ▸ below_drewN HBA.out nq
  have HZ0 : Hid (Cel w0 (w.heap.size + 1) Vl.zero.list) := hw0 ▸ HZ.out.drewN nq
  have HX0 : Hid (Cel w0 w.heap.size _) := hw0 ▸ HX.out.drewN nq
  obtain ⟨⟨x0, x1, x2, x3, x4, x5⟩, _⟩ := HX0.out.six_of
  dsimp only at x0 x1 x2 x3 x4 x5
  have hlx : w.heap.size < w0.heap.size := HX0.out.lt
  have hlz : w.heap.size + 1 < w0.heap.size := HZ0.out.lt
  have HC0 := HCC.out nq
  rw [← hw0] at HC0
  have HCH := Lib.hid HC0
  clear hw0 HC0 HCC
  go_wp2_with fail
  refine (HP.out _).mono ?_
  rintro r w' ⟨rfl, rfl⟩
  go_wp2_with fail
  refine HCH.out.mono ?_
  rintro r w5 ⟨⟨e, rfl, hs⟩, hb5⟩
  have HS := Lib.hid hs
  have HB5 := Lib.hid hb5
  clear hs hb5 x0 x1 x2 x3 x4 x5
  have hz1 : Cel w5 (w.heap.size + 1) Vl.zero.list := HZ0.out.below HB5.out (Nat.le_refl _)
  have hbw : Below w.heap.size w w5 := HB0.out.trans (HB5.out.mono HB0.out.size)
  obtain ⟨⟨z0, z1, z2⟩, g0, g1, g2⟩ := hz1.tri_of
  have HFIN := Lib.hid (hz1.tri R.2)
  have HBF := Lib.hid (below_tri (z := w.heap.size + 1) hbw (by omega) R.2)
  clear hz1 hbw
  unfold Vl.val
  go_wp2
  show bodyPost _ _ _ _ _ (tri w5 (w.heap.size + 1) R.2)
  generalize tri w5 (w.heap.size + 1) _ = wf at *
  obtain ⟨⟨k0, k1, k2⟩, _⟩ := HFIN.out.tri_of
  exact bodyPost_ret (v := .tuple #[Vl.val R.2, e]) (by simp [results, Tryz.results140, go_sem, k0, k1, k2, Vl.val]) rfl ⟨⟨_, rfl, HS.out⟩, HBF.out⟩
set_option maxHeartbeats 3200000 in
theorem edtwo_any (op : Int) (h6 : 6 ≤ op) (h16 : op ≤ 16) (b : Nat) (R : Int × Vl) (HC : ∀ k, AnsC E 152 #[Ex.val ⟨op, 0, 0, ⟨#[]⟩, ⟨#[]⟩, some ⟨b, 0, none⟩, 2, 2⟩, .slice A n c] (((w.alloc (.cells #[.int .i64 op, .int .i64 0, .int .i64 0, .string ⟨#[]⟩, .string ⟨#[]⟩, .slice (some ⟨b, 0, none⟩) 2 2] 185)).alloc (.cells #[.int .i64 0, .int .i64 0, .string ⟨#[]⟩] 94)).drewN k) R) : AnsC E 140 #[Ex.val ⟨op, 0, 0, ⟨#[]⟩, ⟨#[]⟩, some ⟨b, 0, none⟩, 2, 2⟩, .slice A n c] w R := by
  unfold AnsC at *
  have HBA : Hid (Below w.heap.size w ((w.alloc (.cells #[.int .i64 op, .int .i64 0, .int .i64 0, .string ⟨#[]⟩, .string ⟨#[]⟩, .slice (some ⟨b, 0, none⟩) 2 2] 185)).alloc (.cells #[.int .i64 0, .int .i64 0, .string ⟨#[]⟩] 94))) := ((Below.refl _ _).alloc (Nat.le_refl _) _).alloc (by simp) _
  have HZ : Hid (Cel ((w.alloc (.cells #[.int .i64 op, .int .i64 0, .int .i64 0, .string ⟨#[]⟩, .string ⟨#[]⟩, .slice (some ⟨b, 0, none⟩) 2 2] 185)).alloc (.cells #[.int .i64 0, .int .i64 0, .string ⟨#[]⟩] 94)) (w.heap.size + 1) Vl.zero.list) := by
    have := Cel.lit (w.alloc (.cells #[.int .i64 op, .int .i64 0, .int .i64 0, .string ⟨#[]⟩, .string ⟨#[]⟩, .slice (some ⟨b, 0, none⟩) 2 2] 185)) #[.int .i64 0, .int .i64 0, .string ⟨#[]⟩] 94
    rwa [show (w.alloc (.cells #[.int .i64 op, .int .i64 0, .int .i64 0, .string ⟨#[]⟩, .string ⟨#[]⟩, .slice (some ⟨b, 0, none⟩) 2 2] 185)).heap.size = w.heap.size + 1 from by simp] at this
  have HX : Hid (Cel ((w.alloc (.cells #[.int .i64 op, .int .i64 0, .int .i64 0, .string ⟨#[]⟩, .string ⟨#[]⟩, .slice (some ⟨b, 0, none⟩) 2 2] 185)).alloc (.cells #[.int .i64 0, .int .i64 0, .string ⟨#[]⟩] 94)) w.heap.size (Ex.list ⟨op, 0, 0, ⟨#[]⟩, ⟨#[]⟩, some ⟨b, 0, none⟩, 2, 2⟩)) := (Ex.lit w ⟨op, 0, 0, ⟨#[]⟩, ⟨#[]⟩, some ⟨b, 0, none⟩, 2, 2⟩).alloc _
  have HPQ := Lib.hid (eparts_quiet op 2 (by rw [if_neg (by omega), if_pos (by omega)]) ((w.alloc (.cells #[.int .i64 op, .int .i64 0, .int .i64 0, .string ⟨#[]⟩, .string ⟨#[]⟩, .slice (some ⟨b, 0, none⟩) 2 2] 185)).alloc (.cells #[.int .i64 0, .int .i64 0, .string ⟨#[]⟩] 94)))
  have HP := Lib.hid (eparts1 op 2 (by rw [if_neg (by omega), if_pos (by omega)]))
  have e1 : (op == 1) = false := by rw [beq_eq_false_iff_ne]; omega
  have e2 : (op == 2) = false := by rw [beq_eq_false_iff_ne]; omega
  have e3 : (op == 3) = false := by rw [beq_eq_false_iff_ne]; omega
  have e4 : (op == 4) = false := by rw [beq_eq_false_iff_ne]; omega
  clear h6 h16
  have HCC := Lib.hid HC
  clear HC
  unfold Ex.val at *
  dsimp only at *
  go_enter Tryz.func140, Tryz.ntmps140
  go_wp2_with fail
  go_quiet ((go_at_call 148; with_reducible exact HPQ.out _))
  obtain ⟨w0, hw0⟩ : ∃ w0, w0 = ((w.alloc (.cells #[.int .i64 op, .int .i64 0, .int .i64 0, .string ⟨#[]⟩, .string ⟨#[]⟩, .slice (some ⟨b, 0, none⟩) 2 2] 185)).alloc (.cells #[.int .i64 0, .int .i64 0, .string ⟨#[]⟩] 94)).drewN nq := ⟨_, rfl⟩
  rw [← hw0]
  have HB0 : Hid (Below w.heap.size w w0) := hw0 ▸ below_drewN HBA.out nq
  have HZ0 : Hid (Cel w0 (w.heap.size + 1) Vl.zero.list) := hw0 ▸ HZ.out.drewN nq
  have HX0 : Hid (Cel w0 w.heap.size _) := hw0 ▸ HX.out.drewN nq
  obtain ⟨⟨x0, x1, x2, x3, x4, x5⟩, _⟩ := HX0.out.six_of
  dsimp only at x0 x1 x2 x3 x4 x5
  have hlx : w.heap.size < w0.heap.size := HX0.out.lt
  have hlz : w.heap.size + 1 < w0.heap.size := HZ0.out.lt
  have HC0 := HCC.out nq
  rw [← hw0] at HC0
  have HCH := Lib.hid HC0
  clear hw0 HC0 HCC
  go_wp2_with fail
  refine (HP.out _).mono ?_
  rintro r w' ⟨rfl, rfl⟩
  go_wp2_with fail
  refine (HP.out _).mono ?_
  rintro r w' ⟨rfl, rfl⟩
  go_wp2_with fail
  refine HCH.out.mono ?_
  rintro r w5 ⟨⟨e, rfl, hs⟩, hb5⟩
  have HS := Lib.hid hs
  have HB5 := Lib.hid hb5
  clear hs hb5 x0 x1 x2 x3 x4 x5
  have hz1 : Cel w5 (w.heap.size + 1) Vl.zero.list := HZ0.out.below HB5.out (Nat.le_refl _)
  have hbw : Below w.heap.size w w5 := HB0.out.trans (HB5.out.mono HB0.out.size)
  obtain ⟨⟨z0, z1, z2⟩, g0, g1, g2⟩ := hz1.tri_of
  have HFIN := Lib.hid (hz1.tri R.2)
  have HBF := Lib.hid (below_tri (z := w.heap.size + 1) hbw (by omega) R.2)
  clear hz1 hbw
  unfold Vl.val
  go_wp2
  show bodyPost _ _ _ _ _ (tri w5 (w.heap.size + 1) R.2)
  generalize tri w5 (w.heap.size + 1) _ = wf at *
  obtain ⟨⟨k0, k1, k2⟩, _⟩ := HFIN.out.tri_of
  exact bodyPost_ret (v := .tuple #[Vl.val R.2, e]) (by simp [results, Tryz.results140, go_sem, k0, k1, k2, Vl.val]) rfl ⟨⟨_, rfl, HS.out⟩, HBF.out⟩
namespace Co
/-- Are its texts short? -/
def lite : Tr → Bool
  | .leaf _ _ _ txt _ => decide (txt.length ≤ 80)
  | .one _ a => lite a
  | .two _ a b => lite a && lite b
theorem get_small {l : List Vr.V} (hl : ∀ v ∈ l, v.text.size ≤ 80) (s : ByteArray) : (Vr.get l s).1.text.size ≤ 80 := by
  unfold Vr.get
  split
  · dsimp only
    generalize (Vr.idx _ l).toNat = k
    by_cases h : k < l.length
    · rw [getElem!_pos l k h]; exact hl _ (List.getElem_mem h)
    · rw [getElem!_neg l k h]; decide
  · decide
theorem flag_small (b : Bool) : (flag b).txt.size ≤ 80 := by show (⟨#[]⟩ : ByteArray).size ≤ 80; decide
theorem zero_small : Vl.zero.txt.size ≤ 80 := by decide
theorem num_small (n : Int) : (⟨1, n, ⟨#[]⟩⟩ : Vl).txt.size ≤ 80 := by show (⟨#[]⟩ : ByteArray).size ≤ 80; decide
theorem ev_small {l : List Vr.V} (hl : ∀ v ∈ l, v.text.size ≤ 80) : ∀ t : Tr, lite t = true → (ev l t).2.txt.size ≤ 80
  | .leaf op kind num txt name, h => by
    unfold lite at h
    have h' := of_decide_eq_true h
    unfold ev
    split
    · show (⟨txt.toArray⟩ : ByteArray).size ≤ 80
      simpa [ByteArray.size] using h'
    · unfold named
      split
      · exact get_small hl _
      · exact zero_small
  | .one op a, h => by
    unfold ev
    split
    · unfold notR; split
      · exact flag_small _
      · exact zero_small
    · unfold negR; split
      · split
        · exact num_small _
        · exact zero_small
      · exact zero_small
  | .two op a b, h => by
    unfold ev
    split
    · unfold joinR
      split
      · unfold flagR; split
        · exact flag_small _
        · exact zero_small
      · unfold flagR; split
        · exact flag_small _
        · exact zero_small
    · unfold twoR
      split
      · split
        · unfold two
          split
          · unfold same; split
            · exact flag_small _
            · exact zero_small
          · split
            · unfold ordered; split
              · exact flag_small _
              · split
                · exact flag_small _
                · exact zero_small
            · split
              · show (cut _).size ≤ 80
                unfold cut
                simp
                omega
              · split
                · unfold counted
                  repeat' split
                  all_goals first | exact num_small _ | exact zero_small
                · exact zero_small
        · exact zero_small
      · exact zero_small
end Co
/-- What any condition comes to that Parse may tell. -/
theorem eval_any (hE : CoErrsE V E) (hr : VRow V V.heap.size A n l) (hn : n ≤ 9223372036854775807) (hl : ∀ v ∈ l, v.text.size ≤ 80) : ∀ t : Co.Tr, Co.wf t = true → Co.lite t = true → EvalC E V A n c l t
  | .leaf op kind num txt name, h, hlt => by
    intro w N x hb ha
    obtain rfl : x = _ := ha
    simp only [Co.wf, Bool.or_eq_true, beq_iff_eq] at h
    rcases h with rfl | rfl
    · exact eleaf_any _ _ _ _
    · exact edname_any _ _ _ _ _ (fun k => enamed_any hE (below_drewN (hb.trans (((Below.refl _ _).alloc (Nat.le_refl _) _).alloc (by simp) _ |>.mono hb.size)) k) hr hn _)
  | .one op a, h, hlt => by
    intro w N x hb ha
    simp only [Co.wf, Bool.and_eq_true, Bool.or_eq_true, beq_iff_eq] at h
    obtain ⟨b, y, rfl, _, hh, ha⟩ := ha
    have hb2 : ∀ o o2 k, Below V.heap.size V (((w.alloc o).alloc o2).drewN k) := fun o o2 k => below_drewN (hb.trans ((((Below.refl _ _).alloc (Nat.le_refl _) _).alloc (by simp) _).mono hb.size)) k
    have hd : ∀ W : World, ∀ k, Below W.heap.size W (W.drewN k) := fun W k => below_drewN (Below.refl _ _) k
    have hh2 : ∀ o o2 k, (((w.alloc o).alloc o2).drewN k).heap[b]? = w.heap[b]? := fun o o2 k => (((Below.refl w.heap.size w).alloc (Nat.le_refl _) o).alloc (by simp) o2).block b (blk_lt hh)
    have ih := eval_any hE hr hn hl a h.2 hlt
    rcases h.1 with rfl | rfl
    · exact edone5_any b _ (fun k => enot_any hE ih N b y (hb2 _ _ k) ((hh2 _ _ k).trans hh) (((ha.alloc _).alloc _).below (hd _ k) (Nat.le_refl _)))
    · exact edone17_any b _ (fun k => eneg_any hE ih N b y (hb2 _ _ k) ((hh2 _ _ k).trans hh) (((ha.alloc _).alloc _).below (hd _ k) (Nat.le_refl _)))
  | .two op a a2, h, hlt => by
    intro w N x hb ha
    simp only [Co.lite, Bool.and_eq_true] at hlt
    have hs1 := Co.ev_small hl a hlt.1
    have hs2 := Co.ev_small hl a2 hlt.2
    simp only [Co.wf, Bool.and_eq_true, decide_eq_true_eq] at h
    obtain ⟨⟨⟨⟨h3, h16⟩, h5⟩, hwa⟩, hwb⟩ := h
    obtain ⟨b, y, y2, rfl, _, hh, ha, ha2⟩ := ha
    have hb2 : ∀ o o2 k, Below V.heap.size V (((w.alloc o).alloc o2).drewN k) := fun o o2 k => below_drewN (hb.trans ((((Below.refl _ _).alloc (Nat.le_refl _) _).alloc (by simp) _).mono hb.size)) k
    have hd : ∀ W : World, ∀ k, Below W.heap.size W (W.drewN k) := fun W k => below_drewN (Below.refl _ _) k
    have hh2 : ∀ o o2 k, (((w.alloc o).alloc o2).drewN k).heap[b]? = w.heap[b]? := fun o o2 k => (((Below.refl w.heap.size w).alloc (Nat.le_refl _) o).alloc (by simp) o2).block b (blk_lt hh)
    have ih := eval_any hE hr hn hl a hwa hlt.1
    have ih2 := eval_any hE hr hn hl a2 hwb hlt.2
    have h5' : op ≠ 5 := by simpa using h5
    by_cases e3 : op = 3
    · subst e3
      exact edjoin3_any b _ (fun k => ejoinor_any hE ih ih2 N b y y2 (hb2 _ _ k) ((hh2 _ _ k).trans hh) (((ha.alloc _).alloc _).below (hd _ k) (Nat.le_refl _)) (((ha2.alloc _).alloc _).below (hd _ k) (Nat.le_refl _)))
    by_cases e4 : op = 4
    · subst e4
      exact edjoin4_any b _ (fun k => ejoinand_any hE ih ih2 N b y y2 (hb2 _ _ k) ((hh2 _ _ k).trans hh) (((ha.alloc _).alloc _).below (hd _ k) (Nat.le_refl _)) (((ha2.alloc _).alloc _).below (hd _ k) (Nat.le_refl _)))
    have he : Co.ev l (.two op a a2) = Co.twoR op (Co.ev l a) (Co.ev l a2) := if_neg (by omega)
    rw [he]
    exact edtwo_any op (by omega) h16 b _ (fun k => etwo_any hE ih ih2 N op (by omega) h16 b y y2 (hb2 _ _ k) ((hh2 _ _ k).trans hh) (((ha.alloc _).alloc _).below (hd _ k) (Nat.le_refl _)) (((ha2.alloc _).alloc _).below (hd _ k) (Nat.le_refl _)) (by omega))
end
end Go.Proofs.YtkffnfgdmcebdaaGreatDoor
