/- Walks of package cond: what is told of two values. -/
import Derived.Test.YtpjdbccndlbbhaaGreatDoorEa
namespace Go.Proofs.YtpjdbccndlbbhaaGreatDoor
open Go.RowKit

section
variable {E : Int → Option Addr} {V w : World}
set_option maxHeartbeats 800000 in
theorem eboth_any (k : Int) (a b : Vl) (w : World) :
    Calls Tryz.prog 38 #[.int .i64 k, a.val, b.val] w fun r w' => r = .returned (.bool (a.kind == k && b.kind == k)) ∧ Below w.heap.size w w' := by
  obtain ⟨ka, na, ta⟩ := a
  obtain ⟨kb, nb, tb⟩ := b
  unfold Vl.val
  dsimp only
  have hb1 : Below w.heap.size w ((w.alloc (.cells #[.int .i64 ka, .int .i64 na, .string ta] 24)).alloc (.cells #[.int .i64 kb, .int .i64 nb, .string tb] 24)) := ((Below.refl _ _).alloc (Nat.le_refl _) _).alloc (by simp) _
  by_cases h1 : ka = k
  · subst h1
    go_enter Tryz.func38, Tryz.ntmps38
    go_wp2
    go_ret
    exact ⟨by simp, hb1⟩
  · have hI : (ka == k) = false := by rw [beq_eq_false_iff_ne]; exact h1
    rw [hI]
    clear h1
    go_enter Tryz.func38, Tryz.ntmps38
    go_wp2
    go_ret
    exact ⟨by simp, hb1⟩
set_option maxHeartbeats 800000 in
theorem ecut_any (s : ByteArray) (w : World) :
    Calls Tryz.prog 40 #[.string s] w fun r w' => r = .returned (.string (Co.cut s)) ∧ w = w' := by
  unfold Co.cut
  by_cases h : s.size ≤ 60
  · have hI : (s.size : Int) ≤ 60 := by omega
    have hm : (min (s.size : Int) 60).toNat = min s.size 60 := by omega
    have HM := Lib.hid hm
    clear h hm
    go_enter Tryz.func40, Tryz.ntmps40
    go_wp2
    go_ret
    rw [HM.out]
    exact ⟨rfl, rfl⟩
  · have hI : ¬ (s.size : Int) ≤ 60 := by omega
    have hJ : (60 : Int) ≤ (s.size : Int) := by omega
    have hm : (min (s.size : Int) 60).toNat = min s.size 60 := by omega
    have HM := Lib.hid hm
    clear h hm
    go_enter Tryz.func40, Tryz.ntmps40
    go_wp2
    go_ret
    rw [HM.out]
    exact ⟨rfl, rfl⟩
set_option maxHeartbeats 1600000 in
theorem eparts_any (op : Int) (w : World) :
    Calls Tryz.prog 20 #[.int .i64 op] w fun r w' => r = .returned (.int .i64 (if op = 5 ∨ op = 17 then 1 else if 3 ≤ op ∧ op ≤ 16 then 2 else 0)) ∧ w = w' := by
  by_cases h5 : op = 5
  · subst h5
    go_enter Tryz.func20, Tryz.ntmps20
    go_wp2
    go_ret
    exact ⟨rfl, rfl⟩
  by_cases h17 : op = 17
  · subst h17
    go_enter Tryz.func20, Tryz.ntmps20
    go_wp2
    go_ret
    exact ⟨rfl, rfl⟩
  rw [if_neg (by omega)]
  have i5 : (op == 5) = false := by rw [beq_eq_false_iff_ne]; exact h5
  have i17 : (op == 17) = false := by rw [beq_eq_false_iff_ne]; exact h17
  clear h5 h17
  by_cases h : 3 ≤ op ∧ op ≤ 16
  · rw [if_pos h]
    obtain ⟨h3, h16⟩ := h
    go_enter Tryz.func20, Tryz.ntmps20
    go_wp2
    go_ret
    exact ⟨rfl, rfl⟩
  · rw [if_neg h]
    by_cases h3 : 3 ≤ op
    · have h16 : ¬ op ≤ 16 := fun k => h ⟨h3, k⟩
      clear h
      go_enter Tryz.func20, Tryz.ntmps20
      go_wp2
      go_ret
      exact ⟨rfl, rfl⟩
    · clear h
      go_enter Tryz.func20, Tryz.ntmps20
      go_wp2
      go_ret
      exact ⟨rfl, rfl⟩
set_option maxHeartbeats 1600000 in
theorem ecmp_any (a b : Int) (w : World) :
    Calls Tryz.prog 50 #[.int .i64 a, .int .i64 b] w fun r w' => r = .returned (.int .i64 (Co.cmpI a b)) ∧ w = w' := by
  unfold Co.cmpI
  by_cases h : a < b
  · rw [if_pos h]
    go_enter Tryz.func50, Tryz.ntmps50
    go_wp2
    go_ret
    exact ⟨rfl, rfl⟩
  · rw [if_neg h]
    by_cases h2 : b < a
    · rw [if_pos h2]
      go_enter Tryz.func50, Tryz.ntmps50
      go_wp2
      go_ret
      exact ⟨rfl, rfl⟩
    · rw [if_neg h2]
      go_enter Tryz.func50, Tryz.ntmps50
      go_wp2
      go_ret
      exact ⟨rfl, rfl⟩
theorem estrcmp_any (a b : ByteArray) (w : World) :
    Calls Tryz.prog 51 #[.string a, .string b] w fun r w' => r = .returned (.int .i64 (Lib.compareBytes a.data.toList b.data.toList)) ∧ w = w' := by
  have h : Calls Tryz.prog 51 #[.string a, .string b] w fun r w' => r = .returned (.int .i64 (Lib.compareBytes a.data.toList b.data.toList)) ∧ w' = w :=
    Any.strings_Compare shLays106 a b w
  exact h.mono fun r w' h => ⟨h.1, h.2.symm⟩
set_option maxHeartbeats 1600000 in
theorem enamed_any {A : Option Addr} {n c : Nat} {l : List Vr.V} (hE : CoErrs V E) (hb : Below V.heap.size V w) (hr : VRow V V.heap.size A n l) (hn : n ≤ 9223372036854775807) (s : ByteArray) :
    Calls Tryz.prog 21 #[.string s, .slice A n c] w fun r w' => (∃ e, r = .returned (.tuple #[(Co.named l s).2.val, e]) ∧ SeenBy E e (Co.named l s).1) ∧ Below w.heap.size w w' := by
  have hb1 : Below w.heap.size w (w.alloc (.cells #[.int .i64 0, .int .i64 0, .string ⟨#[]⟩] 24)) := (Below.refl _ _).alloc (Nat.le_refl _) _
  have HG := Lib.hid (get_any (w := w.alloc (.cells #[.int .i64 0, .int .i64 0, .string ⟨#[]⟩] 24)) A n c l s ((hr.below (hb.trans (hb1.mono hb.size)) (Nat.le_refl _)).mono (Nat.le_trans hb.size hb1.size)) hn)
  have HZ : Hid (Cel (w.alloc (.cells #[.int .i64 0, .int .i64 0, .string ⟨#[]⟩] 24)) w.heap.size Vl.zero.list) := Cel.lit w #[.int .i64 0, .int .i64 0, .string ⟨#[]⟩] 24
  have hnm : Co.named l s = if (Vr.get l s).2 = true then (0, ⟨(Vr.get l s).1.kind, (Vr.get l s).1.num, (Vr.get l s).1.text⟩) else (108, Vl.zero) := rfl
  unfold getV Vr.V.inner at HG
  generalize Vr.get l s = R at *
  obtain ⟨v, is⟩ := R
  have hgn : 3 ≠ w.heap.size := by
    obtain ⟨_, _, hg⟩ := (hE.below hb).e108
    exact Nat.ne_of_lt (cell_lt hg)
  have HE := Lib.hid hE
  have HB := Lib.hid hb
  have HNM := Lib.hid hnm
  clear hE hb hr hnm
  cases is with
  | true =>
    have HNM2 : Hid (Co.named l s = (0, ⟨v.kind, v.num, v.text⟩)) := HNM.out
    clear HNM
    rw [HNM2.out]
    go_enter Tryz.func21, Tryz.ntmps21
    go_wp2_with fail
    refine HG.out.mono ?_
    rintro x w1 ⟨rfl, hb2⟩
    have HZ1 : Hid (Cel w1 w.heap.size Vl.zero.list) := HZ.out.below hb2 (Nat.le_refl _)
    have hbw : Below w.heap.size w w1 := hb1.trans (hb2.mono hb1.size)
    obtain ⟨⟨z0, z1, z2⟩, g0, g1, g2⟩ := HZ1.out.tri_of
    have hl0 : w.heap.size < w1.heap.size := HZ1.out.lt
    clear hb2
    go_wp2
    show bodyPost _ _ _ _ _ ((tri w1 w.heap.size ⟨v.kind, v.num, v.text⟩).alloc (.cells #[.int .i64 v.kind, .int .i64 v.num, .string v.text] 24))
    have hfin := (HZ1.out.tri ⟨v.kind, v.num, v.text⟩).alloc (.cells #[.int .i64 v.kind, .int .i64 v.num, .string v.text] 24)
    have hbf := (below_tri hbw (Nat.le_refl _) ⟨v.kind, v.num, v.text⟩).alloc (by simp [tri]; omega) (.cells #[.int .i64 v.kind, .int .i64 v.num, .string v.text] 24)
    generalize (tri w1 w.heap.size _).alloc _ = wf at *
    obtain ⟨⟨k0, k1, k2⟩, _⟩ := hfin.tri_of
    exact bodyPost_ret (v := .tuple #[Vl.val ⟨v.kind, v.num, v.text⟩, .nilIface]) (by simp [results, Tryz.results21, go_sem, k0, k1, k2, Vl.val]) rfl ⟨⟨_, rfl, .nil⟩, hbf⟩
  | false =>
    have HNM2 : Hid (Co.named l s = (108, Vl.zero)) := HNM.out
    clear HNM
    rw [HNM2.out]
    go_enter Tryz.func21, Tryz.ntmps21
    go_wp2_with fail
    refine HG.out.mono ?_
    rintro x w1 ⟨rfl, hb2⟩
    have HZ1 : Hid (Cel w1 w.heap.size Vl.zero.list) := HZ.out.below hb2 (Nat.le_refl _)
    have hbw : Below w.heap.size w w1 := hb1.trans (hb2.mono hb1.size)
    obtain ⟨⟨z0, z1, z2⟩, g0, g1, g2⟩ := HZ1.out.tri_of
    have hl0 : w.heap.size < w1.heap.size := HZ1.out.lt
    obtain ⟨a, hka, hg⟩ := (HE.out.below (HB.out.trans (hbw.mono HB.out.size))).e108
    have hgl := cell_lt hg
    unfold errV at hg
    clear hb2
    go_wp2_with fail
    go_region
    go_wp2
    show bodyPost _ _ _ _ _ ((tri w1 w.heap.size Vl.zero).alloc (.cells #[.int .i64 v.kind, .int .i64 v.num, .string v.text] 24)).drew
    have hfin : Cel ((tri w1 w.heap.size Vl.zero).alloc (.cells #[.int .i64 v.kind, .int .i64 v.num, .string v.text] 24)).drew w.heap.size Vl.zero.list := ((HZ1.out.tri Vl.zero).alloc (.cells #[.int .i64 v.kind, .int .i64 v.num, .string v.text] 24)).drewN 1
    have hbf := ((below_tri hbw (Nat.le_refl _) Vl.zero).alloc (by simp [tri]; omega) (.cells #[.int .i64 v.kind, .int .i64 v.num, .string v.text] 24)).drew
    generalize ((tri w1 w.heap.size _).alloc _).drew = wf at *
    obtain ⟨⟨k0, k1, k2⟩, _⟩ := hfin.tri_of
    exact bodyPost_ret (v := .tuple #[Vl.val Vl.zero, errV a]) (by simp [results, Tryz.results21, go_sem, k0, k1, k2, Vl.val, errV]) rfl ⟨⟨_, rfl, .err 108 a hka (by decide)⟩, hbf⟩
end
end Go.Proofs.YtpjdbccndlbbhaaGreatDoor
