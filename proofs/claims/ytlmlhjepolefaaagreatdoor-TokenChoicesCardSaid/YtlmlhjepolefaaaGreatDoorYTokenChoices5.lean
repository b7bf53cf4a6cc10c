/- Package cond in memory: values. Walks of package cond: what is told of two values. Mathematics of package cond: what the texts of the walks are as conditions. -/
import Derived.Test.YtlmlhjepolefaaaGreatDoorCjY
import Derived.Test.YtlmlhjepolefaaaGreatDoorYTokenChoices12
import Derived.Test.YtlmlhjepolefaaaGreatDoorYTokenChoices14
namespace Go.Proofs.YtlmlhjepolefaaaGreatDoor
open Go.RowKit


section
variable {w : World} {z : Nat}
/-- A value's cells are written. -/
def tri (w : World) (z : Nat) (v : Vl) : World := ((w.setCell ⟨z, 0, none⟩ (.int .i64 v.kind)).setCell ⟨z, 1, none⟩ (.int .i64 v.num)).setCell ⟨z, 2, none⟩ (.string v.txt)
theorem tri_grown (w : World) (z : Nat) (v : Vl) : w.grownBy (tri w z v) (some z) := set_grown (set_grown (set_grown (World.grownBy.refl _ _) 0 _) 1 _) 2 _
theorem Cel.tri {u : Vl} (h : Cel w z u.list) (v : Vl) : Cel (tri w z v) z v.list :=
  ((h.set (i := 0) (by simp [Vl.list]) _).set (i := 1) (by simp [Vl.list]) _).set (i := 2) (by simp [Vl.list]) _
theorem Cel.tri_of {u : Vl} (h : Cel w z u.list) : (w.cell? ⟨z, 0, none⟩ = some (.int .i64 u.kind) ∧ w.cell? ⟨z, 1, none⟩ = some (.int .i64 u.num) ∧ w.cell? ⟨z, 2, none⟩ = some (.string u.txt)) ∧
    (w.frozen? ⟨z, 0, none⟩ = false ∧ w.frozen? ⟨z, 1, none⟩ = false ∧ w.frozen? ⟨z, 2, none⟩ = false) :=
  ⟨⟨h.cell 0 _ rfl, h.cell 1 _ rfl, h.cell 2 _ rfl⟩, h.froz 0 (by simp [Vl.list]), h.froz 1 (by simp [Vl.list]), h.froz 2 (by simp [Vl.list])⟩
theorem below_tri {B : Nat} {a w : World} (h : Below B a w) {z : Nat} (hz : B ≤ z) (v : Vl) : Below B a (tri w z v) := ((h.setCell hz _).setCell hz _).setCell hz _
end

theorem eflag_any (b : Bool) (w : World) :
    Calls Tryz.prog 79 #[.bool b] w fun e w' => e = .returned (.agg #[.int .i64 2, .int .i64 (Co.bn b), .string ⟨#[]⟩]) ∧ Below w.heap.size w w' := vflag_any b w
section
variable {E : Int → Option Addr} {V w : World}
set_option maxHeartbeats 800000 in
theorem etruth_any (hE : CoErrsE V E) (hb : Below V.heap.size V w) (v : Vl) :
    Calls Tryz.prog 65 #[v.val] w fun r w' => (∃ e, r = .returned (.tuple #[.bool (Co.truth v).2, e]) ∧ SeenBy E e (Co.truth v).1) ∧ Below w.heap.size w w' := by
  obtain ⟨k, n, t⟩ := v
  unfold Vl.val Co.truth
  dsimp only
  have hb1 : Below w.heap.size w (w.alloc (.cells #[.int .i64 k, .int .i64 n, .string t] 50)) := (Below.refl _ _).alloc (Nat.le_refl _) _
  by_cases hk : k = 2
  · subst hk
    rw [if_pos rfl]
    clear hE hb
    go_enter Tryz.func65, Tryz.ntmps65
    go_wp2
    go_ret2
    exact ⟨⟨_, rfl, .nil⟩, hb1⟩
  · rw [if_neg hk]
    have hkI : (k == 2) = false := by rw [beq_eq_false_iff_ne]; exact hk
    obtain ⟨a, hka, hg⟩ := (hE.below hb).e110
    have hgl := cell_lt hg
    unfold errV at hg
    clear hE hb hk
    go_enter Tryz.func65, Tryz.ntmps65
    go_wp2_with fail
    go_quiet (fail)
    go_wp2
    go_ret2
    exact ⟨⟨_, rfl, .err 110 a hka (by decide)⟩, below_drewN hb1 _⟩
end
end Go.Proofs.YtlmlhjepolefaaaGreatDoor
namespace Go.Proofs.YtlmlhjepolefaaaGreatDoor
open Go.RowKit

section
variable {E : Int → Option Addr} {V w : World}
set_option maxHeartbeats 800000 in
theorem eboth_any (k : Int) (a b : Vl) (w : World) :
    Calls Tryz.prog 83 #[.int .i64 k, a.val, b.val] w fun r w' => r = .returned (.bool (a.kind == k && b.kind == k)) ∧ Below w.heap.size w w' := by
  obtain ⟨ka, na, ta⟩ := a
  obtain ⟨kb, nb, tb⟩ := b
  unfold Vl.val
  dsimp only
  have hb1 : Below w.heap.size w ((w.alloc (.cells #[.int .i64 ka, .int .i64 na, .string ta] 50)).alloc (.cells #[.int .i64 kb, .int .i64 nb, .string tb] 50)) := ((Below.refl _ _).alloc (Nat.le_refl _) _).alloc (by simp) _
  by_cases h1 : ka = k
  · subst h1
    go_enter Tryz.func83, Tryz.ntmps83
    go_wp2
    go_ret
    exact ⟨by simp, hb1⟩
  · have hI : (ka == k) = false := by rw [beq_eq_false_iff_ne]; exact h1
    rw [hI]
    clear h1
    go_enter Tryz.func83, Tryz.ntmps83
    go_wp2
    go_ret
    exact ⟨by simp, hb1⟩
set_option maxHeartbeats 800000 in
theorem ecut_any (s : ByteArray) (w : World) :
    Calls Tryz.prog 85 #[.string s] w fun r w' => r = .returned (.string (Co.cut s)) ∧ w = w' := by
  unfold Co.cut
  by_cases h : s.size ≤ 60
  · have hI : (s.size : Int) ≤ 60 := by omega
    have hm : (min (s.size : Int) 60).toNat = min s.size 60 := by omega
    have HM := Lib.hid hm
    clear h hm
    go_enter Tryz.func85, Tryz.ntmps85
    go_wp2
    go_ret
    rw [HM.out]
    exact ⟨rfl, rfl⟩
  · have hI : ¬ (s.size : Int) ≤ 60 := by omega
    have hJ : (60 : Int) ≤ (s.size : Int) := by omega
    have hm : (min (s.size : Int) 60).toNat = min s.size 60 := by omega
    have HM := Lib.hid hm
    clear h hm
    go_enter Tryz.func85, Tryz.ntmps85
    go_wp2
    go_ret
    rw [HM.out]
    exact ⟨rfl, rfl⟩
set_option maxHeartbeats 1600000 in
theorem eparts_any (op : Int) (w : World) :
    Calls Tryz.prog 69 #[.int .i64 op] w fun r w' => r = .returned (.int .i64 (if op = 5 ∨ op = 17 then 1 else if 3 ≤ op ∧ op ≤ 16 then 2 else 0)) ∧ w = w' := by
  by_cases h5 : op = 5
  · subst h5
    go_enter Tryz.func69, Tryz.ntmps69
    go_wp2
    go_ret
    exact ⟨rfl, rfl⟩
  by_cases h17 : op = 17
  · subst h17
    go_enter Tryz.func69, Tryz.ntmps69
    go_wp2
    go_ret
    exact ⟨rfl, rfl⟩
  rw [if_neg (by omega)]
  have i5 : (op == 5) = false := by rw [beq_eq_false_iff_ne]; exact h5
  have i17 : (op == 17) = false := by rw [beq_eq_false_iff_ne]; exact h17
  clear h5 h17
  by_cases h : 3 ≤ op ∧ op ≤ 16
  · rw [if_pos h]
    obtain ⟨h3, h16⟩ := h
    go_enter Tryz.func69, Tryz.ntmps69
    go_wp2
    go_ret
    exact ⟨rfl, rfl⟩
  · rw [if_neg h]
    by_cases h3 : 3 ≤ op
    · have h16 : ¬ op ≤ 16 := fun k => h ⟨h3, k⟩
      clear h
      go_enter Tryz.func69, Tryz.ntmps69
      go_wp2
      go_ret
      exact ⟨rfl, rfl⟩
    · clear h
      go_enter Tryz.func69, Tryz.ntmps69
      go_wp2
      go_ret
      exact ⟨rfl, rfl⟩
set_option maxHeartbeats 1600000 in
theorem ecmp_any (a b : Int) (w : World) :
    Calls Tryz.prog 94 #[.int .i64 a, .int .i64 b] w fun r w' => r = .returned (.int .i64 (Co.cmpI a b)) ∧ w = w' := by
  unfold Co.cmpI
  by_cases h : a < b
  · rw [if_pos h]
    go_enter Tryz.func94, Tryz.ntmps94
    go_wp2
    go_ret
    exact ⟨rfl, rfl⟩
  · rw [if_neg h]
    by_cases h2 : b < a
    · rw [if_pos h2]
      go_enter Tryz.func94, Tryz.ntmps94
      go_wp2
      go_ret
      exact ⟨rfl, rfl⟩
    · rw [if_neg h2]
      go_enter Tryz.func94, Tryz.ntmps94
      go_wp2
      go_ret
      exact ⟨rfl, rfl⟩
theorem estrcmp_any (a b : ByteArray) (w : World) :
    Calls Tryz.prog 95 #[.string a, .string b] w fun r w' => r = .returned (.int .i64 (Lib.compareBytes a.data.toList b.data.toList)) ∧ w = w' := by
  have h : Calls Tryz.prog 95 #[.string a, .string b] w fun r w' => r = .returned (.int .i64 (Lib.compareBytes a.data.toList b.data.toList)) ∧ w' = w :=
    Any.strings_Compare shLays106 a b w
  exact h.mono fun r w' h => ⟨h.1, h.2.symm⟩
set_option maxHeartbeats 1600000 in
theorem enamed_any {A : Option Addr} {n c : Nat} {l : List Vr.V} (hE : CoErrsE V E) (hb : Below V.heap.size V w) (hr : VRow V V.heap.size A n l) (hn : n ≤ 9223372036854775807) (s : ByteArray) :
    Calls Tryz.prog 70 #[.string s, .slice A n c] w fun r w' => (∃ e, r = .returned (.tuple #[(Co.named l s).2.val, e]) ∧ SeenBy E e (Co.named l s).1) ∧ Below w.heap.size w w' := by
  have hb1 : Below w.heap.size w (w.alloc (.cells #[.int .i64 0, .int .i64 0, .string ⟨#[]⟩] 50)) := (Below.refl _ _).alloc (Nat.le_refl _) _
  have HG := Lib.hid (get_any (w := w.alloc (.cells #[.int .i64 0, .int .i64 0, .string ⟨#[]⟩] 50)) A n c l s ((hr.below (hb.trans (hb1.mono hb.size)) (Nat.le_refl _)).mono (Nat.le_trans hb.size hb1.size)) hn)
  have HZ : Hid (Cel (w.alloc (.cells #[.int .i64 0, .int .i64 0, .string ⟨#[]⟩] 50)) w.heap.size Vl.zero.list) := Cel.lit w #[.int .i64 0, .int .i64 0, .string ⟨#[]⟩] 50
  have hnm : Co.named l s = if (Vr.get l s).2 = true then (0, ⟨(Vr.get l s).1.kind, (Vr.get l s).1.num, (Vr.get l s).1.text⟩) else (108, Vl.zero) := rfl
  unfold getV Vr.V.inner at HG
  generalize Vr.get l s = R at *
  obtain ⟨v, is⟩ := R
  have hgn : 8 ≠ w.heap.size := by
    obtain ⟨_, _, hg⟩ := (hE.below hb).e108
    exact Nat.ne_of_lt (cell_lt hg)
  have HE := Lib.hid hE
  have HB := Lib.hid hb
  have HNM := Lib.hid hnm
  clear hE hb hr hnm
  cases is with
  | true =>
    have HNM2 : Hid (Co.named l s = (0, ⟨v.kind, v.num, v.text⟩)) := HNM.out
    clear HNM
    rw [HNM2.out]
    go_enter Tryz.func70, Tryz.ntmps70
    go_wp2_with fail
    refine HG.out.mono ?_
    rintro x w1 ⟨rfl, hb2⟩
    have HZ1 : Hid (Cel w1 w.heap.size Vl.zero.list) := HZ.out.below hb2 (Nat.le_refl _)
    have hbw : Below w.heap.size w w1 := hb1.trans (hb2.mono hb1.size)
    obtain ⟨⟨z0, z1, z2⟩, g0, g1, g2⟩ := HZ1.out.tri_of
    have hl0 : w.heap.size < w1.heap.size := HZ1.out.lt
    clear hb2
    go_wp2
    show bodyPost _ _ _ _ _ ((tri w1 w.heap.size ⟨v.kind, v.num, v.text⟩).alloc (.cells #[.int .i64 v.kind, .int .i64 v.num, .string v.text] 50))
    have hfin := (HZ1.out.tri ⟨v.kind, v.num, v.text⟩).alloc (.cells #[.int .i64 v.kind, .int .i64 v.num, .string v.text] 50)
    have hbf := (below_tri hbw (Nat.le_refl _) ⟨v.kind, v.num, v.text⟩).alloc (by simp [tri]; omega) (.cells #[.int .i64 v.kind, .int .i64 v.num, .string v.text] 50)
    generalize (tri w1 w.heap.size _).alloc _ = wf at *
    obtain ⟨⟨k0, k1, k2⟩, _⟩ := hfin.tri_of
    exact bodyPost_ret (v := .tuple #[Vl.val ⟨v.kind, v.num, v.text⟩, .nilIface]) (by simp [results, Tryz.results70, go_sem, k0, k1, k2, Vl.val]) rfl ⟨⟨_, rfl, .nil⟩, hbf⟩
  | false =>
    have HNM2 : Hid (Co.named l s = (108, Vl.zero)) := HNM.out
    clear HNM
    rw [HNM2.out]
    go_enter Tryz.func70, Tryz.ntmps70
    go_wp2_with fail
    refine HG.out.mono ?_
    rintro x w1 ⟨rfl, hb2⟩
    have HZ1 : Hid (Cel w1 w.heap.size Vl.zero.list) := HZ.out.below hb2 (Nat.le_refl _)
    have hbw : Below w.heap.size w w1 := hb1.trans (hb2.mono hb1.size)
    obtain ⟨⟨z0, z1, z2⟩, g0, g1, g2⟩ := HZ1.out.tri_of
    have hl0 : w.heap.size < w1.heap.size := HZ1.out.lt
    obtain ⟨a, hka, hg⟩ := (HE.out.below (HB.out.trans (hbw.mono HB.out.size))).e108
    have hgl := cell_lt hg
    unfold errV at hg
    clear hb2
    go_wp2_with fail
    go_region
    go_wp2
    show bodyPost _ _ _ _ _ ((tri w1 w.heap.size Vl.zero).alloc (.cells #[.int .i64 v.kind, .int .i64 v.num, .string v.text] 50)).drew
    have hfin : Cel ((tri w1 w.heap.size Vl.zero).alloc (.cells #[.int .i64 v.kind, .int .i64 v.num, .string v.text] 50)).drew w.heap.size Vl.zero.list := ((HZ1.out.tri Vl.zero).alloc (.cells #[.int .i64 v.kind, .int .i64 v.num, .string v.text] 50)).drewN 1
    have hbf := ((below_tri hbw (Nat.le_refl _) Vl.zero).alloc (by simp [tri]; omega) (.cells #[.int .i64 v.kind, .int .i64 v.num, .string v.text] 50)).drew
    generalize ((tri w1 w.heap.size _).alloc _).drew = wf at *
    obtain ⟨⟨k0, k1, k2⟩, _⟩ := hfin.tri_of
    exact bodyPost_ret (v := .tuple #[Vl.val Vl.zero, errV a]) (by simp [results, Tryz.results70, go_sem, k0, k1, k2, Vl.val, errV]) rfl ⟨⟨_, rfl, .err 108 a hka (by decide)⟩, hbf⟩
end
end Go.Proofs.YtlmlhjepolefaaaGreatDoor
namespace Go.Proofs.YtlmlhjepolefaaaGreatDoor
open Go.RowKit

namespace Co
/-- A text of a walk, and its condition. -/
structure Tx where
  s : List UInt8
  t : Tr
instance : Inhabited Tx := ⟨⟨[], .none⟩⟩
def Tx.ok (x : Tx) : Prop := parse x.s = some (x.t, .none)
def txB0 : Tx := ⟨[112, 32, 111, 114, 32, 113], (.two 3 (.leaf 2 0 0 [] [112]) (.leaf 2 0 0 [] [113]))⟩
theorem txB0_ok : txB0.ok := by unfold Tx.ok; kernel_rfl
def txB1 : Tx := ⟨[112, 32, 97, 110, 100, 32, 113], (.two 4 (.leaf 2 0 0 [] [112]) (.leaf 2 0 0 [] [113]))⟩
theorem txB1_ok : txB1.ok := by unfold Tx.ok; kernel_rfl
def txB2 : Tx := ⟨[110, 111, 116, 32, 112], (.one 5 (.leaf 2 0 0 [] [112]))⟩
theorem txB2_ok : txB2.ok := by unfold Tx.ok; kernel_rfl
def txB3 : Tx := ⟨[112, 32, 61, 61, 32, 113], (.two 6 (.leaf 2 0 0 [] [112]) (.leaf 2 0 0 [] [113]))⟩
theorem txB3_ok : txB3.ok := by unfold Tx.ok; kernel_rfl
def txB4 : Tx := ⟨[112, 32, 33, 61, 32, 113], (.two 7 (.leaf 2 0 0 [] [112]) (.leaf 2 0 0 [] [113]))⟩
theorem txB4_ok : txB4.ok := by unfold Tx.ok; kernel_rfl
def txB5 : Tx := ⟨[97, 32, 60, 32, 98], (.two 8 (.leaf 2 0 0 [] [97]) (.leaf 2 0 0 [] [98]))⟩
theorem txB5_ok : txB5.ok := by unfold Tx.ok; kernel_rfl
def txB6 : Tx := ⟨[97, 32, 60, 61, 32, 98], (.two 9 (.leaf 2 0 0 [] [97]) (.leaf 2 0 0 [] [98]))⟩
theorem txB6_ok : txB6.ok := by unfold Tx.ok; kernel_rfl
def txB7 : Tx := ⟨[97, 32, 62, 32, 98], (.two 10 (.leaf 2 0 0 [] [97]) (.leaf 2 0 0 [] [98]))⟩
theorem txB7_ok : txB7.ok := by unfold Tx.ok; kernel_rfl
def txB8 : Tx := ⟨[97, 32, 62, 61, 32, 98], (.two 11 (.leaf 2 0 0 [] [97]) (.leaf 2 0 0 [] [98]))⟩
theorem txB8_ok : txB8.ok := by unfold Tx.ok; kernel_rfl
def txB9 : Tx := ⟨[97, 32, 61, 61, 32, 98], (.two 6 (.leaf 2 0 0 [] [97]) (.leaf 2 0 0 [] [98]))⟩
theorem txB9_ok : txB9.ok := by unfold Tx.ok; kernel_rfl
def txB10 : Tx := ⟨[97, 32, 33, 61, 32, 98], (.two 7 (.leaf 2 0 0 [] [97]) (.leaf 2 0 0 [] [98]))⟩
theorem txB10_ok : txB10.ok := by unfold Tx.ok; kernel_rfl
def txB13 : Tx := ⟨[97, 32, 60, 32, 98, 32, 111, 114, 32, 97, 32, 61, 61, 32, 98, 32, 111, 114, 32, 97, 32, 62, 32, 98], (.two 3 (.two 3 (.two 8 (.leaf 2 0 0 [] [97]) (.leaf 2 0 0 [] [98])) (.two 6 (.leaf 2 0 0 [] [97]) (.leaf 2 0 0 [] [98]))) (.two 10 (.leaf 2 0 0 [] [97]) (.leaf 2 0 0 [] [98])))⟩
theorem txB13_ok : txB13.ok := by unfold Tx.ok; kernel_rfl
def txBl : Tx := ⟨[40, 110, 111, 116, 32, 40, 112, 32, 97, 110, 100, 32, 113, 41, 41, 32, 61, 61, 32, 40, 110, 111, 116, 32, 112, 32, 111, 114, 32, 110, 111, 116, 32, 113, 41], (.two 6 (.one 5 (.two 4 (.leaf 2 0 0 [] [112]) (.leaf 2 0 0 [] [113]))) (.two 3 (.one 5 (.leaf 2 0 0 [] [112])) (.one 5 (.leaf 2 0 0 [] [113]))))⟩
theorem txBl_ok : txBl.ok := by unfold Tx.ok; kernel_rfl
def txF : Tx := ⟨[49, 32, 60, 32, 50, 32, 97, 110, 100, 32, 110, 111, 116, 32, 102, 97, 108, 115, 101], (.two 4 (.two 8 (.leaf 1 1 1 [] []) (.leaf 1 1 2 [] [])) (.one 5 (.leaf 1 2 0 [] [])))⟩
theorem txF_ok : txF.ok := by unfold Tx.ok; kernel_rfl
def txN0 : Tx := ⟨[97, 32, 43, 32, 98, 32, 42, 32, 99], (.two 12 (.leaf 2 0 0 [] [97]) (.two 14 (.leaf 2 0 0 [] [98]) (.leaf 2 0 0 [] [99])))⟩
theorem txN0_ok : txN0.ok := by unfold Tx.ok; kernel_rfl
def txN1 : Tx := ⟨[97, 32, 45, 32, 98, 32, 45, 32, 99], (.two 13 (.two 13 (.leaf 2 0 0 [] [97]) (.leaf 2 0 0 [] [98])) (.leaf 2 0 0 [] [99]))⟩
theorem txN1_ok : txN1.ok := by unfold Tx.ok; kernel_rfl
def txN2 : Tx := ⟨[40, 97, 32, 43, 32, 98, 41, 32, 42, 32, 99], (.two 14 (.two 12 (.leaf 2 0 0 [] [97]) (.leaf 2 0 0 [] [98])) (.leaf 2 0 0 [] [99]))⟩
theorem txN2_ok : txN2.ok := by unfold Tx.ok; kernel_rfl
def txN3 : Tx := ⟨[45, 97], (.one 17 (.leaf 2 0 0 [] [97]))⟩
theorem txN3_ok : txN3.ok := by unfold Tx.ok; kernel_rfl
def txN4 : Tx := ⟨[97, 32, 42, 32, 45, 98], (.two 14 (.leaf 2 0 0 [] [97]) (.one 17 (.leaf 2 0 0 [] [98])))⟩
theorem txN4_ok : txN4.ok := by unfold Tx.ok; kernel_rfl
def txNl : Tx := ⟨[97, 32, 47, 32, 98, 32, 42, 32, 98, 32, 43, 32, 97, 32, 37, 32, 98, 32, 61, 61, 32, 97], (.two 6 (.two 12 (.two 14 (.two 15 (.leaf 2 0 0 [] [97]) (.leaf 2 0 0 [] [98])) (.leaf 2 0 0 [] [98])) (.two 16 (.leaf 2 0 0 [] [97]) (.leaf 2 0 0 [] [98]))) (.leaf 2 0 0 [] [97]))⟩
theorem txNl_ok : txNl.ok := by unfold Tx.ok; kernel_rfl
def txZo0 : Tx := ⟨[112, 32, 111, 114, 32, 120], (.two 3 (.leaf 2 0 0 [] [112]) (.leaf 2 0 0 [] [120]))⟩
theorem txZo0_ok : txZo0.ok := by unfold Tx.ok; kernel_rfl
def txZa0 : Tx := ⟨[112, 32, 97, 110, 100, 32, 120], (.two 4 (.leaf 2 0 0 [] [112]) (.leaf 2 0 0 [] [120]))⟩
theorem txZa0_ok : txZa0.ok := by unfold Tx.ok; kernel_rfl
def txZb0 : Tx := ⟨[120, 32, 111, 114, 32, 112], (.two 3 (.leaf 2 0 0 [] [120]) (.leaf 2 0 0 [] [112]))⟩
theorem txZb0_ok : txZb0.ok := by unfold Tx.ok; kernel_rfl
def txZo1 : Tx := ⟨[112, 32, 111, 114, 32, 49, 32, 47, 32, 48, 32, 61, 61, 32, 49], (.two 3 (.leaf 2 0 0 [] [112]) (.two 6 (.two 15 (.leaf 1 1 1 [] []) (.leaf 1 1 0 [] [])) (.leaf 1 1 1 [] [])))⟩
theorem txZo1_ok : txZo1.ok := by unfold Tx.ok; kernel_rfl
def txZa1 : Tx := ⟨[112, 32, 97, 110, 100, 32, 49, 32, 47, 32, 48, 32, 61, 61, 32, 49], (.two 4 (.leaf 2 0 0 [] [112]) (.two 6 (.two 15 (.leaf 1 1 1 [] []) (.leaf 1 1 0 [] [])) (.leaf 1 1 1 [] [])))⟩
theorem txZa1_ok : txZa1.ok := by unfold Tx.ok; kernel_rfl
def txZb1 : Tx := ⟨[49, 32, 47, 32, 48, 32, 61, 61, 32, 49, 32, 111, 114, 32, 112], (.two 3 (.two 6 (.two 15 (.leaf 1 1 1 [] []) (.leaf 1 1 0 [] [])) (.leaf 1 1 1 [] [])) (.leaf 2 0 0 [] [112]))⟩
theorem txZb1_ok : txZb1.ok := by unfold Tx.ok; kernel_rfl
def txZo2 : Tx := ⟨[112, 32, 111, 114, 32, 49], (.two 3 (.leaf 2 0 0 [] [112]) (.leaf 1 1 1 [] []))⟩
theorem txZo2_ok : txZo2.ok := by unfold Tx.ok; kernel_rfl
def txZa2 : Tx := ⟨[112, 32, 97, 110, 100, 32, 49], (.two 4 (.leaf 2 0 0 [] [112]) (.leaf 1 1 1 [] []))⟩
theorem txZa2_ok : txZa2.ok := by unfold Tx.ok; kernel_rfl
def txZb2 : Tx := ⟨[49, 32, 111, 114, 32, 112], (.two 3 (.leaf 1 1 1 [] []) (.leaf 2 0 0 [] [112]))⟩
theorem txZb2_ok : txZb2.ok := by unfold Tx.ok; kernel_rfl
def txZo3 : Tx := ⟨[112, 32, 111, 114, 32, 110, 111, 116, 32, 49], (.two 3 (.leaf 2 0 0 [] [112]) (.one 5 (.leaf 1 1 1 [] [])))⟩
theorem txZo3_ok : txZo3.ok := by unfold Tx.ok; kernel_rfl
def txZa3 : Tx := ⟨[112, 32, 97, 110, 100, 32, 110, 111, 116, 32, 49], (.two 4 (.leaf 2 0 0 [] [112]) (.one 5 (.leaf 1 1 1 [] [])))⟩
theorem txZa3_ok : txZa3.ok := by unfold Tx.ok; kernel_rfl
def txZb3 : Tx := ⟨[110, 111, 116, 32, 49, 32, 111, 114, 32, 112], (.two 3 (.one 5 (.leaf 1 1 1 [] [])) (.leaf 2 0 0 [] [112]))⟩
theorem txZb3_ok : txZb3.ok := by unfold Tx.ok; kernel_rfl
def txZo4 : Tx := ⟨[112, 32, 111, 114, 32, 34, 97, 34, 32, 60, 32, 49], (.two 3 (.leaf 2 0 0 [] [112]) (.two 8 (.leaf 1 3 0 [97] []) (.leaf 1 1 1 [] [])))⟩
theorem txZo4_ok : txZo4.ok := by unfold Tx.ok; kernel_rfl
def txZa4 : Tx := ⟨[112, 32, 97, 110, 100, 32, 34, 97, 34, 32, 60, 32, 49], (.two 4 (.leaf 2 0 0 [] [112]) (.two 8 (.leaf 1 3 0 [97] []) (.leaf 1 1 1 [] [])))⟩
theorem txZa4_ok : txZa4.ok := by unfold Tx.ok; kernel_rfl
def txZb4 : Tx := ⟨[34, 97, 34, 32, 60, 32, 49, 32, 111, 114, 32, 112], (.two 3 (.two 8 (.leaf 1 3 0 [97] []) (.leaf 1 1 1 [] [])) (.leaf 2 0 0 [] [112]))⟩
theorem txZb4_ok : txZb4.ok := by unfold Tx.ok; kernel_rfl
def txT0 : Tx := ⟨[97, 32, 61, 61, 32, 98], (.two 6 (.leaf 2 0 0 [] [97]) (.leaf 2 0 0 [] [98]))⟩
theorem txT0_ok : txT0.ok := by unfold Tx.ok; kernel_rfl
def txT1 : Tx := ⟨[97, 32, 33, 61, 32, 98], (.two 7 (.leaf 2 0 0 [] [97]) (.leaf 2 0 0 [] [98]))⟩
theorem txT1_ok : txT1.ok := by unfold Tx.ok; kernel_rfl
def txT2 : Tx := ⟨[97, 32, 60, 32, 98], (.two 8 (.leaf 2 0 0 [] [97]) (.leaf 2 0 0 [] [98]))⟩
theorem txT2_ok : txT2.ok := by unfold Tx.ok; kernel_rfl
def txT3 : Tx := ⟨[97, 32, 60, 61, 32, 98], (.two 9 (.leaf 2 0 0 [] [97]) (.leaf 2 0 0 [] [98]))⟩
theorem txT3_ok : txT3.ok := by unfold Tx.ok; kernel_rfl
def txT4 : Tx := ⟨[97, 32, 62, 32, 98], (.two 10 (.leaf 2 0 0 [] [97]) (.leaf 2 0 0 [] [98]))⟩
theorem txT4_ok : txT4.ok := by unfold Tx.ok; kernel_rfl
def txT5 : Tx := ⟨[97, 32, 62, 61, 32, 98], (.two 11 (.leaf 2 0 0 [] [97]) (.leaf 2 0 0 [] [98]))⟩
theorem txT5_ok : txT5.ok := by unfold Tx.ok; kernel_rfl
def txX0 : Tx := ⟨[97, 32, 61, 61, 32, 110], (.two 6 (.leaf 2 0 0 [] [97]) (.leaf 2 0 0 [] [110]))⟩
theorem txX0_ok : txX0.ok := by unfold Tx.ok; kernel_rfl
def txX1 : Tx := ⟨[110, 32, 60, 32, 112], (.two 8 (.leaf 2 0 0 [] [110]) (.leaf 2 0 0 [] [112]))⟩
theorem txX1_ok : txX1.ok := by unfold Tx.ok; kernel_rfl
def txX2 : Tx := ⟨[112, 32, 60, 32, 112], (.two 8 (.leaf 2 0 0 [] [112]) (.leaf 2 0 0 [] [112]))⟩
theorem txX2_ok : txX2.ok := by unfold Tx.ok; kernel_rfl
def txX3 : Tx := ⟨[97, 32, 45, 32, 98], (.two 13 (.leaf 2 0 0 [] [97]) (.leaf 2 0 0 [] [98]))⟩
theorem txX3_ok : txX3.ok := by unfold Tx.ok; kernel_rfl
def txX4 : Tx := ⟨[110, 111, 116, 32, 97], (.one 5 (.leaf 2 0 0 [] [97]))⟩
theorem txX4_ok : txX4.ok := by unfold Tx.ok; kernel_rfl
def txX5 : Tx := ⟨[110, 32, 97, 110, 100, 32, 112], (.two 4 (.leaf 2 0 0 [] [110]) (.leaf 2 0 0 [] [112]))⟩
theorem txX5_ok : txX5.ok := by unfold Tx.ok; kernel_rfl
def txX6 : Tx := ⟨[112, 32, 43, 32, 112], (.two 12 (.leaf 2 0 0 [] [112]) (.leaf 2 0 0 [] [112]))⟩
theorem txX6_ok : txX6.ok := by unfold Tx.ok; kernel_rfl
def txX7 : Tx := ⟨[45, 97], (.one 17 (.leaf 2 0 0 [] [97]))⟩
theorem txX7_ok : txX7.ok := by unfold Tx.ok; kernel_rfl
def txTl : Tx := ⟨[97, 32, 43, 32, 98], (.two 12 (.leaf 2 0 0 [] [97]) (.leaf 2 0 0 [] [98]))⟩
theorem txTl_ok : txTl.ok := by unfold Tx.ok; kernel_rfl
/-- So many brackets, nots, signs. -/
def deepT (o i c : List UInt8) (n : Nat) : List UInt8 := (List.replicate n o).flatten ++ i ++ (List.replicate n c).flatten
/-- The tree of it, where it is none too deep. -/
def deepR (l : List UInt8) : Option (Option (Int × Nat)) := (parse l).map (·.2)
theorem deep0 : (List.range 20).all (fun n => decide (deepR (deepT [40] [97] [41] n) = some (if n ≤ 12 then .none else some (112, 12)))) = true := by decide +kernel
theorem deep1 : (List.range 20).all (fun n => decide (deepR (deepT [110, 111, 116, 32] [112] [] n) = some (if n ≤ 12 then .none else if 80 < (deepT [110, 111, 116, 32] [112] [] n).length then some (105, 80) else some (112, 48)))) = true := by decide +kernel
theorem deep2 : (List.range 20).all (fun n => decide (deepR (deepT [45] [97] [] n) = some (if n ≤ 12 then .none else some (112, 12)))) = true := by decide +kernel
end Co
end Go.Proofs.YtlmlhjepolefaaaGreatDoor
