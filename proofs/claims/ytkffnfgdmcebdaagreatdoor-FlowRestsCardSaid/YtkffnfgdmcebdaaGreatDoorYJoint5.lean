/- Package cond in memory: values. Walks of package cond: what is told of two values. Mathematics of FlowForks: its rounds. -/
import Derived.Test.YtkffnfgdmcebdaaGreatDoorCjY
import Derived.Test.YtkffnfgdmcebdaaGreatDoorYJoint12
import Derived.Test.YtkffnfgdmcebdaaGreatDoorYJoint19
import Derived.Test.YtkffnfgdmcebdaaGreatDoorYJoint4
import Derived.Test.YtkffnfgdmcebdaaGreatDoorYJoint18
namespace Go.Proofs.YtkffnfgdmcebdaaGreatDoor
open Go.RowKit


section
variable {w : World} {z : Nat}
/-- A value's cells are written. -/
def tri (w : World) (z : Nat) (v : Vl) : World := ((w.setCell ⟨z, 0, none⟩ (.int .i64 v.kind)).setCell ⟨z, 1, none⟩ (.int .i64 v.num)).setCell ⟨z, 2, none⟩ (.string v.txt)
theorem tri_grown (w : World) (z : Nat) (v : Vl) : w.grownBy (tri w z v) (some z) := set_grown (set_grown (set_grown (World.grownBy.refl _ _) 0 _) 1 _) 2 _
theorem Cel.tri {u : Vl} (h : Cel w z u.list) (v : Vl) : Cel (tri w z v) z v.list :=
  ((h.set (i := 0) (by simp [Vl.list]) _).set (i := 1) (by simp [Vl.list]) _).set (i := 2) (by simp [Vl.list]) _
theorem Cel.tri_of {u : Vl} (h : Cel w z u.list) : (w.cell? ⟨z, 0, none⟩ = some (.int .i64 u.kind) ∧ w.cell? ⟨z, 1, none⟩ = some (.int .i64 u.num) ∧ w.cell? ⟨z, 2, none⟩ = some (.string u.txt)) ∧
    (w.frozen? ⟨z, 0, none⟩ = false ∧ w.frozen? ⟨z, 1, none⟩ = false ∧ w.frozen? ⟨z, 2, none⟩ = false) :=
  ⟨⟨h.cell 0 _ rfl, h.cell 1 _ rfl, h.cell 2 _ rfl⟩, h.froz 0 (by simp [Vl.list]), h.froz 1 (by simp [Vl.list]), h.froz 2 (by simp [Vl.list])⟩
theorem below_tri {B : Nat} {a w : World} (h : Below B a w) {z : Nat} (hz : B ≤ z) (v : Vl) : Below B a (tri w z v) := ((h.setCell hz _).setCell hz _).setCell hz _
end

theorem eflag_any (b : Bool) (w : World) :
    Calls Tryz.prog 158 #[.bool b] w fun e w' => e = .returned (.agg #[.int .i64 2, .int .i64 (Co.bn b), .string ⟨#[]⟩]) ∧ Below w.heap.size w w' := vflag_any b w
section
variable {E : Int → Option Addr} {V w : World}
set_option maxHeartbeats 800000 in
theorem etruth_any (hE : CoErrsE V E) (hb : Below V.heap.size V w) (v : Vl) :
    Calls Tryz.prog 141 #[v.val] w fun r w' => (∃ e, r = .returned (.tuple #[.bool (Co.truth v).2, e]) ∧ SeenBy E e (Co.truth v).1) ∧ Below w.heap.size w w' := by
  obtain ⟨k, n, t⟩ := v
  unfold Vl.val Co.truth
  dsimp only
  have hb1 : Below w.heap.size w (w.alloc (.cells #[.int .i64 k, .int .i64 n, .string t] 94)) := (Below.refl _ _).alloc (Nat.le_refl _) _
  by_cases hk : k = 2
  · subst hk
    rw [if_pos rfl]
    clear hE hb
    go_enter Tryz.func141, Tryz.ntmps141
    go_wp2
    go_ret2
    exact ⟨⟨_, rfl, .nil⟩, hb1⟩
  · rw [if_neg hk]
    have hkI : (k == 2) = false := by rw [beq_eq_false_iff_ne]; exact hk
    obtain ⟨a, hka, hg⟩ := (hE.below hb).e110
    have hgl := cell_lt hg
    unfold errV at hg
    clear hE hb hk
    go_enter Tryz.func141, Tryz.ntmps141
    go_wp2_with fail
    go_quiet (fail)
    go_wp2
    go_ret2
    exact ⟨⟨_, rfl, .err 110 a hka (by decide)⟩, below_drewN hb1 _⟩
end
end Go.Proofs.YtkffnfgdmcebdaaGreatDoor
namespace Go.Proofs.YtkffnfgdmcebdaaGreatDoor
open Go.RowKit

section
variable {E : Int → Option Addr} {V w : World}
set_option maxHeartbeats 800000 in
theorem eboth_any (k : Int) (a b : Vl) (w : World) :
    Calls Tryz.prog 162 #[.int .i64 k, a.val, b.val] w fun r w' => r = .returned (.bool (a.kind == k && b.kind == k)) ∧ Below w.heap.size w w' := by
  obtain ⟨ka, na, ta⟩ := a
  obtain ⟨kb, nb, tb⟩ := b
  unfold Vl.val
  dsimp only
  have hb1 : Below w.heap.size w ((w.alloc (.cells #[.int .i64 ka, .int .i64 na, .string ta] 94)).alloc (.cells #[.int .i64 kb, .int .i64 nb, .string tb] 94)) := ((Below.refl _ _).alloc (Nat.le_refl _) _).alloc (by simp) _
  by_cases h1 : ka = k
  · subst h1
    go_enter Tryz.func162, Tryz.ntmps162
    go_wp2
    go_ret
    exact ⟨by simp, hb1⟩
  · have hI : (ka == k) = false := by rw [beq_eq_false_iff_ne]; exact h1
    rw [hI]
    clear h1
    go_enter Tryz.func162, Tryz.ntmps162
    go_wp2
    go_ret
    exact ⟨by simp, hb1⟩
set_option maxHeartbeats 800000 in
theorem ecut_any (s : ByteArray) (w : World) :
    Calls Tryz.prog 164 #[.string s] w fun r w' => r = .returned (.string (Co.cut s)) ∧ w = w' := by
  unfold Co.cut
  by_cases h : s.size ≤ 60
  · have hI : (s.size : Int) ≤ 60 := by omega
    have hm : (min (s.size : Int) 60).toNat = min s.size 60 := by omega
    have HM := Lib.hid hm
    clear h hm
    go_enter Tryz.func164, Tryz.ntmps164
    go_wp2
    go_ret
    rw [HM.out]
    exact ⟨rfl, rfl⟩
  · have hI : ¬ (s.size : Int) ≤ 60 := by omega
    have hJ : (60 : Int) ≤ (s.size : Int) := by omega
    have hm : (min (s.size : Int) 60).toNat = min s.size 60 := by omega
    have HM := Lib.hid hm
    clear h hm
    go_enter Tryz.func164, Tryz.ntmps164
    go_wp2
    go_ret
    rw [HM.out]
    exact ⟨rfl, rfl⟩
set_option maxHeartbeats 1600000 in
theorem eparts_any (op : Int) (w : World) :
    Calls Tryz.prog 148 #[.int .i64 op] w fun r w' => r = .returned (.int .i64 (if op = 5 ∨ op = 17 then 1 else if 3 ≤ op ∧ op ≤ 16 then 2 else 0)) ∧ w = w' := by
  by_cases h5 : op = 5
  · subst h5
    go_enter Tryz.func148, Tryz.ntmps148
    go_wp2
    go_ret
    exact ⟨rfl, rfl⟩
  by_cases h17 : op = 17
  · subst h17
    go_enter Tryz.func148, Tryz.ntmps148
    go_wp2
    go_ret
    exact ⟨rfl, rfl⟩
  rw [if_neg (by omega)]
  have i5 : (op == 5) = false := by rw [beq_eq_false_iff_ne]; exact h5
  have i17 : (op == 17) = false := by rw [beq_eq_false_iff_ne]; exact h17
  clear h5 h17
  by_cases h : 3 ≤ op ∧ op ≤ 16
  · rw [if_pos h]
    obtain ⟨h3, h16⟩ := h
    go_enter Tryz.func148, Tryz.ntmps148
    go_wp2
    go_ret
    exact ⟨rfl, rfl⟩
  · rw [if_neg h]
    by_cases h3 : 3 ≤ op
    · have h16 : ¬ op ≤ 16 := fun k => h ⟨h3, k⟩
      clear h
      go_enter Tryz.func148, Tryz.ntmps148
      go_wp2
      go_ret
      exact ⟨rfl, rfl⟩
    · clear h
      go_enter Tryz.func148, Tryz.ntmps148
      go_wp2
      go_ret
      exact ⟨rfl, rfl⟩
set_option maxHeartbeats 1600000 in
theorem ecmp_any (a b : Int) (w : World) :
    Calls Tryz.prog 173 #[.int .i64 a, .int .i64 b] w fun r w' => r = .returned (.int .i64 (Co.cmpI a b)) ∧ w = w' := by
  unfold Co.cmpI
  by_cases h : a < b
  · rw [if_pos h]
    go_enter Tryz.func173, Tryz.ntmps173
    go_wp2
    go_ret
    exact ⟨rfl, rfl⟩
  · rw [if_neg h]
    by_cases h2 : b < a
    · rw [if_pos h2]
      go_enter Tryz.func173, Tryz.ntmps173
      go_wp2
      go_ret
      exact ⟨rfl, rfl⟩
    · rw [if_neg h2]
      go_enter Tryz.func173, Tryz.ntmps173
      go_wp2
      go_ret
      exact ⟨rfl, rfl⟩
theorem estrcmp_any (a b : ByteArray) (w : World) :
    Calls Tryz.prog 174 #[.string a, .string b] w fun r w' => r = .returned (.int .i64 (Lib.compareBytes a.data.toList b.data.toList)) ∧ w = w' := by
  have h : Calls Tryz.prog 174 #[.string a, .string b] w fun r w' => r = .returned (.int .i64 (Lib.compareBytes a.data.toList b.data.toList)) ∧ w' = w :=
    Any.strings_Compare shLays106 a b w
  exact h.mono fun r w' h => ⟨h.1, h.2.symm⟩
set_option maxHeartbeats 1600000 in
theorem enamed_any {A : Option Addr} {n c : Nat} {l : List Vr.V} (hE : CoErrsE V E) (hb : Below V.heap.size V w) (hr : VRow V V.heap.size A n l) (hn : n ≤ 9223372036854775807) (s : ByteArray) :
    Calls Tryz.prog 149 #[.string s, .slice A n c] w fun r w' => (∃ e, r = .returned (.tuple #[(Co.named l s).2.val, e]) ∧ SeenBy E e (Co.named l s).1) ∧ Below w.heap.size w w' := by
  have hb1 : Below w.heap.size w (w.alloc (.cells #[.int .i64 0, .int .i64 0, .string ⟨#[]⟩] 94)) := (Below.refl _ _).alloc (Nat.le_refl _) _
  have HG := Lib.hid (get_any (w := w.alloc (.cells #[.int .i64 0, .int .i64 0, .string ⟨#[]⟩] 94)) A n c l s ((hr.below (hb.trans (hb1.mono hb.size)) (Nat.le_refl _)).mono (Nat.le_trans hb.size hb1.size)) hn)
  have HZ : Hid (Cel (w.alloc (.cells #[.int .i64 0, .int .i64 0, .string ⟨#[]⟩] 94)) w.heap.size Vl.zero.list) := Cel.lit w #[.int .i64 0, .int .i64 0, .string ⟨#[]⟩] 94
  have hnm : Co.named l s = if (Vr.get l s).2 = true then (0, ⟨(Vr.get l s).1.kind, (Vr.get l s).1.num, (Vr.get l s).1.text⟩) else (108, Vl.zero) := rfl
  unfold getV Vr.V.inner at HG
  generalize Vr.get l s = R at *
  obtain ⟨v, is⟩ := R
  have hgn : 8 ≠ w.heap.size := by
    obtain ⟨_, _, hg⟩ := (hE.below hb).e108
    exact Nat.ne_of_lt (cell_lt hg)
  have HE := Lib.hid hE
  have HB := Lib.hid hb
  have HNM := Lib.hid hnm
  clear hE hb hr hnm
  cases is with
  | true =>
    have HNM2 : Hid (Co.named l s = (0, ⟨v.kind, v.num, v.text⟩)) := HNM.out
    clear HNM
    rw [HNM2.out]
    go_enter Tryz.func149, Tryz.ntmps149
    go_wp2_with fail
    refine HG.out.mono ?_
    rintro x w1 ⟨rfl, hb2⟩
    have HZ1 : Hid (Cel w1 w.heap.size Vl.zero.list) := HZ.out.below hb2 (Nat.le_refl _)
    have hbw : Below w.heap.size w w1 := hb1.trans (hb2.mono hb1.size)
    obtain ⟨⟨z0, z1, z2⟩, g0, g1, g2⟩ := HZ1.out.tri_of
    have hl0 : w.heap.size < w1.heap.size := HZ1.out.lt
    clear hb2
    go_wp2
    show bodyPost _ _ _ _ _ ((tri w1 w.heap.size ⟨v.kind, v.num, v.text⟩).alloc (.cells #[.int .i64 v.kind, .int .i64 v.num, .string v.text] 94))
    have hfin := (HZ1.out.tri ⟨v.kind, v.num, v.text⟩).alloc (.cells #[.int .i64 v.kind, .int .i64 v.num, .string v.text] 94)
    have hbf := (below_tri hbw (Nat.le_refl _) ⟨v.kind, v.num, v.text⟩).alloc (by simp [tri]; omega) (.cells #[.int .i64 v.kind, .int .i64 v.num, .string v.text] 94)
    generalize (tri w1 w.heap.size _).alloc _ = wf at *
    obtain ⟨⟨k0, k1, k2⟩, _⟩ := hfin.tri_of
    exact bodyPost_ret (v := .tuple #[Vl.val ⟨v.kind, v.num, v.text⟩, .nilIface]) (by simp [results, Tryz.results149, go_sem, k0, k1, k2, Vl.val]) rfl ⟨⟨_, rfl, .nil⟩, hbf⟩
  | false =>
    have HNM2 : Hid (Co.named l s = (108, Vl.zero)) := HNM.out
    clear HNM
    rw [HNM2.out]
    go_enter Tryz.func149, Tryz.ntmps149
    go_wp2_with fail
    refine HG.out.mono ?_
    rintro x w1 ⟨rfl, hb2⟩
    have HZ1 : Hid (Cel w1 w.heap.size Vl.zero.list) := HZ.out.below hb2 (Nat.le_refl _)
    have hbw : Below w.heap.size w w1 := hb1.trans (hb2.mono hb1.size)
    obtain ⟨⟨z0, z1, z2⟩, g0, g1, g2⟩ := HZ1.out.tri_of
    have hl0 : w.heap.size < w1.heap.size := HZ1.out.lt
    obtain ⟨a, hka, hg⟩ := (HE.out.below (HB.out.trans (hbw.mono HB.out.size))).e108
    have hgl := cell_lt hg
    unfold errV at hg
    clear hb2
    go_wp2_with fail
    go_region
    go_wp2
    show bodyPost _ _ _ _ _ ((tri w1 w.heap.size Vl.zero).alloc (.cells #[.int .i64 v.kind, .int .i64 v.num, .string v.text] 94)).drew
    have hfin : Cel ((tri w1 w.heap.size Vl.zero).alloc (.cells #[.int .i64 v.kind, .int .i64 v.num, .string v.text] 94)).drew w.heap.size Vl.zero.list := ((HZ1.out.tri Vl.zero).alloc (.cells #[.int .i64 v.kind, .int .i64 v.num, .string v.text] 94)).drewN 1
    have hbf := ((below_tri hbw (Nat.le_refl _) Vl.zero).alloc (by simp [tri]; omega) (.cells #[.int .i64 v.kind, .int .i64 v.num, .string v.text] 94)).drew
    generalize ((tri w1 w.heap.size _).alloc _).drew = wf at *
    obtain ⟨⟨k0, k1, k2⟩, _⟩ := hfin.tri_of
    exact bodyPost_ret (v := .tuple #[Vl.val Vl.zero, errV a]) (by simp [results, Tryz.results149, go_sem, k0, k1, k2, Vl.val, errV]) rfl ⟨⟨_, rfl, .err 108 a hka (by decide)⟩, hbf⟩
end
end Go.Proofs.YtkffnfgdmcebdaaGreatDoor
namespace Go.Proofs.YtkffnfgdmcebdaaGreatDoor
open Go.RowKit

namespace Pr
theorem along_len {b : Bd} {k f : Nat} (hk : k < b.toks.length) : (along b k f).toks.length = b.toks.length := by
  show (left b.toks (fun j => decide (j = k)) ++ numb b.next (come b.p [f])).length = _
  rw [List.length_append, numb_len, come_len, left_erase, List.length_eraseIdx_of_lt hk, List.length_singleton]
  omega
theorem goB_ok {b b2 : Bd} {id flow : Int} {ok : Bool} {most : Nat} (h : goB b id flow = (ok, b2)) (ho : Ok b (most + 1)) : Ok b2 most := by
  unfold goB at h
  split at h
  · obtain rfl := congrArg Prod.snd h
    exact ho.less (by omega)
  · rename_i k hk
    have hl : k < b.toks.length := (List.findIdx?_eq_some_iff_getElem.1 hk).1
    split at h
    · obtain rfl := congrArg Prod.snd h
      have h1 := along_len (f := flow.toNat) hl
      exact ho.moved _ _ (by simp) (by show (along b k flow.toNat).toks.length ≤ 100000; rw [h1]; exact ho.t)
    · obtain rfl := congrArg Prod.snd h
      exact ho.less (by omega)
theorem idxK {inc : Bool} {v : Nat} {rem don : List Nat} (h : Kx v rem don) {k : Nat} (hk : k < rem.length) : (bK inc v rem don).toks.findIdx? (fun t => t.id == 3 + (rem[k]! : Int)) = some k := by
  have hl : k < (bK inc v rem don).toks.length := by rw [bK_len]; omega
  rw [List.findIdx?_eq_some_iff_getElem]
  refine ⟨hl, ?_, fun j hj => ?_⟩
  · rw [← getElem!_pos _ k hl, bK_rem inc v rem don hk]
    simp [wtK]
  · rw [← getElem!_pos _ j (by omega), bK_rem inc v rem don (by omega)]
    intro e
    have e : (3 + (rem[j]! : Int)) = 3 + (rem[k]! : Int) := by simpa only [wtK, beq_iff_eq] using e
    have := nd_inj (nodup_rem h) (i := j) (j := k) (by omega) hk (by omega)
    omega
/-- Ahead of a round. -/
def HdK (inc : Bool) (v i : Nat) (b : Bd) : Prop := Ok b (1000 - 30 * i) ∧ ((i = 0 ∧ b = b0K inc v) ∨ (0 < i ∧ ∃ rem don, b = bK inc v rem don ∧ Kx v rem don ∧ don.length = i))
section
variable {inc : Bool} {v i : Nat} {b : Bd}
theorem HdK.zero (inc : Bool) (v : Nat) (hv : v < 6) : HdK inc v 0 (b0K inc v) := by
  refine ⟨⟨⟨asc_one _, fun t ht => ?_⟩, by show (pK inc v).n ≤ 100000; rw [pK_n]; omega, by show (pK inc v).m ≤ 90000; rw [pK_m]; omega, by show 0 ≤ 100000; decide, by show 1 ≤ 100000; decide, by show (0 : Int) ≤ 2; decide, ?_⟩, .inl ⟨rfl, rfl⟩⟩
  · obtain rfl := List.mem_singleton.1 ht
    show (1 : Int) < 2
    decide
  · show (2 : Int) + ((1000 - 30 * 0 : Nat) : Int) * (((pK inc v).m : Int) + 1) ≤ 1000000000
    rw [pK_m]
    omega
theorem HdK.run (hv : v < 6) (hv2 : 2 ≤ v) (h : HdK inc v i b) (hi : i < v) (m : Nat) : ∃ n m' rem don, n ≤ 2 ∧ m' ≤ m + 2 ∧ Mv2 ⟨b, m, no⟩ n ⟨bK inc v rem don, m', no⟩ ∧ Kx v rem don ∧ don.length = i ∧ rem.length = v - i ∧ Rest (bK inc v rem don) ∧ Ok (bK inc v rem don) (990 - 30 * i) := by
  obtain ⟨ho, h⟩ := h
  rcases h with ⟨rfl, rfl⟩ | ⟨h0, rem, don, rfl, hk, hd⟩
  · have hkx : Kx v (List.range v) [] := ⟨by simp⟩
    have hmv : Mv2 ⟨b0K inc v, m, no⟩ 2 ⟨bK inc v (List.range v) [], m + 1 + 1, no⟩ := Mv2.of (s0K inc hv hv2).1 (s0K inc hv hv2).2 (Mv2.of (s1K inc hv hv2).1 (s1K inc hv hv2).2 (.zero _))
    have ho2 := (hmv.okm (most := 998) (by exact ho)).1
    exact ⟨2, m + 1 + 1, List.range v, [], by omega, by omega, hmv, hkx, rfl, by simp, restK hv hv2 hkx (by simp; omega), ho2.less (by omega)⟩
  · have hl := hk.len
    exact ⟨0, m, rem, don, by omega, by omega, .zero _, hk, hd, by omega, restK hv hv2 hk (by omega), ho.less (by omega)⟩
theorem HdK.go (hv : v < 6) (hv2 : 2 ≤ v) {rem don : List Nat} (hk : Kx v rem don) (hd : don.length = i) (ho : Ok (bK inc v rem don) (990 - 30 * i)) (hi : i < v) {k : Nat} (hr : k < rem.length) : HdK inc v (i + 1) (bK inc v (rem.eraseIdx k) (don ++ [rem[k]!])) := by
  obtain ⟨h1, h2⟩ := goK (inc := inc) hv hv2 hk hr
  refine ⟨?_, .inr ⟨by omega, _, _, rfl, h2, by simp [hd]⟩⟩
  exact (goB_ok h1 (most := 989 - 30 * i) (by rwa [show 989 - 30 * i + 1 = 990 - 30 * i by omega])).less (by omega)
theorem HdK.fin (hv : v < 6) (hv2 : 2 ≤ v) (h : HdK inc v v b) (m : Nat) : Mv2 ⟨b, m, no⟩ 2 ⟨b4K inc v, m + 1 + 1, no⟩ ∧ Ok b 20 := by
  obtain ⟨ho, h⟩ := h
  refine ⟨?_, ho.less (by omega)⟩
  rcases h with ⟨rfl, _⟩ | ⟨h0, rem, don, rfl, hk, hd⟩
  · omega
  · have hl := hk.len
    obtain rfl : rem = [] := List.eq_nil_of_length_eq_zero (by omega)
    exact Mv2.of (fstK hv hv2 hk) (s2K hv hv2 hk) (Mv2.of (s3K inc).1 (s3K inc).2 (.zero _))
end
end Pr
end Go.Proofs.YtkffnfgdmcebdaaGreatDoor
