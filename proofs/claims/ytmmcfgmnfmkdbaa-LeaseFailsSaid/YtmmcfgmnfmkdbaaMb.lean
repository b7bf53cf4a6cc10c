/- Package lease: When, Free, within, Leave. -/
import Derived.Test.YtmmcfgmnfmkdbaaMa
import Derived.Deep.RegionLaw
import Derived.Deep.CutBlock
import Derived.Deep.DeepCutAuto
namespace Go.Proofs.Ytmmcfgmnfmkdbaa
open Go.RowKit

namespace Ls
set_option maxHeartbeats 1600000 in
theorem when_any (x : T) (w : World) : Calls Try.prog 14 #[x.val] w fun e w' => e = .returned (.tuple #[.int .i64 (if x.avail then x.due else 0), .bool x.avail]) ∧ Below w.heap.size w w' := by
  obtain ⟨hc, hb⟩ := one_lit w #[.int .i64 x.id, .int .i64 x.ins, .int .i64 x.tok, .int .i64 x.nod, .string x.top, .int .i64 x.prio, .string x.wkr, .int .i64 x.epo, .int .i64 x.exp, .int .i64 x.aft, .int .i64 x.ret, .bool x.bro] 25
  obtain ⟨A, hA⟩ : ∃ A, x.avail = A := ⟨_, rfl⟩
  obtain ⟨D, hD⟩ : ∃ D, x.due = D := ⟨_, rfl⟩
  rw [hA, hD]
  unfold T.avail at hA
  unfold T.due at hD
  obtain ⟨id, ins, tok, nod, top, prio, wkr, epo, exp, aft, ret, bro⟩ := x
  unfold T.val
  dsimp only at *
  go_enter Try.func14, Try.ntmps14
  go_upto_region 1 with (fail)
  generalize w.alloc _ = wa at *
  have HB := Lib.hid hb
  obtain ⟨⟨c0, c1, c2, c3, c4, c5, c6, c7, c8, c9, c10, c11⟩, _⟩ := dz_facts hc
  clear hb hc
  by_cases hbr : bro = true
  · subst hbr
    obtain rfl : false = A := hA
    clear hD
    go_wp2
    refine bodyPost_ret (results_tmp2 rfl _ _ _) rfl ?_
    exact ⟨rfl, HB.out⟩
  · obtain rfl : bro = false := by simpa using hbr
    by_cases he : epo < 60
    · have he2 : ¬ (60 ≤ epo) := by omega
      have hA2 : true = A := by rw [← hA]; simp [he]
      subst hA2
      clear hA
      by_cases hm : aft < exp
      · rw [if_pos hm] at hD
        subst hD
        go_wp2
        refine bodyPost_ret (results_tmp2 rfl _ _ _) rfl ?_
        exact ⟨rfl, HB.out⟩
      · rw [if_neg hm] at hD
        subst hD
        go_wp2
        refine bodyPost_ret (results_tmp2 rfl _ _ _) rfl ?_
        exact ⟨rfl, HB.out⟩
    · have he2 : 60 ≤ epo := by omega
      have hA2 : false = A := by rw [← hA]; simp [he]
      subst hA2
      clear hA hD
      go_wp2
      refine bodyPost_ret (results_tmp2 rfl _ _ _) rfl ?_
      exact ⟨rfl, HB.out⟩
set_option maxHeartbeats 1600000 in
theorem free_any (x : T) (now : Int) (w : World) : Calls Try.prog 11 #[x.val, .int .i64 now] w fun e w' => e = .returned (.bool (x.free now)) ∧ Below w.heap.size w w' := by
  obtain ⟨hc, hb⟩ := one_lit w #[.int .i64 x.id, .int .i64 x.ins, .int .i64 x.tok, .int .i64 x.nod, .string x.top, .int .i64 x.prio, .string x.wkr, .int .i64 x.epo, .int .i64 x.exp, .int .i64 x.aft, .int .i64 x.ret, .bool x.bro] 25
  have W0 := Lib.hid (fun w => when_any x w)
  obtain ⟨R, hR⟩ : ∃ R, x.free now = R := ⟨_, rfl⟩
  rw [hR]
  unfold T.free at hR
  generalize x.avail = A at *
  generalize x.due = D at *
  obtain ⟨id, ins, tok, nod, top, prio, wkr, epo, exp, aft, ret, bro⟩ := x
  unfold T.val at *
  dsimp only at *
  go_enter Try.func11, Try.ntmps11
  go_upto_region 1 with (fail)
  generalize w.alloc _ = wa at *
  have HB := Lib.hid hb
  obtain ⟨⟨c0, c1, c2, c3, c4, c5, c6, c7, c8, c9, c10, c11⟩, _⟩ := dz_facts hc
  clear hb hc
  have HR := Lib.hid hR
  clear hR
  go_wp2_with fail
  refine (W0.out _).mono ?_
  rintro e w1 ⟨rfl, hb1⟩
  have HB1 := Lib.hid (HB.out.trans (hb1.mono HB.out.size))
  clear hb1
  cases A with
  | false =>
    obtain rfl : false = R := HR.out
    dsimp only
    go_wp2
    go_ret
    exact ⟨rfl, HB1.out⟩
  | true =>
    obtain rfl : decide (D ≤ now) = R := HR.out
    dsimp only
    by_cases h : D ≤ now
    · go_wp2
      go_ret
      exact ⟨by first | rfl | (simp; done) | (simp; omega), HB1.out⟩
    · go_wp2
      go_ret
      exact ⟨by first | rfl | (simp; done) | (simp; omega), HB1.out⟩
theorem within64_any (n a b : Int) (w : World) : Calls Try.prog 21 #[.int .i64 n, .int .i64 a, .int .i64 b] w fun e w' => e = .returned (.bool (decide (a ≤ n) && decide (n ≤ b))) ∧ w = w' := by
  by_cases h : a ≤ n <;> by_cases k : n ≤ b <;>
  · go_enter Try.func21, Try.ntmps21
    go_wp2
    go_ret
    exact ⟨by simp [h, k], rfl⟩
theorem within_any (n a b : Int) (w : World) : Calls Try.prog 22 #[.int .i64 n, .int .i64 a, .int .i64 b] w fun e w' => e = .returned (.bool (decide (a ≤ n) && decide (n ≤ b))) ∧ w = w' := by
  by_cases h : a ≤ n <;> by_cases k : n ≤ b <;>
  · go_enter Try.func22, Try.ntmps22
    go_wp2
    go_ret
    exact ⟨by simp [h, k], rfl⟩
set_option maxHeartbeats 1600000 in
theorem leave_any (x : T) (w : World) : Calls Try.prog 17 #[x.val] w fun e w' => e = .returned x.leave.val ∧ Below w.heap.size w w' := by
  obtain ⟨hc, hd, hb⟩ := two_lit w #[.int .i64 x.id, .int .i64 x.ins, .int .i64 x.tok, .int .i64 x.nod, .string x.top, .int .i64 x.prio, .string x.wkr, .int .i64 x.epo, .int .i64 x.exp, .int .i64 x.aft, .int .i64 x.ret, .bool x.bro] #[.int .i64 0, .int .i64 0, .int .i64 0, .int .i64 0, .string ⟨#[]⟩, .int .i64 0, .string ⟨#[]⟩, .int .i64 0, .int .i64 0, .int .i64 0, .int .i64 0, .bool false] 25 25
  unfold T.leave
  obtain ⟨id, ins, tok, nod, top, prio, wkr, epo, exp, aft, ret, bro⟩ := x
  unfold T.val
  dsimp only at *
  go_enter Try.func17, Try.ntmps17
  go_upto_region 1 with (fail)
  generalize (w.alloc _).alloc _ = wa at *
  have HB := Lib.hid hb
  have HD := Lib.hid hd
  have h1 := hc.set (i := 6) (by simp) (.string ⟨#[]⟩)
  have h2 := h1.set (i := 8) (by simp) (.int .i64 0)
  have hg := set_grown (set_grown (World.grownBy.refl wa (some w.heap.size)) 6 (.string ⟨#[]⟩)) 8 (.int .i64 0)
  have hd2 := hd.kept hg (fun e => by have := Option.some.inj e; omega)
  have hb2 := (hb.setCell (p := ⟨w.heap.size, 6, Option.none⟩) (Nat.le_refl _) (.string ⟨#[]⟩)).setCell (p := ⟨w.heap.size, 8, Option.none⟩) (Nat.le_refl _) (.int .i64 0)
  have H2 := Lib.hid h2
  have HD2 := Lib.hid hd2
  have HB2 := Lib.hid hb2
  obtain ⟨⟨c0, c1, c2, c3, c4, c5, c6, c7, c8, c9, c10, c11⟩, f0, f1, f2, f3, f4, f5, f6, f7, f8, f9, f10, f11⟩ := dz_facts hc
  clear hb hc hd h1 h2 hg hd2 hb2
  go_upto_region 2 with (fail)
  generalize (wa.setCell _ _).setCell _ _ = wb at *
  clear c0 c1 c2 c3 c4 c5 c6 c7 c8 c9 c10 c11 f0 f1 f2 f3 f4 f5 f6 f7 f8 f9 f10 f11
  obtain ⟨⟨c0, c1, c2, c3, c4, c5, c6, c7, c8, c9, c10, c11⟩, _⟩ := dz_facts H2.out
  obtain ⟨⟨d0, d1, d2, d3, d4, d5, d6, d7, d8, d9, d10, d11⟩, f0, f1, f2, f3, f4, f5, f6, f7, f8, f9, f10, f11⟩ := dz_facts HD2.out
  go_wp2
  have HK := dzn_cel HD2.out ⟨id, ins, tok, nod, top, prio, ⟨#[]⟩, epo, 0, aft, ret, bro⟩
  have HBK := dzn_below HB2.out (z := w.heap.size + 1) (by omega) ⟨id, ins, tok, nod, top, prio, ⟨#[]⟩, epo, 0, aft, ret, bro⟩
  change bodyPost _ _ _ _ _ (dzn wb (w.heap.size + 1) ⟨id, ins, tok, nod, top, prio, ⟨#[]⟩, epo, 0, aft, ret, bro⟩)
  generalize dzn wb (w.heap.size + 1) ⟨id, ins, tok, nod, top, prio, ⟨#[]⟩, epo, 0, aft, ret, bro⟩ = wz at *
  obtain ⟨⟨k0, k1, k2, k3, k4, k5, k6, k7, k8, k9, k10, k11⟩, _⟩ := dz_facts HK
  exact bodyPost_ret (v := .agg #[.int .i64 id, .int .i64 ins, .int .i64 tok, .int .i64 nod, .string top, .int .i64 prio, .string ⟨#[]⟩, .int .i64 epo, .int .i64 0, .int .i64 aft, .int .i64 ret, .bool bro]) (by simp [results, Try.results17, go_sem, k0, k1, k2, k3, k4, k5, k6, k7, k8, k9, k10, k11]) rfl ⟨rfl, HBK⟩
end Ls
end Go.Proofs.Ytmmcfgmnfmkdbaa
