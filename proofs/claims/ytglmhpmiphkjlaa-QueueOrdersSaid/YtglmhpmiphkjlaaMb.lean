/- Package lease: When, Free, within, Leave. -/
import Derived.Test.YtglmhpmiphkjlaaMa
import Derived.Deep.RegionLaw
import Derived.Deep.CutBlock
import Derived.Deep.DeepCutAuto
namespace Go.Proofs.Ytglmhpmiphkjlaa
open Go.RowKit

namespace Ls
set_option maxHeartbeats 1600000 in
theorem when_any (x : T) (w : World) : Calls Try.prog 34 #[x.val] w fun e w' => e = .returned (.tuple #[.int .i64 (if x.avail then x.due else 0), .bool x.avail]) ∧ Below w.heap.size w w' := by
  obtain ⟨hc, hb⟩ := one_lit w #[.int .i64 x.id, .int .i64 x.ins, .int .i64 x.tok, .int .i64 x.nod, .string x.top, .int .i64 x.prio, .string x.wkr, .int .i64 x.epo, .int .i64 x.exp, .int .i64 x.aft, .int .i64 x.ret, .bool x.bro] 38
  obtain ⟨A, hA⟩ : ∃ A, x.avail = A := ⟨_, rfl⟩
  obtain ⟨D, hD⟩ : ∃ D, x.due = D := ⟨_, rfl⟩
  rw [hA, hD]
  unfold T.avail at hA
  unfold T.due at hD
  obtain ⟨id, ins, tok, nod, top, prio, wkr, epo, exp, aft, ret, bro⟩ := x
  unfold T.val
  dsimp only at *
  go_enter Try.func34, Try.ntmps34
  go_upto_region 1 with (fail)
  generalize w.alloc _ = wa at *
  have HB := Lib.hid hb
  obtain ⟨⟨c0, c1, c2, c3, c4, c5, c6, c7, c8, c9, c10, c11⟩, _⟩ := dz_facts hc
  clear hb hc
  by_cases hbr : bro = true
  · subst hbr
    obtain rfl : false = A := hA
    clear hD
    go_wp2
    refine bodyPost_ret (results_tmp2 rfl _ _ _) rfl ?_
    exact ⟨rfl, HB.out⟩
  · obtain rfl : bro = false := by simpa using hbr
    by_cases he : epo < 60
    · have he2 : ¬ (60 ≤ epo) := by omega
      have hA2 : true = A := by rw [← hA]; simp [he]
      subst hA2
      clear hA
      by_cases hm : aft < exp
      · rw [if_pos hm] at hD
        subst hD
        go_wp2
        refine bodyPost_ret (results_tmp2 rfl _ _ _) rfl ?_
        exact ⟨rfl, HB.out⟩
      · rw [if_neg hm] at hD
        subst hD
        go_wp2
        refine bodyPost_ret (results_tmp2 rfl _ _ _) rfl ?_
        exact ⟨rfl, HB.out⟩
    · have he2 : 60 ≤ epo := by omega
      have hA2 : false = A := by rw [← hA]; simp [he]
      subst hA2
      clear hA hD
      go_wp2
      refine bodyPost_ret (results_tmp2 rfl _ _ _) rfl ?_
      exact ⟨rfl, HB.out⟩
set_option maxHeartbeats 1600000 in
theorem free_any (x : T) (now : Int) (w : World) : Calls Try.prog 29 #[x.val, .int .i64 now] w fun e w' => e = .returned (.bool (x.free now)) ∧ Below w.heap.size w w' := by
  obtain ⟨hc, hb⟩ := one_lit w #[.int .i64 x.id, .int .i64 x.ins, .int .i64 x.tok, .int .i64 x.nod, .string x.top, .int .i64 x.prio, .string x.wkr, .int .i64 x.epo, .int .i64 x.exp, .int .i64 x.aft, .int .i64 x.ret, .bool x.bro] 38
  have W0 := Lib.hid (fun w => when_any x w)
  obtain ⟨R, hR⟩ : ∃ R, x.free now = R := ⟨_, rfl⟩
  rw [hR]
  unfold T.free at hR
  generalize x.avail = A at *
  generalize x.due = D at *
  obtain ⟨id, ins, tok, nod, top, prio, wkr, epo, exp, aft, ret, bro⟩ := x
  unfold T.val at *
  dsimp only at *
  go_enter Try.func29, Try.ntmps29
  go_upto_region 1 with (fail)
  generalize w.alloc _ = wa at *
  have HB := Lib.hid hb
  obtain ⟨⟨c0, c1, c2, c3, c4, c5, c6, c7, c8, c9, c10, c11⟩, _⟩ := dz_facts hc
  clear hb hc
  have HR := Lib.hid hR
  clear hR
  go_wp2_with fail
  refine (W0.out _).mono ?_
  rintro e w1 ⟨rfl, hb1⟩
  have HB1 := Lib.hid (HB.out.trans (hb1.mono HB.out.size))
  clear hb1
  cases A with
  | false =>
    obtain rfl : false = R := HR.out
    dsimp only
    go_wp2
    go_ret
    exact ⟨rfl, HB1.out⟩
  | true =>
    obtain rfl : decide (D ≤ now) = R := HR.out
    dsimp only
    by_cases h : D ≤ now
    · go_wp2
      go_ret
      exact ⟨by first | rfl | (simp; done) | (simp; omega), HB1.out⟩
    · go_wp2
      go_ret
      exact ⟨by first | rfl | (simp; done) | (simp; omega), HB1.out⟩
end Ls
end Go.Proofs.Ytglmhpmiphkjlaa
