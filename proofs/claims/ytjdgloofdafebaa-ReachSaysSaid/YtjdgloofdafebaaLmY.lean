/- The walk of leaseholdmake.Light. -/
import Derived.Test.YtjdgloofdafebaaYReachSays1
import Derived.Test.YtjdgloofdafebaaOsY
import Derived.Deep.CutRange
namespace Go.Proofs.Ytjdgloofdafebaa
open Go.RowKit

namespace Pr
theorem quad_facts {w : World} {z : Nat} {a0 a1 a2 a3 : Value} (h : Cel w z [a0, a1, a2, a3]) : w.cell? ⟨z, 0, none⟩ = some a0 ∧ w.cell? ⟨z, 1, none⟩ = some a1 ∧ w.cell? ⟨z, 2, none⟩ = some a2 ∧ w.cell? ⟨z, 3, none⟩ = some a3 :=
  ⟨h.cell 0 _ rfl, h.cell 1 _ rfl, h.cell 2 _ rfl, h.cell 3 _ rfl⟩
def light (s : SeedV) : Bool := decide (s.name.size ≤ 30) && (decide (s.kn ≤ 28) && (decide (s.en ≤ 60) && decide (s.mn ≤ 60)))
set_option maxHeartbeats 800000 in
theorem mlight_any (s : SeedV) (w : World) : Calls Try.prog 6 #[s.val] w fun e w' => e = .returned (.bool (light s)) ∧ Below w.heap.size w w' := by
  have HP := Lib.hid (Cel.lit w #[.string s.name, .slice s.KA s.kn s.kc, .slice s.EA s.en s.ec, .slice s.MA s.mn s.mc] 28)
  have HB := Lib.hid ((Below.refl w.heap.size w).alloc (Nat.le_refl _) (.cells #[.string s.name, .slice s.KA s.kn s.kc, .slice s.EA s.en s.ec, .slice s.MA s.mn s.mc] 28))
  obtain ⟨R, hR⟩ : ∃ R, R = light s := ⟨_, rfl⟩
  rw [← hR]
  unfold light at hR
  unfold SeedV.val
  generalize s.name = a at *
  generalize s.kn = k at *
  generalize s.en = e at *
  generalize s.mn = m at *
  go_enter Try.func6, Try.ntmps6
  go_upto_region 1 with (fail)
  generalize w.alloc _ = wb at *
  obtain ⟨z0, z1, z2, z3⟩ := quad_facts HP.out
  by_cases h1 : a.size ≤ 30
  · have h1I : (a.size : Int) ≤ 30 := by omega
    rw [decide_eq_true h1] at hR
    by_cases h2 : k ≤ 28
    · have h2I : (k : Int) ≤ 28 := by omega
      rw [decide_eq_true h2] at hR
      by_cases h3 : e ≤ 60
      · have h3I : (e : Int) ≤ 60 := by omega
        rw [decide_eq_true h3] at hR
        by_cases h4 : m ≤ 60
        · have h4I : (m : Int) ≤ 60 := by omega
          rw [decide_eq_true h4] at hR
          simp at hR
          have HR := Lib.hid hR
          clear hR
          go_wp2
          go_ret
          exact ⟨by rw [HR.out]; rfl, HB.out⟩
        · have h4I : ¬ (m : Int) ≤ 60 := by omega
          rw [decide_eq_false h4] at hR
          simp at hR
          have HR := Lib.hid hR
          clear hR h4
          go_wp2
          go_ret
          exact ⟨by rw [HR.out]; rfl, HB.out⟩
      · have h3I : ¬ (e : Int) ≤ 60 := by omega
        rw [decide_eq_false h3] at hR
        simp at hR
        have HR := Lib.hid hR
        clear hR h3
        go_wp2
        go_ret
        exact ⟨by rw [HR.out]; rfl, HB.out⟩
    · have h2I : ¬ (k : Int) ≤ 28 := by omega
      rw [decide_eq_false h2] at hR
      simp at hR
      have HR := Lib.hid hR
      clear hR h2
      go_wp2
      go_ret
      exact ⟨by rw [HR.out]; rfl, HB.out⟩
  · have h1I : ¬ (a.size : Int) ≤ 30 := by omega
    rw [decide_eq_false h1] at hR
    simp at hR
    have HR := Lib.hid hR
    clear hR h1
    go_wp2
    go_ret
    exact ⟨by rw [HR.out]; rfl, HB.out⟩
end Pr
end Go.Proofs.Ytjdgloofdafebaa
