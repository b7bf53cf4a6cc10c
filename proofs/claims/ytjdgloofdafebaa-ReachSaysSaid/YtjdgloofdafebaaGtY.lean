/- Walks of leaseholdmake: a number, a topic, a condition out of a number; the one picked. -/
import Derived.Test.YtjdgloofdafebaaGnY
import Derived.Test.YtjdgloofdafebaaYReachSays1
namespace Go.Proofs.Ytjdgloofdafebaa
open Go.RowKit

namespace Pr
theorem nmb_tmod (n b : Int) (hb : 0 < b) : nmb n b = if n.tmod b < 0 then n.tmod b + b else n.tmod b := by
  have e1 : n.tmod b < b := Int.tmod_lt_of_pos _ hb
  have e2 : -b < n.tmod b := by
    have := Int.lt_tmod_of_pos n hb
    omega
  have e3 : n = n.tmod b + b * n.tdiv b := by have := Int.tmod_add_mul_tdiv n b; omega
  have e4 : n % b = (n.tmod b) % b := by
    conv => lhs; rw [e3]
    exact Int.add_mul_emod_self_left _ _ _
  unfold nmb
  rw [e4]
  split
  · rw [← Int.add_emod_right]
    exact Int.emod_eq_of_lt (by omega) (by omega)
  · exact Int.emod_eq_of_lt (by omega) (by omega)
theorem nmb_nat (n b : Int) (hb : 0 < b) : ∃ k : Nat, nmb n b = k ∧ (k : Int) < b := by
  have h1 := Int.emod_nonneg n (show b ≠ 0 by omega)
  have h2 := Int.emod_lt_of_pos n hb
  exact ⟨(nmb n b).toNat, by unfold nmb; omega, by unfold nmb; omega⟩
set_option maxHeartbeats 400000 in
theorem mnumber_any (n b : Int) (w : World) (hb : 0 < b) (_h1 : -9223372036854775808 ≤ n) (_h2 : n ≤ 9223372036854775807) (h3 : b ≤ 4611686018427387904) :
    Calls Try.prog 9 #[.int .i64 n, .int .i64 b] w fun e w' => e = .returned (.int .i64 (nmb n b)) ∧ w = w' := by
  have hb0 : (b == 0) = false := by simp; omega
  have hv := nmb_tmod n b hb
  have e1 : n.tmod b < b := Int.tmod_lt_of_pos _ hb
  have e2 : -b < n.tmod b := by
    have := Int.lt_tmod_of_pos n hb
    omega
  by_cases hr : n.tmod b < 0
  · rw [if_pos hr] at hv
    rw [hv]
    clear hv
    go_enter Try.func9, Try.ntmps9
    go_wp2
    go_ret
    exact ⟨ret_int (by omega), rfl⟩
  · rw [if_neg hr] at hv
    rw [hv]
    clear hv
    go_enter Try.func9, Try.ntmps9
    go_wp2
    go_ret
    exact ⟨ret_int (by omega), rfl⟩
set_option maxHeartbeats 800000 in
theorem mtopics_any (n : Int) (w : World) (h1 : -9223372036854775808 ≤ n) (h2 : n ≤ 9223372036854775807) :
    Calls Try.prog 21 #[.int .i64 n] w fun e w' => e = .returned (.string (bs (topics n))) ∧ Below w.heap.size w w' := by
  have HNU := Lib.hid (fun W => mnumber_any n 3 W (by decide) h1 h2 (by decide))
  unfold topics
  obtain ⟨k, hk, hk3⟩ := nmb_nat n 3 (by decide)
  rw [hk] at HNU ⊢
  rw [Int.toNat_natCast]
  have HB := Lib.hid ((Below.refl w.heap.size w).alloc (Nat.le_refl _) (.cells (topicL.map fun s => Value.string ⟨s.toArray⟩).toArray 9))
  have hh := heap_alloc_new w (.cells (topicL.map fun s => Value.string ⟨s.toArray⟩).toArray 9)
  have c1 : (w.alloc (.cells (topicL.map fun s => Value.string ⟨s.toArray⟩).toArray 9)).cell? ⟨w.heap.size, k, none⟩ = some (.string ⟨(topicL[k]!).toArray⟩) := lit_texts hh (by show k < 3; omega)
  unfold bs
  generalize (⟨(topicL[k]!).toArray⟩ : ByteArray) = T at c1 ⊢
  have hk0 : (0 : Int) ≤ (k : Int) := by omega
  clear hh h1 h2 hk
  go_enter Try.func21, Try.ntmps21
  go_upto_region 2 with (fail)
  have e : topicL.map (fun s => Value.string ⟨s.toArray⟩) = [.string ⟨#[112, 97, 121]⟩, .string ⟨#[115, 104, 105, 112]⟩, .string ⟨#[97, 115, 107, 45, 49]⟩] := rfl
  rw [e] at HB c1
  generalize w.alloc _ = wz at *
  go_wp2_with fail
  refine (HNU.out _).mono ?_
  rintro e w2 ⟨rfl, rfl⟩
  go_wp2
  go_ret
  exact ⟨rfl, HB.out⟩
set_option maxHeartbeats 800000 in
theorem mconds_any (n : Int) (w : World) (h1 : -9223372036854775808 ≤ n) (h2 : n ≤ 9223372036854775807) :
    Calls Try.prog 23 #[.int .i64 n] w fun e w' => e = .returned (.string (bs (conds n))) ∧ Below w.heap.size w w' := by
  have HNU := Lib.hid (fun W => mnumber_any n 12 W (by decide) h1 h2 (by decide))
  unfold conds
  obtain ⟨k, hk, hk3⟩ := nmb_nat n 12 (by decide)
  rw [hk] at HNU ⊢
  rw [Int.toNat_natCast]
  have HB := Lib.hid ((Below.refl w.heap.size w).alloc (Nat.le_refl _) (.cells (condL.map fun s => Value.string ⟨s.toArray⟩).toArray 9))
  have hh := heap_alloc_new w (.cells (condL.map fun s => Value.string ⟨s.toArray⟩).toArray 9)
  have c1 : (w.alloc (.cells (condL.map fun s => Value.string ⟨s.toArray⟩).toArray 9)).cell? ⟨w.heap.size, k, none⟩ = some (.string ⟨(condL[k]!).toArray⟩) := lit_texts hh (by show k < 12; omega)
  unfold bs
  generalize (⟨(condL[k]!).toArray⟩ : ByteArray) = T at c1 ⊢
  have hk0 : (0 : Int) ≤ (k : Int) := by omega
  clear hh h1 h2 hk
  go_enter Try.func23, Try.ntmps23
  go_upto_region 2 with (fail)
  simp only [condL, List.map_cons, List.map_nil] at HB c1
  generalize w.alloc _ = wz at *
  go_wp2_with fail
  refine (HNU.out _).mono ?_
  rintro e w2 ⟨rfl, rfl⟩
  go_wp2
  go_ret
  exact ⟨rfl, HB.out⟩
end Pr
end Go.Proofs.Ytjdgloofdafebaa
