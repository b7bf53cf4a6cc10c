/- Walks of package num: Put. -/
import Derived.Test.YtggplgmjonnliaaGreatDoorNa
namespace Go.Proofs.YtggplgmjonnliaaGreatDoor
open Go.RowKit

/-- Numbers in bytes. -/
def encs (ns : List Int) : List UInt8 := ns.flatMap fun n => enc (zig n)
theorem encs_take (ns : List Int) (k : Nat) (h : k < ns.length) : encs (ns.take (k + 1)) = encs (ns.take k) ++ enc (zig ns[k]) := by
  rw [List.take_succ_eq_append_getElem h]
  simp only [encs, List.flatMap_append, List.flatMap_cons, List.flatMap_nil, List.append_nil]
theorem encs_len (ns : List Int) (h : ∀ n ∈ ns, -9223372036854775808 ≤ n ∧ n ≤ 9223372036854775807) : (encs ns).length ≤ 10 * ns.length := by
  induction ns with
  | nil => simp [encs]
  | cons n ns ih =>
    have h1 := enc_len10 (zig_lt (h n (by simp)).1 (h n (by simp)).2)
    have h2 := ih fun x hx => h x (List.mem_cons_of_mem _ hx)
    simp only [encs, List.flatMap_cons, List.length_append, List.length_cons] at h2 ⊢
    omega
theorem mem_take {α : Type} {l : List α} {k : Nat} {x : α} (h : x ∈ l.take k) : x ∈ l := List.mem_of_mem_take h

set_option maxHeartbeats 800000 in
theorem put_any (A : Option Addr) (m c : Nat) (l : List UInt8) (D : Option Addr) (k0 d : Nat) (ns : List Int) (w : World) (hr : Bytes w w.heap.size A m l) (hA : A = none → m = 0 ∧ c = 0) (hm : m ≤ 17592186044416)
    (hns : Row w w.heap.size D k0 (ns.map (Value.int .i64))) (hk : k0 ≤ 1099511627776) (hb : ∀ n ∈ ns, -9223372036854775808 ≤ n ∧ n ≤ 9223372036854775807) :
    Calls Tryz.prog 15 #[.slice A m c, .slice D k0 d] w fun e w' => ∃ A' m' c', e = .returned (.slice A' m' c') ∧ OwnBytes w' w.heap.size 5 A' m' c' (l ++ encs ns) ∧ Below w.heap.size w w' := by
  have hkl : ns.length = k0 := by simpa using hns.len
  go_enter Tryz.func15, Tryz.ntmps15
  go_wp2_with fail
  refine (clone_any A m c l w hr hA (by omega)).mono ?_
  rintro e w1 ⟨A1, c1, rfl, ho1, hb1⟩
  go_wp2_with fail
  go_loopw [5, 12] (fun v i wr => ∃ j : Nat, j ≤ k0 ∧ i = .int .i64 j ∧ ∃ A2 m2 c2, v = .slice A2 m2 c2 ∧ OwnBytes wr w.heap.size 5 A2 m2 c2 (l ++ encs (ns.take j)) ∧ Below w.heap.size w wr) (fun _ i _ => k0 - (intOf i).toNat)
  case atStart => exact ⟨0, Nat.zero_le _, rfl, A1, m, c1, rfl, by simpa [encs] using ho1, hb1⟩
  case round =>
    obtain ⟨j, hj, rfl, A2, m2, c2, rfl, ho2, hb2⟩ := hrel
    by_cases hlt : j < k0
    · obtain ⟨b, off, rfl, hbb, hc⟩ := (hns.below hb2 (Nat.le_refl _)).at_ hlt
      have hj' : j < ns.length := by omega
      have hH := Lib.hid (encs_take ns j hj')
      have hbd := hb ns[j] (List.getElem_mem hj')
      have hl2 := ho2.len
      have hlen := encs_len (ns.take j) fun x hx => hb x (mem_take hx)
      have hml := hr.len
      rw [List.length_append] at hl2
      rw [List.length_take] at hlen
      rw [List.getElem_map] at hc
      generalize ns[j]'hj' = x at *
      go_wp2_with fail
      refine (appendNumber_any A2 m2 c2 _ x _ w.heap.size hbd.1 hbd.2 ho2 hb2.size (by omega)).mono ?_
      rintro e w3 ⟨A3, c3, rfl, ho3, hg3⟩
      go_wp2
      go_roundw
      case measure => simp [intOf]; omega
      case rel =>
        refine ⟨j + 1, by omega, by go_num, A3, _, c3, rfl, ?_, below_grew hb2 hg3 ho2 (Nat.le_refl _)⟩
        rw [hH.out, ← List.append_assoc]
        exact ho3
    · have hje : ns.take j = ns := List.take_of_length_le (by omega)
      rw [hje] at ho2
      go_wp2
      go_ret
      exact ⟨A2, m2, c2, rfl, ho2, hb2⟩

end Go.Proofs.YtggplgmjonnliaaGreatDoor
