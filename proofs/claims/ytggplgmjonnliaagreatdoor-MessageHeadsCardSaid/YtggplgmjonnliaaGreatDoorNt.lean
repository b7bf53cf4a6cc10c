/- Walks of package num: PutText and PutFlag. -/
import Derived.Test.YtggplgmjonnliaaGreatDoorNb
namespace Go.Proofs.YtggplgmjonnliaaGreatDoor
open Go.RowKit

/-- A text in bytes; texts; flags. -/
def textOf (s : ByteArray) : List UInt8 := enc (zig s.size) ++ s.data.toList
def textsOf (ss : List ByteArray) : List UInt8 := ss.flatMap textOf
def flagOf (f : Bool) : UInt8 := if f then 1 else 0
theorem textsOf_take (ss : List ByteArray) (k : Nat) (h : k < ss.length) : textsOf (ss.take (k + 1)) = textsOf (ss.take k) ++ textOf ss[k] := by
  rw [List.take_succ_eq_append_getElem h]
  simp only [textsOf, List.flatMap_append, List.flatMap_cons, List.flatMap_nil, List.append_nil]
theorem textsOf_len (B : Nat) (hB : B ≤ 9223372036854775807) (ss : List ByteArray) (h : ∀ s ∈ ss, s.size ≤ B) : (textsOf ss).length ≤ (10 + B) * ss.length := by
  induction ss with
  | nil => simp [textsOf]
  | cons s ss ih =>
    have hs := h s (by simp)
    have h1 := enc_len10 (zig_lt (n := s.size) (by omega) (by omega))
    have h2 := ih fun x hx => h x (List.mem_cons_of_mem _ hx)
    have h3 : s.data.toList.length = s.size := by simp
    simp only [textsOf, List.flatMap_cons, List.length_append, List.length_cons, textOf, h3] at h2 ⊢
    rw [Nat.mul_add, Nat.mul_one]
    omega

set_option maxHeartbeats 800000 in
theorem putText_any (B : Nat) (hB : B ≤ 1048576) (A : Option Addr) (m c : Nat) (l : List UInt8) (D : Option Addr) (k0 d : Nat) (ss : List ByteArray) (w : World) (hr : Bytes w w.heap.size A m l) (hA : A = none → m = 0 ∧ c = 0) (hm : m ≤ 17592186044416)
    (hss : Row w w.heap.size D k0 (ss.map Value.string)) (hk : k0 ≤ 1048576) (hb : ∀ s ∈ ss, s.size ≤ B) :
    Calls Tryz.prog 40 #[.slice A m c, .slice D k0 d] w fun e w' => ∃ A' m' c', e = .returned (.slice A' m' c') ∧ OwnBytes w' w.heap.size 5 A' m' c' (l ++ textsOf ss) ∧ Below w.heap.size w w' := by
  obtain ⟨i0, hi0, hz0, hz1, hz2⟩ := info_parts info_u8
  have hkl : ss.length = k0 := by simpa using hss.len
  have hml := hr.len
  go_enter Tryz.func40, Tryz.ntmps40
  go_wp2_with fail
  refine (clone_any A m c l w hr hA (by omega)).mono ?_
  rintro e w1 ⟨A1, c1, rfl, ho1, hb1⟩
  go_wp2_with fail
  go_loopw [5, 12] (fun v i wr => ∃ j : Nat, j ≤ k0 ∧ i = .int .i64 j ∧ ∃ A2 m2 c2, v = .slice A2 m2 c2 ∧ OwnBytes wr w.heap.size 5 A2 m2 c2 (l ++ textsOf (ss.take j)) ∧ Below w.heap.size w wr) (fun _ i _ => k0 - (intOf i).toNat)
  case atStart => exact ⟨0, Nat.zero_le _, rfl, A1, m, c1, rfl, by simpa [textsOf] using ho1, hb1⟩
  case round =>
    obtain ⟨j, hj, rfl, A2, m2, c2, rfl, ho2, hb2⟩ := hrel
    by_cases hlt : j < k0
    · obtain ⟨b, off, rfl, hbb, hc⟩ := (hss.below hb2 (Nat.le_refl _)).at_ hlt
      have hj' : j < ss.length := by omega
      have hH := Lib.hid (textsOf_take ss j hj')
      have hbd := hb ss[j] (List.getElem_mem hj')
      have hl2 := ho2.len
      have hlen := textsOf_len B (by omega) (ss.take j) fun x hx => hb x (mem_take hx)
      rw [List.length_append] at hl2
      rw [List.length_take, Nat.min_eq_left (by omega)] at hlen
      have hlen2 : (10 + B) * j ≤ 1048586 * 1048576 := Nat.mul_le_mul (by omega) (by omega)
      rw [List.getElem_map] at hc
      generalize ss[j]'hj' = x at *
      have hm2 : m2 ≤ 35184372088832 := by omega
      clear hlen hlen2 hl2
      go_wp2_with fail
      refine (appendNumber_any A2 m2 c2 _ x.size _ w.heap.size (by omega) (by omega) ho2 hb2.size hm2).mono ?_
      rintro e w3 ⟨A3, c3, rfl, ho3, hg3⟩
      have hb3 := below_grew hb2 hg3 ho2 (Nat.le_refl _)
      have hL := enc_len10 (zig_lt (n := x.size) (by omega) (by omega))
      go_wp2_with (at_builtin; refine append_str rfl (.tmp 20) (.tmp 21) _ _ rfl 5 i0 Tryz.underlying34 Tryz.underlying9 hi0 hz0 hz1 hz2 _ w.heap.size _ _ _ rfl ho3 x rfl ?h5 hb3.size ?_)
      case h5 => omega
      intro A4 c4 w4 ho4 hg4
      go_wp2
      go_roundw
      case measure => simp [intOf]; omega
      case rel =>
        refine ⟨j + 1, by omega, by go_num, A4, _, c4, rfl, ?_, below_grew hb3 hg4 ho3 (Nat.le_refl _)⟩
        rw [hH.out]
        simpa only [textOf, List.append_assoc] using ho4
    · have hje : ss.take j = ss := List.take_of_length_le (by omega)
      rw [hje] at ho2
      go_wp2
      go_ret
      exact ⟨A2, m2, c2, rfl, ho2, hb2⟩


theorem flags_take (fs : List Bool) (k : Nat) (h : k < fs.length) : (fs.take (k + 1)).map flagOf = (fs.take k).map flagOf ++ [flagOf fs[k]] := by
  rw [List.take_succ_eq_append_getElem h]
  simp only [List.map_append, List.map_cons, List.map_nil]
theorem mem_take_succ {α : Type} {l : List α} {k : Nat} {p : α → Prop} (h : k < l.length) (hp : ∀ x ∈ l.take k, p x) (hk : p l[k]) : ∀ x ∈ l.take (k + 1), p x := by
  rw [List.take_succ_eq_append_getElem h]
  intro x hx
  rcases List.mem_append.1 hx with hx | hx
  · exact hp x hx
  · obtain rfl := List.mem_singleton.1 hx
    exact hk
end Go.Proofs.YtggplgmjonnliaaGreatDoor
