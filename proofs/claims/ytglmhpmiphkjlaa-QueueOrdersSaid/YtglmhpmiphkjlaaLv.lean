/- Statements of queue: topics. -/
import Derived.Test.YtglmhpmiphkjlaaLq
namespace Go.Proofs.Ytglmhpmiphkjlaa
open Go.RowKit

namespace Qu
open Ls (T)
/-- Is the lowest bit set? -/
def odd (y : Int) : Bool := decide (Go.bits .and .i64 y 1 = 1)
def tf1 (n : Int) : List ByteArray := if odd n then [sa] else []
def tf2 (n : Int) : List ByteArray := tf1 n ++ (if odd (n / 2) then [sb] else [])
def tf3 (n : Int) : List ByteArray := tf2 n ++ (if odd (n / 4) then [sc] else [])
/-- The topics of a number, the first j of three. -/
def tf (n : Int) : Nat → List ByteArray
  | 0 => []
  | 1 => tf1 n
  | 2 => tf2 n
  | _ => tf3 n
theorem tf_ok (n : Int) : (∀ s ∈ tf n 3, s = sa ∨ s = sb ∨ s = sc) ∧ (tf n 3).length ≤ 3 := by
  show (∀ s ∈ tf3 n, s = sa ∨ s = sb ∨ s = sc) ∧ (tf3 n).length ≤ 3
  unfold tf3 tf2 tf1
  cases h0 : odd n <;> cases h1 : odd (n / 2) <;> cases h2 : odd (n / 4) <;> simp
theorem tf_size (n : Int) : ∀ s ∈ tf n 3, s.size ≤ 1000 := fun s hs => by
  rcases (tf_ok n).1 s hs with rfl | rfl | rfl <;> decide
theorem info_str : (Try.prog.info? 9).map (fun i => (i.zero, i.size, i.bytes)) = some (some (.string ⟨#[]⟩), 1, 16) := by kernel_rfl
theorem own_x (w : World) (base : Nat) (e : TypeId) : OwnK xκ w base e none 0 0 [] := ⟨by decide, by simp, .inl ⟨rfl, rfl⟩⟩
set_option maxRecDepth 100000 in
set_option maxHeartbeats 3200000 in
theorem topics_any (n : Int) (w : World) : Calls Try.prog 19 #[.int .i64 n] w fun e w' => (∃ A m c, e = .returned (.slice A m c) ∧ OwnK xκ w' w.heap.size 9 A m c (tf n 3)) ∧ Below w.heap.size w w' := by
  obtain ⟨i0, hi0, hz0, hz1, hz2⟩ := info_parts info_str
  obtain ⟨j0, hj0, hb0⟩ := and1 n
  obtain ⟨j1, hj1, hb1⟩ := and1 (n / 2)
  obtain ⟨j2, hj2, hb2⟩ := and1 (n / 4)
  have H0 : Hid (odd n = decide (j0 = 1)) := by show decide _ = decide _; rw [hb0]; exact decide_eq_decide.2 (by omega)
  have H1 : Hid (odd (n / 2) = decide (j1 = 1)) := by show decide _ = decide _; rw [hb1]; exact decide_eq_decide.2 (by omega)
  have H2 : Hid (odd (n / 4) = decide (j2 = 1)) := by show decide _ = decide _; rw [hb2]; exact decide_eq_decide.2 (by omega)
  have HL : Hid (∀ j, (tf n j).length ≤ 3) := fun j => by
    have h3 : (tf3 n).length ≤ 3 := (tf_ok n).2
    have h2 : (tf2 n).length ≤ (tf3 n).length := by unfold tf3; rw [List.length_append]; omega
    have h1 : (tf1 n).length ≤ (tf2 n).length := by unfold tf2; rw [List.length_append]; omega
    rcases (show j = 0 ∨ j = 1 ∨ j = 2 ∨ 3 ≤ j by omega) with rfl | rfl | rfl | h
    · show 0 ≤ 3
      omega
    · show (tf1 n).length ≤ 3
      omega
    · show (tf2 n).length ≤ 3
      omega
    · obtain ⟨i, rfl⟩ : ∃ i, j = i + 3 := ⟨j - 3, by omega⟩
      exact h3
  go_enter Try.func19, Try.ntmps19
  go_wp2_with fail
  go_loopw [3, 4] (fun s3 s4 wr => ∃ (j : Nat) (A : Option Addr) (m c : Nat), s3 = .slice A m c ∧ s4 = .int .i64 j ∧ j ≤ 3 ∧ OwnK xκ wr w.heap.size 9 A m c (tf n j) ∧ Below w.heap.size w wr) (fun _ s4 _ => 3 - (intOf s4).toNat)
  case atStart => exact ⟨0, none, 0, 0, rfl, rfl, by decide, own_x _ _ _, Below.refl _ _⟩
  case round =>
    obtain ⟨j, A, m, c, rfl, rfl, hj, hown, hb⟩ := hrel
    have HOWN := Lib.hid hown
    have HB := Lib.hid hb
    have hm3 : m ≤ 3 := by rw [← hown.len]; exact HL.out j
    have hms : m ≤ 1000000 := by omega
    clear hown hb hm3
    rcases (show j = 0 ∨ j = 1 ∨ j = 2 ∨ j = 3 by omega) with rfl | rfl | rfl | rfl
    · rcases (show j0 = 0 ∨ j0 = 1 by omega) with h | h
      · subst h
        have hE : tf n 1 = tf n 0 := by
          show (if odd n then [sa] else []) = _
          rw [H0.out]
          simp [tf]
        have HE := Lib.hid hE
        clear hE
        go_wp2
        go_roundw
        case rel => exact ⟨1, A, m, c, rfl, by first | rfl | go_num, by decide, by rw [HE.out]; exact HOWN.out, HB.out⟩
        case measure =>
          simp only [intOf]
          decide
      · subst h
        have hE : tf n 1 = tf n 0 ++ [sa] := by
          show (if odd n then [sa] else []) = _
          rw [H0.out]
          simp [tf]
        have HE := Lib.hid hE
        clear hE
        have b1 : Below wr.heap.size wr (wr.alloc (.cells #[.string ⟨#[97]⟩, .string ⟨#[98]⟩, .string ⟨#[99]⟩] 9)) := (Below.refl _ _).alloc (Nat.le_refl _) _
        have hsz : (wr.alloc (.cells #[.string ⟨#[97]⟩, .string ⟨#[98]⟩, .string ⟨#[99]⟩] 9)).heap.size = wr.heap.size + 1 := by simp
        have b2 : Below wr.heap.size wr ((wr.alloc (.cells #[.string ⟨#[97]⟩, .string ⟨#[98]⟩, .string ⟨#[99]⟩] 9)).alloc (.cells #[.string ⟨#[97]⟩] 9)) := b1.alloc b1.size _
        have HO2 := Lib.hid (HOWN.out.below b2 (Nat.le_refl _))
        have hR := KRow.lit (κ := xκ) (wr.alloc (.cells #[.string ⟨#[97]⟩, .string ⟨#[98]⟩, .string ⟨#[99]⟩] 9)) 9 [sa] #[.string ⟨#[97]⟩] rfl
        rw [hsz] at hR
        have HR := Lib.hid hR
        have HB2 := Lib.hid (HB.out.trans (b2.mono HB.out.size))
        have HBS := Lib.hid (HB.out.trans (b2.mono HB.out.size)).size
        clear b1 b2 hsz hR
        go_wp2_with (at_builtin; refine append_k (κ := xκ) rfl (.tmp 15) (.tmp 20) 49 9 i0 _ 16 Try.underlying49 hi0 hz0 hz1 hz2 rfl rfl _ w.heap.size _ A m c _ ⟨wr.heap.size + 1, 0, none⟩ sa rfl HO2.out rfl HR.out hms (by decide) HBS.out ?_; intro A2 c2 w2 ho2 hg2)
        go_roundw
        case rel => exact ⟨1, A2, m + 1, c2, rfl, by first | rfl | go_num, by decide, by rw [HE.out]; exact ho2, HB2.out.grown hg2.grown HB2.out.size (fun k hk => by obtain ⟨a, ha, hb⟩ := blkof hk; have := (HO2.out.block ha).1; omega)⟩
        case measure =>
          simp only [intOf]
          decide
    · rcases (show j1 = 0 ∨ j1 = 1 by omega) with h | h
      · subst h
        have hE : tf n 2 = tf n 1 := by
          show tf1 n ++ (if odd (n / 2) then [sb] else []) = _
          rw [H1.out]
          simp [tf]
        have HE := Lib.hid hE
        clear hE
        go_wp2
        go_roundw
        case rel => exact ⟨2, A, m, c, rfl, by first | rfl | go_num, by decide, by rw [HE.out]; exact HOWN.out, HB.out⟩
        case measure =>
          simp only [intOf]
          decide
      · subst h
        have hE : tf n 2 = tf n 1 ++ [sb] := by
          show tf1 n ++ (if odd (n / 2) then [sb] else []) = _
          rw [H1.out]
          simp [tf]
        have HE := Lib.hid hE
        clear hE
        have b1 : Below wr.heap.size wr (wr.alloc (.cells #[.string ⟨#[97]⟩, .string ⟨#[98]⟩, .string ⟨#[99]⟩] 9)) := (Below.refl _ _).alloc (Nat.le_refl _) _
        have hsz : (wr.alloc (.cells #[.string ⟨#[97]⟩, .string ⟨#[98]⟩, .string ⟨#[99]⟩] 9)).heap.size = wr.heap.size + 1 := by simp
        have b2 : Below wr.heap.size wr ((wr.alloc (.cells #[.string ⟨#[97]⟩, .string ⟨#[98]⟩, .string ⟨#[99]⟩] 9)).alloc (.cells #[.string ⟨#[98]⟩] 9)) := b1.alloc b1.size _
        have HO2 := Lib.hid (HOWN.out.below b2 (Nat.le_refl _))
        have hR := KRow.lit (κ := xκ) (wr.alloc (.cells #[.string ⟨#[97]⟩, .string ⟨#[98]⟩, .string ⟨#[99]⟩] 9)) 9 [sb] #[.string ⟨#[98]⟩] rfl
        rw [hsz] at hR
        have HR := Lib.hid hR
        have HB2 := Lib.hid (HB.out.trans (b2.mono HB.out.size))
        have HBS := Lib.hid (HB.out.trans (b2.mono HB.out.size)).size
        clear b1 b2 hsz hR
        go_wp2_with (at_builtin; refine append_k (κ := xκ) rfl (.tmp 15) (.tmp 20) 49 9 i0 _ 16 Try.underlying49 hi0 hz0 hz1 hz2 rfl rfl _ w.heap.size _ A m c _ ⟨wr.heap.size + 1, 0, none⟩ sb rfl HO2.out rfl HR.out hms (by decide) HBS.out ?_; intro A2 c2 w2 ho2 hg2)
        go_roundw
        case rel => exact ⟨2, A2, m + 1, c2, rfl, by first | rfl | go_num, by decide, by rw [HE.out]; exact ho2, HB2.out.grown hg2.grown HB2.out.size (fun k hk => by obtain ⟨a, ha, hb⟩ := blkof hk; have := (HO2.out.block ha).1; omega)⟩
        case measure =>
          simp only [intOf]
          decide
    · rcases (show j2 = 0 ∨ j2 = 1 by omega) with h | h
      · subst h
        have hE : tf n 3 = tf n 2 := by
          show tf2 n ++ (if odd (n / 4) then [sc] else []) = _
          rw [H2.out]
          simp [tf]
        have HE := Lib.hid hE
        clear hE
        go_wp2
        go_roundw
        case rel => exact ⟨3, A, m, c, rfl, by first | rfl | go_num, by decide, by rw [HE.out]; exact HOWN.out, HB.out⟩
        case measure =>
          simp only [intOf]
          decide
      · subst h
        have hE : tf n 3 = tf n 2 ++ [sc] := by
          show tf2 n ++ (if odd (n / 4) then [sc] else []) = _
          rw [H2.out]
          simp [tf]
        have HE := Lib.hid hE
        clear hE
        have b1 : Below wr.heap.size wr (wr.alloc (.cells #[.string ⟨#[97]⟩, .string ⟨#[98]⟩, .string ⟨#[99]⟩] 9)) := (Below.refl _ _).alloc (Nat.le_refl _) _
        have hsz : (wr.alloc (.cells #[.string ⟨#[97]⟩, .string ⟨#[98]⟩, .string ⟨#[99]⟩] 9)).heap.size = wr.heap.size + 1 := by simp
        have b2 : Below wr.heap.size wr ((wr.alloc (.cells #[.string ⟨#[97]⟩, .string ⟨#[98]⟩, .string ⟨#[99]⟩] 9)).alloc (.cells #[.string ⟨#[99]⟩] 9)) := b1.alloc b1.size _
        have HO2 := Lib.hid (HOWN.out.below b2 (Nat.le_refl _))
        have hR := KRow.lit (κ := xκ) (wr.alloc (.cells #[.string ⟨#[97]⟩, .string ⟨#[98]⟩, .string ⟨#[99]⟩] 9)) 9 [sc] #[.string ⟨#[99]⟩] rfl
        rw [hsz] at hR
        have HR := Lib.hid hR
        have HB2 := Lib.hid (HB.out.trans (b2.mono HB.out.size))
        have HBS := Lib.hid (HB.out.trans (b2.mono HB.out.size)).size
        clear b1 b2 hsz hR
        go_wp2_with (at_builtin; refine append_k (κ := xκ) rfl (.tmp 15) (.tmp 20) 49 9 i0 _ 16 Try.underlying49 hi0 hz0 hz1 hz2 rfl rfl _ w.heap.size _ A m c _ ⟨wr.heap.size + 1, 0, none⟩ sc rfl HO2.out rfl HR.out hms (by decide) HBS.out ?_; intro A2 c2 w2 ho2 hg2)
        go_roundw
        case rel => exact ⟨3, A2, m + 1, c2, rfl, by first | rfl | go_num, by decide, by rw [HE.out]; exact ho2, HB2.out.grown hg2.grown HB2.out.size (fun k hk => by obtain ⟨a, ha, hb⟩ := blkof hk; have := (HO2.out.block ha).1; omega)⟩
        case measure =>
          simp only [intOf]
          decide
    · go_wp2
      go_ret
      exact ⟨⟨A, m, c, rfl, HOWN.out⟩, HB.out⟩
end Qu
end Go.Proofs.Ytglmhpmiphkjlaa
