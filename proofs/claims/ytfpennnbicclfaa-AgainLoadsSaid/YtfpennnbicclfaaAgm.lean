/- Package again: a book that was just made; the statements' first. -/
import Derived.Test.YtfpennnbicclfaaAgg
import Derived.Test.YtfpennnbicclfaaAgl
namespace Go.Proofs.Ytfpennnbicclfaa
open Go.RowKit

namespace Ag
theorem BkC.zero {w : World} {q : Nat} (h : Cel w q [.map none]) : BkC w q none [] :=
  ⟨h, List.Pairwise.nil, .inl ⟨rfl, rfl⟩, fun _ h => (by cases h), fun _ h => (by cases h), fun _ h => (by cases h), fun _ h => (by cases h), Nat.zero_le _⟩
theorem look_nil (s : ByteArray) (i k : Int) : look [] s i k = (0, []) := rfl
theorem keep_nil (s : ByteArray) (i k : Int) (r : List UInt8) : keep [] s i k r = [⟨s, i, [k], [r]⟩] := rfl
theorem look_one (s : ByteArray) (i k : Int) (r : List UInt8) : look [⟨s, i, [k], [r]⟩] s i k = (1, r) := by
  simp [look, at?, List.find?, Lib.idxBy, Lib.idxByFrom]
theorem bytes1 (w : World) (x : UInt8) : Bytes (w.alloc (.cells #[.int .u8 (x.toNat : Int)] 5)) (w.heap.size + 1) (some ⟨w.heap.size, 0, none⟩) 1 [x] := by
  refine ⟨rfl, fun _ => ⟨w.heap.size, 0, rfl, by omega, fun k v hk => ?_⟩⟩
  have := cell_of_row (w.alloc (.cells #[.int .u8 (x.toNat : Int)] 5)) w.heap.size k _ _ (0, 0) (heap_alloc_new w _)
  rw [Nat.zero_add]
  exact this.trans (by simpa [bv] using hk)
theorem wr_below {q : Nat} {m : Option Nat} {l : List Pg} {B : Nat} {w w' : World} (h : Kp (Wr q m l) w w') (hB : B ≤ w.heap.size) (hf : ∀ x, Foot q m l x → B ≤ x) : Below B w w' :=
  h.below hB fun i hi hw => by have := hf i (.inl hw); omega
theorem foot_nil {q x : Nat} (h : Foot q none [] x) : x = q := by
  rcases h with (h | h | ⟨_, h, _⟩) | ⟨_, h, _⟩
  · exact h
  · cases h
  · cases h
  · cases h
def sw : ByteArray := ⟨#[119]⟩
set_option maxRecDepth 10000 in
set_option maxHeartbeats 1600000 in
theorem first_any (w : World) : Calls Try.prog 8 #[] w fun e w' => e = .returned (.bool true) ∧ Below w.heap.size w w' := by
  have hq := Cel.lit w #[.map none] 27
  have hb1 : Below w.heap.size w (w.alloc (.cells #[.map none] 27)) := (Below.refl _ _).alloc (Nat.le_refl _) _
  have hs1 : (w.alloc (.cells #[.map none] 27)).heap.size = w.heap.size + 1 := by simp
  have hb2 := hb1.alloc hb1.size (.cells #[.string sw, .int .i64 1, .int .i64 1] 39)
  have hq2 := hq.alloc (.cells #[.string sw, .int .i64 1, .int .i64 1] 39)
  have hh2 := Cel.lit (w.alloc (.cells #[.map none] 27)) #[.string sw, .int .i64 1, .int .i64 1] 39
  rw [hs1] at hh2
  have HB2 := Lib.hid hb2
  have HQ2 := Lib.hid hq2
  have HH2 := Lib.hid hh2
  obtain ⟨d0, d1, d2⟩ := cel3 hh2
  clear hq hb1 hs1 hb2 hq2 hh2
  unfold sw at *
  go_enter Try.func8, Try.ntmps8
  go_wp2_with fail
  have hs2 : (w.alloc (.cells #[.map none] 27)).heap.size = w.heap.size + 1 := by simp
  have hw2 : w.heap.size + 1 < ((w.alloc (.cells #[.map none] 27)).alloc (.cells #[.string ⟨#[119]⟩, .int .i64 1, .int .i64 1] 39)).heap.size := by simp
  have hsz2 : ((w.alloc (.cells #[.map none] 27)).alloc (.cells #[.string ⟨#[119]⟩, .int .i64 1, .int .i64 1] 39)).heap.size = w.heap.size + 1 + 1 := by simp
  clear hs2
  generalize (w.alloc _).alloc _ = w2 at *
  have hb3 : Below w2.heap.size w2 (w2.alloc (.cells #[.int .u8 1] 5)) := (Below.refl _ _).alloc (Nat.le_refl _) _
  have hbk3 := BkC.zero (HQ2.out.below hb3 (Nat.le_refl _))
  have hk0 := keep_any w.heap.size none [] ⟨#[119]⟩ 1 1 (some ⟨w2.heap.size, 0, none⟩) 1 1 [1] _ hbk3 (by decide) ((bytes1 w2 1).mono (by simp)) (fun h => by cases h) (by decide) (fun _ a ha hw => by
    cases ha
    rcases hw with h | h | ⟨_, h, _⟩
    · have h : w2.heap.size = w.heap.size := h
      omega
    · cases h
    · cases h)
  rw [List.map_nil, look_nil, keep_nil, hsz2] at hk0
  have HK : Hid (Calls Try.prog 12 #[.pointer (some ⟨w.heap.size, 0, none⟩), .agg #[.string ⟨#[119]⟩, .int .i64 1, .int .i64 1], .slice (some ⟨w.heap.size + 1 + 1, 0, none⟩) 1 1] (w2.alloc (.cells #[.int .u8 1] 5)) fun e w' => e = .returned (.bool true) ∧ KeepOut w.heap.size none [] [⟨⟨#[119]⟩, 1, [1], [[1]]⟩] (w2.alloc (.cells #[.int .u8 1] 5)) w') := hk0
  clear hk0
  (with_reducible refine HK.out.mono ?_)
  rintro e w4 ⟨rfl, m4, l4, hbk4, hl4, hkp4, hft4⟩
  have hb4 : Below w.heap.size w w4 := (HB2.out.trans (hb3.mono HB2.out.size)).trans (wr_below hkp4 (by have := hb3.size; omega) (fun x hx => by have := foot_nil hx; omega))
  have hh4 := hkp4.cel (HH2.out.below hb3 (Nat.le_refl _)) (fun hx => by have := foot_nil (.inl hx); omega)
  have HB4 := Lib.hid hb4
  obtain ⟨d0, d1, d2⟩ := cel3 hh4
  have hk1 := keep_any w.heap.size m4 l4 ⟨#[119]⟩ 1 1 none 0 0 [] w4 hbk4 (by decide) (Row.nil _ _ _) (fun _ => ⟨rfl, rfl⟩) (by decide) (fun _ a ha => by cases ha)
  have HK5 : Hid (Calls Try.prog 12 #[.pointer (some ⟨w.heap.size, 0, none⟩), .agg #[.string ⟨#[119]⟩, .int .i64 1, .int .i64 1], .slice none 0 0] w4 fun e w' => e = .returned (.bool false) ∧ Below w.heap.size w w') := hk1.mono (by
    rintro e w' ⟨rfl, _, _, _, _, hkp5, _⟩
    rw [hl4, look_one]
    exact ⟨rfl, HB4.out.trans (wr_below hkp5 HB4.out.size (fun x hx => by
      rcases hft4 x hx with h | h
      · have := foot_nil h
        omega
      · have := hb3.size
        omega))⟩)
  clear hk1 hh4 hb4 hkp4 hft4 hbk4 hbk3 hb3 hsz2 hw2
  go_wp2_with (go_at_call 12; (with_reducible refine HK5.out.mono ?_); rintro e w5 ⟨rfl, hb5⟩)
  go_ret
  exact ⟨rfl, hb5⟩
end Ag
end Go.Proofs.Ytfpennnbicclfaa
