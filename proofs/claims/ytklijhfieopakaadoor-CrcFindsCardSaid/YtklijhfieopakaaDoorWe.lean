/- The walks of the statements of chapter 1: first, CrcSeeds. -/
import Derived.Test.YtklijhfieopakaaDoorWd
import Derived.Test.YtklijhfieopakaaDoorTabs
namespace Go.Proofs.YtklijhfieopakaaDoor
open Go.RowKit

theorem len_tail (l : List UInt8) (s : BitVec 32) : (Crc.tail l s).length = 4 := rfl

set_option maxHeartbeats 400000 in
theorem first_any (w : World) (ht : Steps w) :
    Calls Tryd.prog 7 #[] w fun e w' => e = .returned (.bool true) ∧ Below w.heap.size w w' := by
  go_enter Tryd.func7, Tryd.ntmps7
  go_wp2_with fail
  refine (seal_any none 0 0 [] 1#32 _ (Bytes.nil _ _ _) (fun _ => ⟨rfl, rfl⟩) (by omega) ht).mono ?_
  rintro e w1 ⟨A1, c1, rfl, ho1, hb1⟩
  go_wp2_with fail
  refine (sum_any [] _ none 0 0 _ (Row.nil _ 0 _) (by omega) (by intro p hp; cases hp) (ht.below hb1 (Nat.le_refl _))).mono ?_
  rintro e w2 ⟨rfl, rfl⟩
  rw [show u (Crc.sum (allOf [])) = 0 from sum_nil]
  go_wp2
  go_ret
  exact ⟨rfl, hb1⟩

attribute [local go_sem] u32_xor in
set_option maxHeartbeats 1000000 in
theorem seeds_walk (A : Option Addr) (n c : Nat) (b : List UInt8) (s : BitVec 32) (i k l : Int) (w : World) (T : TypeId) (p : Option Addr) (hS : w.cell? ⟨1, 0, none⟩ = some (.iface T (.pointer p)))
    (hr : Bytes w w.heap.size A n b) (hA : A = none → n = 0 ∧ c = 0) (ht : Steps w) :
    Calls Tryd.prog 6 #[.slice A n c, .int .u32 (u s), .int .i64 i, .int .i64 k, .int .i64 l] w fun e w' => e = .returned (.bool true) ∧ Below w.heap.size w w' := by
  by_cases hn : 300 < n
  · go_enter Tryd.func6, Tryd.ntmps6
    go_wp2_with (go_at_call 7; refine (first_any _ ht).mono ?_; rintro e w1 ⟨rfl, hb1⟩)
    go_ret
    exact ⟨rfl, hb1⟩
  · obtain ⟨j1, hj1, e1⟩ := u32_shl_bit i
    obtain ⟨j2, hj2, e2⟩ := u32_shl_bit k
    obtain ⟨j3, hj3, e3⟩ := u32_shl_bit l
    have hne : s ^^^ 1#32 <<< j1 ^^^ 1#32 <<< j2 ^^^ 1#32 <<< j3 ≠ s := by
      intro h
      refine Crc.three_ne hj1 hj2 hj3 ?_
      have := congrArg (s ^^^ ·) h
      simp only [BitVec.xor_self] at this
      rw [← this]
      have e0 : s ^^^ (s ^^^ 1#32 <<< j1 ^^^ 1#32 <<< j2 ^^^ 1#32 <<< j3) = (s ^^^ s) ^^^ (1#32 <<< j1 ^^^ 1#32 <<< j2 ^^^ 1#32 <<< j3) := by ac_rfl
      rw [e0, BitVec.xor_self, BitVec.zero_xor]
    go_enter Tryd.func6, Tryd.ntmps6
    go_wp2_with (go_at_call 7; refine (first_any _ ht).mono ?_; rintro e w1 ⟨rfl, hb1⟩)
    clear e1 e2 e3
    generalize hx : s ^^^ 1#32 <<< j1 ^^^ 1#32 <<< j2 ^^^ 1#32 <<< j3 = x at *
    clear hx
    have hs1 := hb1.size
    refine (seal_any A n c b s _ ((hr.below hb1 (Nat.le_refl _)).mono hs1) hA (by omega) (ht.below hb1 (Nat.le_refl _))).mono ?_
    rintro e w2 ⟨A2, c2, rfl, ho2, hb2⟩
    have hs2 := hb2.size
    have hb2' : Below w.heap.size w w2 := hb1.trans (hb2.mono hs1)
    have h4 : (bne ((n : Int) + 4) ((n : Int) + 4)) = false := by simp
    go_wp2_with fail
    have hbl := hr.len
    have hd : (b ++ Crc.tail b s).drop (n + 4 - 4) = Crc.tail b s := by rw [show n + 4 - 4 = b.length from by omega, List.drop_left]
    have hk : (b ++ Crc.tail b s).take (n + 4 - 4) = b := by rw [show n + 4 - 4 = b.length from by omega, List.take_left]
    have hS2 : w2.cell? ⟨1, 0, none⟩ = some (.iface T (.pointer p)) := (hb2'.cell (p := ⟨1, 0, none⟩) (World.lt_of_cell hS)).trans hS
    refine (open_wrong A2 (n + 4) c2 (b ++ Crc.tail b s) x _ _ hS2 (by omega) ho2.bytes ho2.cap (by omega) ((ht.below hb1 (Nat.le_refl _)).below hb2 (Nat.le_refl _)) (by rw [hd, hk]; exact fun h => hne (Crc.tail_inj h).symm)).mono ?_
    rintro e w3 ⟨rfl, hb3⟩
    have hb3' : Below w.heap.size w w3 := hb2'.trans (hb3.mono (by omega))
    have hs3 := hb3.size
    have hxs : (u x == u s) = false := by rw [u_beq, beq_eq_false_iff_ne]; exact hne
    have hf := ho2.bytes.front (k := n) (by omega)
    rw [show n = n + 4 - 4 from by omega, hk, show n + 4 - 4 = n from by omega] at hf
    clear hd hk hbl
    have hc2 := ho2.cap
    go_wp2_with fail
    refine (same_any A2 A n n c2 c b b _ ((hf.below hb3 (Nat.le_refl _)).mono hs3) ((hr.below hb3' (Nat.le_refl _)).mono hb3'.size) (by omega) (by omega)).mono ?_
    rintro e w4 ⟨rfl, hb4⟩
    rw [show (b == b) = true from by simp]
    go_wp2
    go_ret
    exact ⟨rfl, hb3'.trans (hb4.mono hb3'.size)⟩

theorem crcSeeds_walk (A : Option Addr) (n c : Nat) (b : List UInt8) (s : BitVec 32) (i k l : Int) (ads : List Addr) (w : World) (h0 : InBytes w A n c b)
    (_ : -9223372036854775808 ≤ i) (_ : i ≤ 9223372036854775807) (_ : -9223372036854775808 ≤ k) (_ : k ≤ 9223372036854775807) (_ : -9223372036854775808 ≤ l) (_ : l ≤ 9223372036854775807)
    (hE : Errs w 65 [0, 1] ads) (ht : Steps w) :
    Calls Tryd.prog 6 #[.slice A n c, .int .u32 (u s), .int .i64 i, .int .i64 k, .int .i64 l] w fun e w' => e = .returned (.bool true) ∧ Below w.heap.size w w' := by
  obtain ⟨a1, ha1⟩ : ∃ a, ads[1]? = some a := by
    have := hE.len
    exact ⟨ads[1]'(by simp at this; omega), List.getElem?_eq_getElem _⟩
  exact seeds_walk A n c b s i k l w _ _ (hE.all 1 _ a1 rfl ha1).var h0.bytes h0.nn ht
end Go.Proofs.YtklijhfieopakaaDoor
