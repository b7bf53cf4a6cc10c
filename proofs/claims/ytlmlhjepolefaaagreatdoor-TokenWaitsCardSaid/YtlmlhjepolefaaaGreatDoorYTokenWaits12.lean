/- Walks of leaseholdmake: one node more, one flow more. A byte of a row of the call's own is written. The program's isNode. -/
import Derived.Test.YtlmlhjepolefaaaGreatDoorYTokenWaits10
import Derived.Deep.QuietTactic
import Derived.BigQuiet
import Derived.Deep.CutRange
import Derived.Test.YtlmlhjepolefaaaGreatDoorAppY
import Derived.Laws.BitsAllLaws
namespace Go.Proofs.YtlmlhjepolefaaaGreatDoor
open Go.RowKit

namespace Pr
section
variable {w : World} {base q : Nat} {p : P}
theorem nd_facts {w : World} {z : Nat} {a0 a1 a2 a3 a4 a5 a6 a7 : Value} (h : Cel w z [a0, a1, a2, a3, a4, a5, a6, a7]) : w.cell? ⟨z, 0, none⟩ = some a0 ∧ w.cell? ⟨z, 1, none⟩ = some a1 ∧ w.cell? ⟨z, 2, none⟩ = some a2 ∧ w.cell? ⟨z, 3, none⟩ = some a3 ∧ w.cell? ⟨z, 4, none⟩ = some a4 ∧ w.cell? ⟨z, 5, none⟩ = some a5 ∧ w.cell? ⟨z, 6, none⟩ = some a6 ∧ w.cell? ⟨z, 7, none⟩ = some a7 :=
  ⟨h.cell 0 _ rfl, h.cell 1 _ rfl, h.cell 2 _ rfl, h.cell 3 _ rfl, h.cell 4 _ rfl, h.cell 5 _ rfl, h.cell 6 _ rfl, h.cell 7 _ rfl⟩
theorem tri_facts {w : World} {z : Nat} {a0 a1 a2 : Value} (h : Cel w z [a0, a1, a2]) : (w.cell? ⟨z, 0, none⟩ = some a0 ∧ w.cell? ⟨z, 1, none⟩ = some a1 ∧ w.cell? ⟨z, 2, none⟩ = some a2) ∧ (w.frozen? ⟨z, 0, none⟩ = false ∧ w.frozen? ⟨z, 1, none⟩ = false ∧ w.frozen? ⟨z, 2, none⟩ = false) :=
  ⟨⟨h.cell 0 _ rfl, h.cell 1 _ rfl, h.cell 2 _ rfl⟩, h.froz 0 (by simp), h.froz 1 (by simp), h.froz 2 (by simp)⟩
theorem cel_grew {w w' : World} {q : Nat} {cs : List Value} {A : Option Addr} {n c : Nat} {v' : Value} (hc : Cel w q cs) (hg : Grew w w' (.slice A n c) v') (h1 : ∀ a, A = some a → a.block ≠ q) : Cel w' q cs :=
  hc.kept hg.grown (by
    intro he
    cases A with
    | none => cases he
    | some a => exact h1 a rfl (Option.some.inj he))
end
end Pr
end Go.Proofs.YtlmlhjepolefaaaGreatDoor
namespace Go.Proofs.YtlmlhjepolefaaaGreatDoor
open Go.RowKit

theorem u8_turn (x : UInt8) (r : Nat) : Go.bits .xor .u8 (x.toNat : Int) ((2 : Int) ^ r % (256 : Int)) = ((x ^^^ UInt8.ofNat (2 ^ r)).toNat : Int) := by
  have e : (2 : Int) ^ r % (256 : Int) = ((UInt8.ofNat (2 ^ r)).toNat : Int) := by
    rw [UInt8.toNat_ofNat']; simp
  rw [e, u8_xor_nat _ _ x.toNat_lt (UInt8.toNat_lt _), UInt8.toNat_xor]
theorem own_some {w : World} {base n c : Nat} {e : TypeId} {A : Option Addr} {l : List UInt8} (h : OwnBytes w base e A n c l) (hn : 0 < n) : ∃ g, A = some ⟨g, 0, none⟩ ∧ base ≤ g ∧ g < w.heap.size := by
  rcases h.2 with ⟨_, h0⟩ | ⟨g, cap, cur, hv, hg, hh, _⟩
  · omega
  · injection hv with hA _ _
    refine ⟨g, hA, hg, ?_⟩
    rcases Nat.lt_or_ge g w.heap.size with h' | h'
    · exact h'
    · rw [Array.getElem?_eq_none h'] at hh; cases hh
theorem own_frozen {w : World} {base n c g : Nat} {e : TypeId} {l : List UInt8} (h : OwnBytes w base e (some ⟨g, 0, none⟩) n c l) (o : Nat) : w.frozen? ⟨g, o, none⟩ = false := by
  rcases h.2 with ⟨hv, _⟩ | ⟨g', cap, cur, hv, hg, hh, _⟩
  · cases hv
  · obtain rfl : g = g' := by injection hv with hA; injection hA with hA; injection hA
    unfold World.frozen?
    rw [hh]; rfl
theorem u8_xor (x y : UInt8) : Go.bits .xor .u8 (x.toNat : Int) (y.toNat : Int) = ((x ^^^ y).toNat : Int) := by
  rw [u8_xor_nat _ _ x.toNat_lt (UInt8.toNat_lt _), UInt8.toNat_xor]
theorem own_set {w : World} {base n c g q : Nat} {e : TypeId} {l : List UInt8} (h : OwnBytes w base e (some ⟨g, 0, none⟩) n c l) (y : UInt8) :
    OwnBytes (w.setCell ⟨g, q, none⟩ (.int .u8 (y.toNat : Int))) base e (some ⟨g, 0, none⟩) n c (l.set q y) := by
  have h1 := (World.ownsRow.stored h q (bv y)).1
  rw [← List.map_set] at h1
  exact h1
end Go.Proofs.YtlmlhjepolefaaaGreatDoor
namespace Go.Proofs.YtlmlhjepolefaaaGreatDoor
open Go.RowKit

namespace Pr
section
variable {w : World}
set_option maxHeartbeats 800000 in
theorem isnode_any (s : ByteArray) (A : Option Addr) (n c : Nat) (F : Option Addr) (m d : Nat) (i : Int) :
    Calls Tryz.prog 46 #[.agg #[.string s, .slice A n c, .slice F m d], .int .i64 i] w fun e w' => e = .returned (.bool (decide (0 ≤ i) && decide (i < n))) ∧ Below w.heap.size w w' := by
  have HB := Lib.hid ((Below.refl w.heap.size w).alloc (Nat.le_refl _) (.cells #[.string s, .slice A n c, .slice F m d] 32))
  have hcel := Cel.lit w #[.string s, .slice A n c, .slice F m d] 32
  obtain ⟨R, hR⟩ : ∃ R, (decide (0 ≤ i) && decide (i < (n : Int))) = R := ⟨_, rfl⟩
  rw [hR]
  go_enter Tryz.func46, Tryz.ntmps46
  by_cases h1 : 0 ≤ i
  · by_cases h2 : i < (n : Int)
    · obtain rfl : R = true := by rw [← hR, decide_eq_true h1, decide_eq_true h2]; rfl
      clear hR
      go_upto_region 1 with (fail)
      generalize w.alloc _ = wb at *
      obtain ⟨⟨z0, z1, z2⟩, _⟩ := tri_facts hcel
      go_wp2
      go_ret
      exact ⟨rfl, HB.out⟩
    · obtain rfl : R = false := by rw [← hR, decide_eq_true h1, decide_eq_false h2]; rfl
      clear hR
      go_upto_region 1 with (fail)
      generalize w.alloc _ = wb at *
      obtain ⟨⟨z0, z1, z2⟩, _⟩ := tri_facts hcel
      go_wp2
      go_ret
      exact ⟨rfl, HB.out⟩
  · obtain rfl : R = false := by rw [← hR, decide_eq_false h1]; rfl
    clear hR
    go_wp2
    go_ret
    exact ⟨rfl, HB.out⟩
end
end Pr
end Go.Proofs.YtlmlhjepolefaaaGreatDoor
