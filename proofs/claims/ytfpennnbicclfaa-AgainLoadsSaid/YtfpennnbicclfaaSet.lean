/- A byte of a row of the call's own is written. -/
import Derived.Test.YtfpennnbicclfaaApp
import Derived.Laws.BitsAllLaws
namespace Go.Proofs.Ytfpennnbicclfaa
open Go.RowKit

theorem u8_turn (x : UInt8) (r : Nat) : Go.bits .xor .u8 (x.toNat : Int) ((2 : Int) ^ r % (256 : Int)) = ((x ^^^ UInt8.ofNat (2 ^ r)).toNat : Int) := by
  have e : (2 : Int) ^ r % (256 : Int) = ((UInt8.ofNat (2 ^ r)).toNat : Int) := by
    rw [UInt8.toNat_ofNat']; simp
  rw [e, u8_xor_nat _ _ x.toNat_lt (UInt8.toNat_lt _), UInt8.toNat_xor]
theorem own_some {w : World} {base n c : Nat} {e : TypeId} {A : Option Addr} {l : List UInt8} (h : OwnBytes w base e A n c l) (hn : 0 < n) : ∃ g, A = some ⟨g, 0, none⟩ ∧ base ≤ g ∧ g < w.heap.size := by
  rcases h.2 with ⟨_, h0⟩ | ⟨g, cap, cur, hv, hg, hh, _⟩
  · omega
  · injection hv with hA _ _
    refine ⟨g, hA, hg, ?_⟩
    rcases Nat.lt_or_ge g w.heap.size with h' | h'
    · exact h'
    · rw [Array.getElem?_eq_none h'] at hh; cases hh
theorem own_frozen {w : World} {base n c g : Nat} {e : TypeId} {l : List UInt8} (h : OwnBytes w base e (some ⟨g, 0, none⟩) n c l) (o : Nat) : w.frozen? ⟨g, o, none⟩ = false := by
  rcases h.2 with ⟨hv, _⟩ | ⟨g', cap, cur, hv, hg, hh, _⟩
  · cases hv
  · obtain rfl : g = g' := by injection hv with hA; injection hA with hA; injection hA
    unfold World.frozen?
    rw [hh]; rfl
theorem u8_xor (x y : UInt8) : Go.bits .xor .u8 (x.toNat : Int) (y.toNat : Int) = ((x ^^^ y).toNat : Int) := by
  rw [u8_xor_nat _ _ x.toNat_lt (UInt8.toNat_lt _), UInt8.toNat_xor]
theorem own_set {w : World} {base n c g q : Nat} {e : TypeId} {l : List UInt8} (h : OwnBytes w base e (some ⟨g, 0, none⟩) n c l) (y : UInt8) :
    OwnBytes (w.setCell ⟨g, q, none⟩ (.int .u8 (y.toNat : Int))) base e (some ⟨g, 0, none⟩) n c (l.set q y) := by
  have h1 := (World.ownsRow.stored h q (bv y)).1
  rw [← List.map_set] at h1
  exact h1
end Go.Proofs.Ytfpennnbicclfaa
