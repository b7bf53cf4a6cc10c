/- Package queue: of. -/
import Derived.Test.YtdmbbbljamjhkaaLe
namespace Go.Proofs.Ytdmbbbljamjhkaa
open Go.RowKit

namespace Qu
open Ls (T)
theorem blkof {A : Option Addr} {n c r : Nat} (h : (Value.slice A n c).ownBlock = some r) : ∃ a, A = some a ∧ a.block = r := by
  cases A with
  | none => cases h
  | some a => exact ⟨a, rfl, Option.some.inj h⟩
theorem own_ne {α : Type} {κ : Cs α} {w : World} {base n c q : Nat} {e : TypeId} {A : Option Addr} {l : List α} (ho : OwnK κ w base e A n c l) (hq : q < base) : (Value.slice A n c).ownBlock ≠ some q := fun h => by
  obtain ⟨a, ha, hb⟩ := blkof h
  have h1 := (ho.block ha).1
  omega
theorem asked_succ (ts : List ByteArray) {j : Nat} (hj : j < ts.length) : asked (ts.take (j + 1)) = (asked (ts.take j)).put (kS ts[j]!) (.agg []) := by
  unfold asked
  rw [List.take_succ_eq_append_getElem hj, List.map_append, getElem!_pos ts j hj]
  exact Maps.setOf_snoc _ _ _
/-- The topics that were asked for, as they lie in the loop. -/
def Ask (w : World) (b n : Nat) (D : DataW Unit) : Prop := w.ownsMap Try.prog 9 (unitElem (H := Unit)) b n D
theorem own_nil (κ : Cs T) (hk : 0 < κ.k) (w : World) (base : Nat) (e : TypeId) : OwnK κ w base e none 0 0 [] := ⟨hk, by simp, .inl ⟨rfl, rfl⟩⟩
end Qu
end Go.Proofs.Ytdmbbbljamjhkaa
