/- An error as the document's number, by whatever sentinels a row lists; rows that are kept. -/
import Derived.Test.YtggplgmjonnliaaGreatDoorApp
import Derived.Test.YtggplgmjonnliaaGreatDoorSee
namespace Go.Proofs.YtggplgmjonnliaaGreatDoor
open Go.RowKit

/-- What an error is seen as: none, or a sentinel's number; E: where the sentinel of a number lies. -/
inductive SeenBy (E : Int → Option Addr) : Value → Int → Prop
  | nil : SeenBy E .nilIface 0
  | err (c : Int) (a : Addr) (h : E c = some a) (hc : c ≠ 0) : SeenBy E (errV a) c
theorem seen_not {E : Int → Option Addr} {ev : Value} {e : Int} (h : SeenBy E ev e) (he : e ≠ 0) : ∃ a, ev = errV a := by
  cases h with
  | nil => exact absurd rfl he
  | err k a h => exact ⟨a, rfl⟩
theorem seen_nil {E : Int → Option Addr} {ev : Value} (h : SeenBy E ev 0) : ev = .nilIface := by
  generalize he : (0 : Int) = e at h
  cases h with
  | nil => rfl
  | err k a h hc => exact absurd he.symm hc
theorem seen_err {E : Int → Option Addr} {ev : Value} {e : Int} (h : SeenBy E ev e) (he : e ≠ 0) : ∃ a, ev = errV a ∧ E e = some a := by
  cases h with
  | nil => exact absurd rfl he
  | err k a h => exact ⟨a, rfl, h⟩
/-- The sentinel of the number c is in variable g. -/
def ErrIn (W : World) (E : Int → Option Addr) (c : Int) (g : Nat) : Prop := ∃ a, E c = some a ∧ W.cell? ⟨g, 0, none⟩ = some (errV a)
theorem ErrIn.below {W w : World} {E : Int → Option Addr} {c : Int} {g : Nat} (h : ErrIn W E c g) (hb : Below W.heap.size W w) : ErrIn w E c g := by
  obtain ⟨a, h1, h2⟩ := h
  exact ⟨a, h1, (hb.cell (p := ⟨g, 0, none⟩) (cell_lt h2)).trans h2⟩
theorem errIn_of {W : World} {E : Int → Option Addr} {gs : List Nat} {ads : List Addr} (hE : Errs W 224 gs ads) (c : Int) (i g : Nat) (hg : gs[i]? = some g) (hc : E c = ads[i]?) : ErrIn W E c g := by
  have hi : i < ads.length := by rw [hE.len]; exact (List.getElem?_eq_some_iff.1 hg).1
  have ha : ads[i]? = some ads[i] := List.getElem?_eq_getElem hi
  exact ⟨ads[i], hc.trans ha, (hE.all i g _ hg ha).var⟩

theorem rowS_kept {w w' : World} {n sz : Nat} {A : Option Addr} {l : List Value} {row : Option Nat} (h : RowS w w.heap.size sz A n l) (hg : w.grownBy w' row) (ha : 0 < n → ∀ a, A = some a → row ≠ some a.block) : RowS w' w'.heap.size sz A n l := by
  refine ⟨h.1, fun hn => ?_⟩
  obtain ⟨b, off, rfl, hlt, hc⟩ := h.2 hn
  refine ⟨b, off, rfl, Nat.lt_of_lt_of_le hlt hg.size, fun k v hv => ?_⟩
  exact (World.cell?_of_block (a := ⟨b, off + k, none⟩) (hg.block b hlt (fun e => ha hn _ rfl e.symm))).trans (hc k v hv)
theorem bytes_kept {w w' : World} {n : Nat} {A : Option Addr} {l : List UInt8} {row : Option Nat} (h : Bytes w w.heap.size A n l) (hg : w.grownBy w' row) (ha : 0 < n → ∀ a, A = some a → row ≠ some a.block) : Bytes w' w'.heap.size A n l := rowS_kept h hg ha
end Go.Proofs.YtggplgmjonnliaaGreatDoor
