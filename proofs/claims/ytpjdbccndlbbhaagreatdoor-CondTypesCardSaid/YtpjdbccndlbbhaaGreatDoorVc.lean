/- Walks of package vars: what is amiss with variables. -/
import Derived.Test.YtpjdbccndlbbhaaGreatDoorVm
import Derived.Test.YtpjdbccndlbbhaaGreatDoorVn
import Derived.Test.YtpjdbccndlbbhaaGreatDoorFe
namespace Go.Proofs.YtpjdbccndlbbhaaGreatDoor
open Go.RowKit

/-- The sentinels that vars tells. -/
structure VaErrs (W : World) (E : Int → Option Addr) : Prop where
  e104 : ErrIn W E 104 9
  e105 : ErrIn W E 105 0
  e106 : ErrIn W E 106 10
  e109 : ErrIn W E 109 12
  e110 : ErrIn W E 110 2
theorem VaErrs.below {W w : World} {E : Int → Option Addr} (h : VaErrs W E) (hb : Below W.heap.size W w) : VaErrs w E :=
  ⟨h.e104.below hb, h.e105.below hb, h.e106.below hb, h.e109.below hb, h.e110.below hb⟩
def pos5 (c : Int) : Nat := if c = 104 then 0 else if c = 105 then 1 else if c = 106 then 2 else if c = 109 then 3 else if c = 110 then 4 else 1000
theorem vaErrs5 {W : World} {ads : List Addr} (hE : Errs W 136 [9, 0, 10, 12, 2] ads) : VaErrs W (errMap pos5 ads) where
  e104 := errIn_of hE 104 0 _ rfl rfl
  e105 := errIn_of hE 105 1 _ rfl rfl
  e106 := errIn_of hE 106 2 _ rfl rfl
  e109 := errIn_of hE 109 3 _ rfl rfl
  e110 := errIn_of hE 110 4 _ rfl rfl
theorem vaErrs16 {W : World} {ads : List Addr} (hE : Errs W 136 sents ads) : VaErrs W (errMap pos16 ads) where
  e104 := errIn_of hE 104 3 _ rfl rfl
  e105 := errIn_of hE 105 4 _ rfl rfl
  e106 := errIn_of hE 106 5 _ rfl rfl
  e109 := errIn_of hE 109 8 _ rfl rfl
  e110 := errIn_of hE 110 9 _ rfl rfl

/-- An error around a place, as a value: its block. -/
def atV (q : Nat) : Value := .iface 55 (.pointer (some ⟨q, 0, none⟩))
/-- What an error is seen as: none; a sentinel; one around a place. -/
inductive SeenF (E : Int → Option Addr) (w : World) : Value → Int → Option Nat → Prop
  | nil : SeenF E w .nilIface 0 none
  | bare (c : Int) (a : Addr) (h : E c = some a) (hc : c ≠ 0) : SeenF E w (errV a) c none
  | at_ (q : Nat) (c : Int) (a : Addr) (k : Nat) (h : E c = some a) (hc : c ≠ 0) (h0 : w.cell? ⟨q, 0, none⟩ = some (.int .i64 k)) (h1 : w.cell? ⟨q, 1, none⟩ = some (errV a)) : SeenF E w (atV q) c (some k)
theorem SeenF.below {E : Int → Option Addr} {w w' : World} {v : Value} {c : Int} {p : Option Nat} (h : SeenF E w v c p) {B : Nat} (hb : Below B w w') (hB : w.heap.size ≤ B) : SeenF E w' v c p := by
  cases h with
  | nil => exact .nil
  | bare c a h hc => exact .bare c a h hc
  | at_ q c a k h hc h0 h1 =>
    have hq : q < B := Nat.lt_of_lt_of_le (cell_lt h0) hB
    exact .at_ q c a k h hc ((hb.cell (p := ⟨q, 0, none⟩) hq).trans h0) ((hb.cell (p := ⟨q, 1, none⟩) hq).trans h1)
theorem SeenF.none_of {E : Int → Option Addr} {w : World} {v : Value} {p : Option Nat} (h : SeenF E w v 0 p) : v = .nilIface := by
  generalize hc : (0 : Int) = c at h
  cases h with
  | nil => rfl
  | bare c a h h0 => exact absurd hc.symm h0
  | at_ q c a k h h0 _ _ => exact absurd hc.symm h0
/-- One that is there: an interface value with a pointer in it. -/
theorem SeenF.some_of {E : Int → Option Addr} {w : World} {v : Value} {c : Int} {p : Option Nat} (h : SeenF E w v c p) (hc : c ≠ 0) : ∃ t a, v = .iface t (.pointer (some a)) := by
  cases h with
  | nil => exact absurd rfl hc
  | bare c a h h0 => exact ⟨_, _, rfl⟩
  | at_ q c a k h h0 _ _ => exact ⟨_, _, rfl⟩


end Go.Proofs.YtpjdbccndlbbhaaGreatDoor
