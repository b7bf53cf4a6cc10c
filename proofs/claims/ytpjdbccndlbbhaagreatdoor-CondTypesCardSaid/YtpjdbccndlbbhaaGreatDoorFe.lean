/- The sentinels that package frame tells, by whatever sentinels a row lists. -/
import Derived.Test.YtpjdbccndlbbhaaGreatDoorErr
namespace Go.Proofs.YtpjdbccndlbbhaaGreatDoor
open Go.RowKit

structure FrErrs (W : World) (E : Int → Option Addr) : Prop where
  e101 : ErrIn W E 101 6
  e102 : ErrIn W E 102 7
  e103 : ErrIn W E 103 8
  e105 : ErrIn W E 105 0
  row : ∀ c a, E c = some a → ∃ cs t, W.heap[a.block]? = some (.cells cs t (0, 0))
  inj : ∀ c d a, E c = some a → E d = some a → c = d
theorem FrErrs.below {W w : World} {E : Int → Option Addr} (h : FrErrs W E) (hb : Below W.heap.size W w) : FrErrs w E :=
  ⟨h.e101.below hb, h.e102.below hb, h.e103.below hb, h.e105.below hb, (fun c a ha => by
    obtain ⟨cs, t, hr⟩ := h.row c a ha
    refine ⟨cs, t, (hb.block a.block ?_).trans hr⟩
    rcases Nat.lt_or_ge a.block W.heap.size with h' | h'
    · exact h'
    · rw [Array.getElem?_eq_none h'] at hr; cases hr), h.inj⟩

/-- Where the sentinel of a number lies, by its place in the row. -/
def errMap (pos : Int → Nat) (ads : List Addr) (c : Int) : Option Addr := ads[pos c]?
theorem errMap_inj {pos : Int → Nat} {W : World} {gs : List Nat} {ads : List Addr} (hE : Errs W 136 gs ads) (hp : ∀ c d, pos c < gs.length → pos c = pos d → c = d) :
    ∀ c d a, errMap pos ads c = some a → errMap pos ads d = some a → c = d := by
  intro c d a h1 h2
  unfold errMap at h1 h2
  obtain ⟨hc, e1⟩ := List.getElem?_eq_some_iff.1 h1
  obtain ⟨hd, e2⟩ := List.getElem?_eq_some_iff.1 h2
  exact hp c d (by rw [← hE.len]; exact hc) ((List.getElem_inj hE.nodup).1 (e1.trans e2.symm))
theorem errMap_row {pos : Int → Nat} {W : World} {gs : List Nat} {ads : List Addr} (hE : Errs W 136 gs ads) :
    ∀ c a, errMap pos ads c = some a → ∃ cs t, W.heap[a.block]? = some (.cells cs t (0, 0)) := by
  intro c a h
  unfold errMap at h
  obtain ⟨hc, _⟩ := List.getElem?_eq_some_iff.1 h
  exact (hE.all _ _ a (List.getElem?_eq_getElem (by rw [← hE.len]; exact hc)) h).row
def pos4 (c : Int) : Nat := if c = 101 then 0 else if c = 102 then 1 else if c = 103 then 2 else if c = 105 then 3 else 1000
def pos16 (c : Int) : Nat := if 101 ≤ c then (c - 101).toNat else 1000
theorem pos4_inv {c : Int} (h : pos4 c < 4) : c = [101, 102, 103, 105].getD (pos4 c) 0 := by
  by_cases h1 : c = 101
  · subst h1; rfl
  · by_cases h2 : c = 102
    · subst h2; rfl
    · by_cases h3 : c = 103
      · subst h3; rfl
      · by_cases h4 : c = 105
        · subst h4; rfl
        · simp [pos4, h1, h2, h3, h4] at h
theorem frErrs4 {W : World} {ads : List Addr} (hE : Errs W 136 [6, 7, 8, 0] ads) : FrErrs W (errMap pos4 ads) where
  e101 := errIn_of hE 101 0 _ rfl rfl
  e102 := errIn_of hE 102 1 _ rfl rfl
  e103 := errIn_of hE 103 2 _ rfl rfl
  e105 := errIn_of hE 105 3 _ rfl rfl
  row := errMap_row hE
  inj := errMap_inj hE fun c d h1 h2 => by
    have hc : c = [101, 102, 103, 105].getD (pos4 c) 0 := pos4_inv h1
    have hd : d = [101, 102, 103, 105].getD (pos4 d) 0 := pos4_inv (h2 ▸ h1)
    rw [hc, hd, h2]
theorem frErrs16 {W : World} {ads : List Addr} (hE : Errs W 136 sents ads) : FrErrs W (errMap pos16 ads) where
  e101 := errIn_of hE 101 0 _ rfl rfl
  e102 := errIn_of hE 102 1 _ rfl rfl
  e103 := errIn_of hE 103 2 _ rfl rfl
  e105 := errIn_of hE 105 4 _ rfl rfl
  row := errMap_row hE
  inj := errMap_inj hE fun c d h1 h2 => by
    unfold pos16 at h1 h2
    have h1 : (if 101 ≤ c then (c - 101).toNat else 1000) < 16 := h1
    by_cases k1 : 101 ≤ c
    · rw [if_pos k1] at h1 h2
      by_cases k2 : 101 ≤ d
      · rw [if_pos k2] at h2; omega
      · rw [if_neg k2] at h2; omega
    · rw [if_neg k1] at h1; omega
theorem seenAs_of {W : World} {ads : List Addr} {ev : Value} {c : Int} (hE : Errs W 136 sents ads) (h : SeenBy (errMap pos16 ads) ev c) : SeenAs ads ev c := by
  have hl := sents_row hE
  cases h with
  | nil => exact .nil
  | err c a h hc =>
    unfold errMap pos16 at h
    split at h
    · rename_i h1
      have := SeenAs.err (ads := ads) (c - 101).toNat a h
      rwa [show (101 : Int) + ((c - 101).toNat : Nat) = c from by omega] at this
    · rw [List.getElem?_eq_none (by omega)] at h; cases h
end Go.Proofs.YtpjdbccndlbbhaaGreatDoor
