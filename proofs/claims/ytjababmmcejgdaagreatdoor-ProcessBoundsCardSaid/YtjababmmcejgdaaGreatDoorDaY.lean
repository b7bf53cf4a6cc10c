/- Mathematics of package cond: the first thing amiss stays; a word is known by its text. -/
import Derived.Test.YtjababmmcejgdaaGreatDoorYProcessBounds3
namespace Go.Proofs.YtjababmmcejgdaaGreatDoor
open Go.RowKit

namespace Co
/-- What is amiss by then: told, or a word that can't be there. -/
def eff (st : St) : Option (Int × Nat) := if st.err.isSome = true then st.err else if st.kind = 0 then some (111, st.frm) else none
theorem eff_err {st : St} {x : Int × Nat} (h : st.err = some x) : eff st = some x := by unfold eff; rw [h]; rfl
theorem eff_of {st : St} {x : Int × Nat} (h : eff st = some x) (hk : st.kind ≠ 0) : st.err = some x := by
  unfold eff at h
  cases he : st.err with
  | none => rw [he] at h; simp [hk] at h
  | some y => rw [he] at h; simpa using h
theorem nextD_err {l : List UInt8} {st : St} {x : Int × Nat} (h : st.err = some x) : next l st = st := by unfold next; rw [h]; rfl
theorem failD_err {c : Int} {st : St} {x : Int × Nat} (h : st.err = some x) : fail c st = st := by unfold fail; rw [h]; rfl
theorem isM_kind {l : List UInt8} {st : St} {m : List UInt8} (h : isM l st m = true) : st.kind = 6 := by
  unfold isM at h
  rw [Bool.and_eq_true, decide_eq_true_eq, decide_eq_true_eq] at h
  exact h.1
theorem opGo_kind {l : List UInt8} {st : St} : ∀ n a, opGo l st n a ≠ 0 → st.kind = 6
  | 0, _, h => absurd rfl h
  | n + 1, a, h => by
    unfold opGo at h
    split at h
    · rename_i hm; exact isM_kind hm
    · exact opGo_kind n (a + 1) h
theorem op_kind {l : List UInt8} {st : St} {a b : Nat} (h : op l st a b ≠ 0) : st.kind = 6 := opGo_kind _ _ h
/-- What keeps the first thing amiss. -/
def Keeps (f : St → Out) : Prop := ∀ st e st' x, f st = some (e, st') → eff st = some x → eff st' = some x
/-- The same where an operator or bracket stands. -/
def Keeps6 (f : St → Out) : Prop := ∀ st e st' x, st.kind = 6 → f st = some (e, st') → eff st = some x → eff st' = some x
section
variable {l : List UInt8}
theorem row_keeps {part : St → Out} (hp : Keeps part) (a b : Nat) : ∀ f e st e' st' x, row l part a b f e st = some (e', st') → eff st = some x → eff st' = some x
  | 0, _, _, _, _, _, h, _ => by cases h
  | f + 1, e, st, e', st', x, h, hx => by
    unfold row at h
    by_cases h0 : op l st a b = 0
    · rw [if_pos h0] at h; cases h; exact hx
    · rw [if_neg h0] at h
      have hk := op_kind h0
      have he := eff_of hx (by rw [hk]; decide)
      rw [nextD_err he] at h
      cases hpp : part st with
      | none => rw [hpp] at h; cases h
      | some r =>
        obtain ⟨r, st2⟩ := r
        rw [hpp] at h
        exact row_keeps hp a b f _ st2 e' st' x h (hp st r st2 x hpp hx)
theorem rowAll_keeps {part : St → Out} (hp : Keeps part) (a b : Nat) : Keeps (rowAll l part a b) := by
  intro st e st' x h hx
  unfold rowAll at h
  cases hpp : part st with
  | none => rw [hpp] at h; cases h
  | some r =>
    obtain ⟨r, st2⟩ := r
    rw [hpp] at h
    exact row_keeps hp a b 60 r st2 e st' x h (hp st r st2 x hpp hx)
theorem deeper_keeps {part : Nat → St → Out} (d : Nat) (hp : d ≠ 12 → Keeps (part (d + 1))) : Keeps6 (deeper l part d) := by
  intro st e st' x hk h hx
  have he := eff_of hx (by rw [hk]; decide)
  unfold deeper at h
  by_cases hd : d = 12
  · rw [if_pos hd, failD_err he] at h; cases h; exact hx
  · rw [if_neg hd, nextD_err he] at h
    exact hp hd st e st' x h hx
theorem compared_keeps {part : St → Out} (hp : Keeps part) : Keeps (compared l part) := by
  intro st e st' x h hx
  unfold compared at h
  cases hpp : part st with
  | none => rw [hpp] at h; cases h
  | some r =>
    obtain ⟨r, st1⟩ := r
    rw [hpp] at h
    simp only [] at h
    have h1 := hp st r st1 x hpp hx
    by_cases h0 : op l st1 6 11 = 0
    · rw [if_pos h0] at h; cases h; exact h1
    · rw [if_neg h0] at h
      have hk := op_kind h0
      have he := eff_of h1 (by rw [hk]; decide)
      rw [nextD_err he] at h
      cases hp2 : part st1 with
      | none => rw [hp2] at h; cases h
      | some r2 =>
        obtain ⟨r2, st2⟩ := r2
        rw [hp2] at h
        cases h
        exact hp st1 r2 _ x hp2 h1
theorem under_keeps (m : List UInt8) (o : Int) {part : Nat → St → Out} {other : St → Out} (d : Nat) (hp : d ≠ 12 → Keeps (part (d + 1))) (ho : Keeps other) : Keeps (under l m o part other d) := by
  intro st e st' x h hx
  unfold under at h
  by_cases hm : isM l st m = true
  · rw [if_pos hm] at h
    cases hpp : deeper l part d st with
    | none => rw [hpp] at h; cases h
    | some r =>
      obtain ⟨r, st1⟩ := r
      rw [hpp] at h
      cases h
      exact deeper_keeps d hp st r _ x (isM_kind hm) hpp hx
  · rw [if_neg hm] at h
    exact ho st e st' x h hx
theorem behind_keeps {part : St → Out} (hp : Keeps part) : Keeps (behind part) := by
  intro st e st' x h hx
  unfold behind at h
  by_cases hk : st.kind = 3 ∨ st.kind = 4
  · rw [if_pos hk] at h
    have he := eff_of hx (by omega)
    rw [failD_err he] at h
    exact hp st e st' x h hx
  · rw [if_neg hk] at h
    exact hp st e st' x h hx
theorem bracket_keeps {part : Nat → St → Out} (d : Nat) (hp : d ≠ 12 → Keeps (part (d + 1))) : Keeps6 (bracket l part d) := by
  intro st e st' x hk h hx
  unfold bracket at h
  cases hpp : deeper l part d st with
  | none => rw [hpp] at h; cases h
  | some r =>
    obtain ⟨r, st1⟩ := r
    rw [hpp] at h
    simp only [] at h
    have h1 := deeper_keeps d hp st r st1 x hk hpp hx
    by_cases hm : isM l st1 [41] = true
    · rw [if_pos hm] at h
      have he := eff_of h1 (by rw [isM_kind hm]; decide)
      rw [nextD_err he] at h
      cases h; exact h1
    · rw [if_neg hm] at h
      cases he : st1.err with
      | some y =>
        rw [failD_err he, nextD_err he] at h
        cases h; exact h1
      | none =>
        have hf : fail 111 st1 = ⟨0, st1.frm, st1.till, some (111, st1.frm)⟩ := by unfold fail; rw [he]; rfl
        rw [hf, nextD_err rfl] at h
        cases h
        unfold eff at h1 ⊢
        rw [he] at h1
        by_cases hk0 : st1.kind = 0
        · simp [hk0] at h1 ⊢; exact h1
        · simp [hk0] at h1
theorem single_keeps {br : St → Out} (hb : Keeps6 br) : Keeps (single l br) := by
  intro st e st' x h hx
  unfold single at h
  by_cases hm : isM l st [40] = true
  · rw [if_pos hm] at h; exact hb st e st' x (isM_kind hm) h hx
  rw [if_neg hm] at h
  by_cases h2 : st.kind = 2
  · rw [if_pos h2] at h
    have he := eff_of hx (by rw [h2]; decide)
    split at h
    · rw [nextD_err he] at h; cases h; exact hx
    · cases h
  rw [if_neg h2] at h
  by_cases h3 : st.kind = 3
  · rw [if_pos h3] at h
    have he := eff_of hx (by rw [h3]; decide)
    split at h
    · rw [nextD_err he] at h; cases h; exact hx
    · cases h
  rw [if_neg h3] at h
  by_cases h4 : st.kind = 4
  · rw [if_pos h4] at h
    have he := eff_of hx (by rw [h4]; decide)
    rw [nextD_err he] at h; cases h; exact hx
  rw [if_neg h4] at h
  by_cases h5 : st.kind = 5
  · rw [if_pos h5] at h
    have he := eff_of hx (by rw [h5]; decide)
    rw [nextD_err he] at h; cases h; exact hx
  rw [if_neg h5] at h
  cases he : st.err with
  | some y =>
    rw [failD_err he, nextD_err he] at h
    cases h; exact hx
  | none =>
    have hf : fail 111 st = ⟨0, st.frm, st.till, some (111, st.frm)⟩ := by unfold fail; rw [he]; rfl
    rw [hf, nextD_err rfl] at h
    cases h
    unfold eff at hx ⊢
    rw [he] at hx
    by_cases hk0 : st.kind = 0
    · simp [hk0] at hx ⊢; exact hx
    · simp [hk0] at hx
theorem parts_keeps : ∀ f which d, which ≤ 8 → Keeps (parts l f which d) ∧ Keeps6 (parts l f 9 d)
  | 0, _, _, _ => ⟨fun _ _ _ _ h => (by cases h), fun _ _ _ _ _ h => (by cases h)⟩
  | f + 1, which, d, hw => by
    have ih := parts_keeps f
    refine ⟨?_, bracket_keeps d fun _ => (ih 0 (d + 1) (by decide)).1⟩
    have e : which = 0 ∨ which = 1 ∨ which = 2 ∨ which = 3 ∨ which = 4 ∨ which = 5 ∨ which = 6 ∨ which = 7 ∨ which = 8 := by omega
    rcases e with rfl | rfl | rfl | rfl | rfl | rfl | rfl | rfl | rfl
    · exact rowAll_keeps (ih 1 d (by decide)).1 3 3
    · exact rowAll_keeps (ih 2 d (by decide)).1 4 4
    · exact under_keeps [110, 111, 116] 5 d (fun _ => (ih 2 (d + 1) (by decide)).1) (ih 3 d (by decide)).1
    · exact compared_keeps (ih 4 d (by decide)).1
    · exact rowAll_keeps (ih 5 d (by decide)).1 12 13
    · exact rowAll_keeps (ih 6 d (by decide)).1 14 16
    · exact under_keeps [45] 17 d (fun _ => (ih 7 (d + 1) (by decide)).1) (ih 8 d (by decide)).1
    · exact behind_keeps (ih 6 d (by decide)).1
    · exact single_keeps (ih 0 d (by decide)).2
end
end Co
end Go.Proofs.YtjababmmcejgdaaGreatDoor
