/- Mathematics of package cond: each text of 80 bytes at most is told something of. Mathematics of processes: what is owed nothing is fine. What was put is what is read: of a Reader's answers, as functions of the bytes alone. -/
import Derived.Test.YtjababmmcejgdaaGreatDoorYProcessBack15
import Derived.Test.YtjababmmcejgdaaGreatDoorYProcessBack3
import Derived.Test.YtjababmmcejgdaaGreatDoorRtY
import Derived.Test.YtjababmmcejgdaaGreatDoorYProcessBack12
namespace Go.Proofs.YtjababmmcejgdaaGreatDoor
open Go.RowKit

namespace Co
section
variable {l : List UInt8}
theorem tri_eq (x : Nat × Nat × Nat) (k : Nat) (h : x.2.1 = k) : (x.1, k, x.2.2) = x := by subst h; rfl
theorem tw_le (p : UInt8 → Bool) : ∀ t : List UInt8, (t.takeWhile p).length ≤ t.length
  | [] => by simp
  | c :: t => by
    rw [List.takeWhile_cons]
    split
    · simp; exact tw_le p t
    · simp
theorem endsD_le (p : UInt8 → Bool) {k : Nat} (hk : k ≤ l.length) : k ≤ ends p l k ∧ ends p l k ≤ l.length := by
  unfold ends
  have := tw_le p (l.drop k)
  rw [List.length_drop] at this
  omega
theorem ends_lt (p : UInt8 → Bool) {k : Nat} (hk : k < l.length) (h : p l[k]! = true) : k < ends p l k := by
  unfold ends
  have e : l.drop k = l[k]! :: l.drop (k + 1) := by rw [getElem!_pos l k hk]; exact List.drop_eq_getElem_cons hk
  rw [e, List.takeWhile_cons, if_pos h]
  simp
theorem markLenD_le (t : List UInt8) (ht : 0 < t.length) : markLen t ≤ t.length := by
  unfold markLen
  split
  · omega
  · split <;> omega
/-- What a word's numbers are. -/
theorem word_facts {k : Nat} (hk : k ≤ l.length) : (wordAt l k).2.1 = k ∧ k ≤ (wordAt l k).2.2 ∧ (wordAt l k).2.2 ≤ l.length ∧ (2 ≤ (wordAt l k).1 → k < (wordAt l k).2.2) ∧
    ((wordAt l k).1 = 2 → 1 ≤ ((l.drop k).take ((wordAt l k).2.2 - k)).length ∧ ((l.drop k).take ((wordAt l k).2.2 - k)).length ≤ 9 ∧ ((l.drop k).take ((wordAt l k).2.2 - k)).all digit = true) ∧ ((wordAt l k).1 = 3 → k + 2 ≤ (wordAt l k).2.2) := by
  unfold wordAt
  by_cases h1 : k = l.length
  · rw [if_pos h1]; exact ⟨rfl, Nat.le_refl _, hk, fun h => (by simp at h), fun h => (by simp at h), fun h => (by simp at h)⟩
  rw [if_neg h1]
  have hlt : k < l.length := by omega
  by_cases h2 : ofWord l[k]! = true
  · rw [if_pos h2]
    have h3 := endsD_le (l := l) ofWord hk
    have h4 := ends_lt (l := l) ofWord hlt h2
    refine ⟨rfl, h3.1, h3.2, fun _ => h4, fun h => ?_, fun h => ?_⟩
    · have h : kindOf ((l.drop k).take (ends ofWord l k - k)) = 2 := h
      refine ⟨by rw [List.length_take, List.length_drop]; show 1 ≤ min (ends ofWord l k - k) _; omega, ?_⟩
      show ((l.drop k).take (ends ofWord l k - k)).length ≤ 9 ∧ _
      generalize (l.drop k).take (ends ofWord l k - k) = t at *
      unfold kindOf at h
      split at h
      · cases h
      · split at h
        · cases h
        · split at h
          · rename_i h5; exact h5
          · split at h <;> cases h
    · have h : kindOf ((l.drop k).take (ends ofWord l k - k)) = 3 := h
      unfold kindOf at h
      split at h
      · cases h
      · split at h
        · cases h
        · split at h
          · cases h
          · split at h <;> cases h
  rw [if_neg h2]
  by_cases h3 : l[k]! = 34
  · rw [if_pos h3]
    unfold textAt
    have h4 := endsD_le (l := l) inText (k := k + 1) hlt
    split
    · rename_i h5
      exact ⟨rfl, by show k ≤ ends inText l (k + 1) + 1; omega, by show ends inText l (k + 1) + 1 ≤ _; omega, fun _ => by show k < ends inText l (k + 1) + 1; omega, fun h => (by simp at h), fun _ => by show k + 2 ≤ ends inText l (k + 1) + 1; omega⟩
    · exact ⟨rfl, Nat.le_refl _, hk, fun h => (by simp at h), fun h => (by simp at h), fun h => (by simp at h)⟩
  rw [if_neg h3]
  have h4 := markLenD_le (l.drop k) (by rw [List.length_drop]; omega)
  rw [List.length_drop] at h4
  by_cases h5 : markLen (l.drop k) = 0
  · rw [if_pos h5]; exact ⟨rfl, Nat.le_refl _, hk, fun h => (by simp at h), fun h => (by simp at h), fun h => (by simp at h)⟩
  · rw [if_neg h5]
    exact ⟨rfl, by show k ≤ k + markLen (l.drop k); omega, by show k + markLen (l.drop k) ≤ _; omega, fun _ => by show k < k + markLen (l.drop k); omega, fun h => (by simp at h), fun h => (by simp at h)⟩
/-- A state that the parser comes to. -/
structure Gd (l : List UInt8) (st : St) : Prop where
  bad : st.err.isSome = true → st.kind = 0
  word : st.err = none → st.frm ≤ l.length ∧ (st.kind, st.frm, st.till) = wordAt l st.frm
theorem Gd.facts {st : St} (h : Gd l st) (he : st.err = none) : st.frm ≤ st.till ∧ st.till ≤ l.length ∧ (2 ≤ st.kind → st.frm < st.till) ∧ (st.kind = 2 → 1 ≤ (text l st).length ∧ (text l st).length ≤ 9 ∧ (text l st).all digit = true) ∧ (st.kind = 3 → 2 ≤ (text l st).length) := by
  obtain ⟨h1, h2⟩ := h.word he
  have hf := word_facts h1
  rw [← h2] at hf
  obtain ⟨_, f2, f3, f4, f5, f6⟩ := hf
  refine ⟨f2, f3, f4, f5, fun hk => ?_⟩
  have := f6 hk
  unfold text
  rw [List.length_take, List.length_drop]
  have f3 : st.till ≤ l.length := f3
  have this : st.frm + 2 ≤ st.till := this
  omega
theorem Gd.err {st : St} {x : Int × Nat} (he : st.err = some x) (hk : st.kind = 0) : Gd l st := ⟨fun _ => hk, fun h => by rw [he] at h; cases h⟩
theorem Gd.next {st : St} (h : Gd l st) : Gd l (next l st) ∧ (st.err = none → (Co.next l st).err = none ∧ st.till ≤ (Co.next l st).frm) := by
  cases he : st.err with
  | some x => rw [nextD_err he]; exact ⟨h, fun h => by cases h⟩
  | none =>
    have hf := h.facts he
    have hb := endsD_le (l := l) blank hf.2.1
    have hw := word_facts (l := l) (k := ends blank l st.till) hb.2
    unfold Co.next
    rw [he]
    simp only [Option.isSome_none, Bool.false_eq_true, if_false]
    refine ⟨⟨fun h => (by cases h), fun _ => ?_⟩, fun _ => ⟨trivial, by rw [hw.1]; exact hb.1⟩⟩
    show (wordAt l (ends blank l st.till)).2.1 ≤ l.length ∧ ((wordAt l (ends blank l st.till)).1, (wordAt l (ends blank l st.till)).2.1, (wordAt l (ends blank l st.till)).2.2) = wordAt l (wordAt l (ends blank l st.till)).2.1
    rw [hw.1]
    exact ⟨hb.2, tri_eq _ _ hw.1⟩
theorem Gd.fail {st : St} (h : Gd l st) (c : Int) : Gd l (fail c st) ∧ (Co.fail c st).err ≠ none := by
  cases he : st.err with
  | some x => rw [failD_err he]; exact ⟨h, by rw [he]; simp⟩
  | none =>
    unfold Co.fail
    rw [he]
    simp only [Option.isSome_none, Bool.false_eq_true, if_false]
    exact ⟨Gd.err rfl rfl, by simp⟩
/-- A part that tells something: of what it is given it takes the word, if nothing is amiss. -/
def Tot (l : List UInt8) (f : St → Out) : Prop := ∀ st, Gd l st → ∃ e st', f st = some (e, st') ∧ Gd l st' ∧ (st'.err = none → st.err = none ∧ st.frm < st.till ∧ st.till ≤ st'.frm)
def Tot6 (l : List UInt8) (f : St → Out) : Prop := ∀ st, Gd l st → st.kind = 6 → ∃ e st', f st = some (e, st') ∧ Gd l st' ∧ (st'.err = none → st.err = none ∧ st.frm < st.till ∧ st.till ≤ st'.frm)
theorem kind_err {st : St} (h : Gd l st) (hk : st.kind ≠ 0) : st.err = none := by
  cases he : st.err with
  | none => rfl
  | some x => exact absurd (h.bad (by rw [he]; rfl)) hk
theorem row_tot {part : St → Out} (hp : Tot l part) (a b : Nat) : ∀ g e st, Gd l st → (st.err = none → st.kind = 6 → l.length < st.till + 2 * g) → ∃ e' st', row l part a b (g + 1) e st = some (e', st') ∧ Gd l st' ∧ (st'.err = none → st.err = none ∧ st.frm ≤ st'.frm) := by
  intro g
  induction g with
  | zero =>
    intro e st hg hb
    unfold row
    by_cases h0 : op l st a b = 0
    · rw [if_pos h0]; exact ⟨e, st, rfl, hg, fun h => ⟨h, Nat.le_refl _⟩⟩
    · exfalso
      have hk := op_kind h0
      have he := kind_err hg (by rw [hk]; decide)
      have := hb he hk
      have := (hg.facts he).2.1
      omega
  | succ g ih =>
    intro e st hg hb
    unfold row
    by_cases h0 : op l st a b = 0
    · rw [if_pos h0]; exact ⟨e, st, rfl, hg, fun h => ⟨h, Nat.le_refl _⟩⟩
    · rw [if_neg h0]
      have hk := op_kind h0
      have he := kind_err hg (by rw [hk]; decide)
      have hbb := hb he hk
      have hf := hg.facts he
      obtain ⟨hn, hn2⟩ := hg.next
      obtain ⟨hne, hnt⟩ := hn2 he
      obtain ⟨r, st2, hr, hg2, hc⟩ := hp (Co.next l st) hn
      rw [hr]
      have hf1 := hn.facts hne
      obtain ⟨e', st', h1, h2, h3⟩ := ih (.two (op l st a b) e r) st2 hg2 (by
        intro he2 hk2
        have := hc he2
        have := (hg2.facts he2).2.2.1 (by omega)
        omega)
      refine ⟨e', st', h1, h2, fun h4 => ⟨he, ?_⟩⟩
      obtain ⟨h5, h6⟩ := h3 h4
      have := hc h5
      have := hf.1
      omega
theorem rowAll_tot {part : St → Out} (hl : l.length ≤ 80) (hp : Tot l part) (a b : Nat) : Tot l (rowAll l part a b) := by
  intro st hg
  obtain ⟨r, st1, h1, h2, h3⟩ := hp st hg
  unfold rowAll
  rw [h1]
  obtain ⟨e', st', h4, h5, h6⟩ := row_tot hp a b 59 r st1 h2 (fun _ _ => by omega)
  refine ⟨e', st', h4, h5, fun h => ?_⟩
  obtain ⟨h7, h8⟩ := h6 h
  obtain ⟨h9, h10, h11⟩ := h3 h7
  exact ⟨h9, h10, by omega⟩
theorem deeper_tot {part : Nat → St → Out} (d : Nat) (hp : d ≠ 12 → Tot l (part (d + 1))) : Tot6 l (deeper l part d) := by
  intro st hg hk
  have he := kind_err hg (by rw [hk]; decide)
  have hf := hg.facts he
  unfold deeper
  by_cases hd : d = 12
  · rw [if_pos hd]
    obtain ⟨h1, h2⟩ := hg.fail 112
    exact ⟨_, _, rfl, h1, fun h => absurd h h2⟩
  · rw [if_neg hd]
    obtain ⟨hn, hn2⟩ := hg.next
    obtain ⟨hne, hnt⟩ := hn2 he
    obtain ⟨r, st2, hr, hg2, hc⟩ := hp hd (Co.next l st) hn
    refine ⟨r, st2, hr, hg2, fun h => ?_⟩
    obtain ⟨h1, h2, h3⟩ := hc h
    exact ⟨he, hf.2.2.1 (by omega), by omega⟩
theorem compared_tot {part : St → Out} (hp : Tot l part) : Tot l (compared l part) := by
  intro st hg
  obtain ⟨r, st1, h1, h2, h3⟩ := hp st hg
  unfold compared
  rw [h1]
  simp only []
  by_cases h0 : op l st1 6 11 = 0
  · rw [if_pos h0]; exact ⟨r, st1, rfl, h2, h3⟩
  · rw [if_neg h0]
    have hk := op_kind h0
    have he := kind_err h2 (by rw [hk]; decide)
    have hf := h2.facts he
    obtain ⟨hn, hn2⟩ := h2.next
    obtain ⟨hne, hnt⟩ := hn2 he
    obtain ⟨r2, st2, hr, hg2, hc⟩ := hp (Co.next l st1) hn
    rw [hr]
    refine ⟨_, st2, rfl, hg2, fun h => ?_⟩
    obtain ⟨h4, h5, h6⟩ := hc h
    obtain ⟨h7, h8, h9⟩ := h3 he
    exact ⟨h7, h8, by omega⟩
theorem under_tot (m : List UInt8) (o : Int) {part : Nat → St → Out} {other : St → Out} (d : Nat) (hp : d ≠ 12 → Tot l (part (d + 1))) (ho : Tot l other) : Tot l (under l m o part other d) := by
  intro st hg
  unfold under
  by_cases hm : isM l st m = true
  · rw [if_pos hm]
    obtain ⟨e, st1, h1, h2, h3⟩ := deeper_tot d hp st hg (isM_kind hm)
    rw [h1]
    exact ⟨_, st1, rfl, h2, h3⟩
  · rw [if_neg hm]; exact ho st hg
theorem behind_tot {part : St → Out} (hp : Tot l part) : Tot l (behind part) := by
  intro st hg
  unfold behind
  by_cases hk : st.kind = 3 ∨ st.kind = 4
  · rw [if_pos hk]
    obtain ⟨h1, h2⟩ := hg.fail 111
    obtain ⟨e, st1, h3, h4, h5⟩ := hp _ h1
    exact ⟨e, st1, h3, h4, fun h => absurd (h5 h).1 h2⟩
  · rw [if_neg hk]; exact hp st hg
theorem next_tot {st : St} (hg : Gd l st) (he : st.err = none) (hk : 2 ≤ st.kind) (e : Tr) : ∃ e' st', (some (e, Co.next l st) : Out) = some (e', st') ∧ Gd l st' ∧ (st'.err = none → st.err = none ∧ st.frm < st.till ∧ st.till ≤ st'.frm) := by
  obtain ⟨hn, hn2⟩ := hg.next
  obtain ⟨hne, hnt⟩ := hn2 he
  exact ⟨_, _, rfl, hn, fun _ => ⟨he, (hg.facts he).2.2.1 hk, hnt⟩⟩
theorem fail_tot {st : St} (hg : Gd l st) (c : Int) (e : Tr) : ∃ e' st', (some (e, Co.next l (Co.fail c st)) : Out) = some (e', st') ∧ Gd l st' ∧ (st'.err = none → st.err = none ∧ st.frm < st.till ∧ st.till ≤ st'.frm) := by
  obtain ⟨h1, h2⟩ := hg.fail c
  cases he : (Co.fail c st).err with
  | none => exact absurd he h2
  | some x => rw [nextD_err he]; exact ⟨_, _, rfl, h1, fun h => absurd h h2⟩
theorem bracket_tot {part : Nat → St → Out} (d : Nat) (hp : d ≠ 12 → Tot l (part (d + 1))) : Tot6 l (bracket l part d) := by
  intro st hg hk
  obtain ⟨e, st1, h1, h2, h3⟩ := deeper_tot d hp st hg hk
  unfold bracket
  rw [h1]
  simp only []
  by_cases hm : isM l st1 [41] = true
  · rw [if_pos hm]
    have hk1 := isM_kind hm
    have he := kind_err h2 (by rw [hk1]; decide)
    obtain ⟨e', st', h4, h5, h6⟩ := next_tot h2 he (by omega) e
    refine ⟨e', st', h4, h5, fun h => ?_⟩
    obtain ⟨h7, h8, h9⟩ := h6 h
    obtain ⟨h10, h11, h12⟩ := h3 h7
    exact ⟨h10, h11, by omega⟩
  · rw [if_neg hm]
    obtain ⟨h4, h5⟩ := h2.fail 111
    cases he : (Co.fail 111 st1).err with
    | none => exact absurd he h5
    | some x => rw [nextD_err he]; exact ⟨_, _, rfl, h4, fun h => absurd h h5⟩
theorem single_tot {br : St → Out} (hb : Tot6 l br) : Tot l (single l br) := by
  intro st hg
  unfold single
  by_cases hm : isM l st [40] = true
  · rw [if_pos hm]; exact hb st hg (isM_kind hm)
  rw [if_neg hm]
  by_cases h2 : st.kind = 2
  · have he := kind_err hg (by rw [h2]; decide)
    rw [if_pos h2, if_pos ((hg.facts he).2.2.2.1 h2)]
    exact next_tot hg he (by omega) _
  rw [if_neg h2]
  by_cases h3 : st.kind = 3
  · have he := kind_err hg (by rw [h3]; decide)
    rw [if_pos h3, if_pos ((hg.facts he).2.2.2.2 h3)]
    exact next_tot hg he (by omega) _
  rw [if_neg h3]
  by_cases h4 : st.kind = 4
  · have he := kind_err hg (by rw [h4]; decide)
    rw [if_pos h4]
    exact next_tot hg he (by omega) _
  rw [if_neg h4]
  by_cases h5 : st.kind = 5
  · have he := kind_err hg (by rw [h5]; decide)
    rw [if_pos h5]
    exact next_tot hg he (by omega) _
  rw [if_neg h5]
  exact fail_tot hg 111 _
/-- How much deeper a part may go. -/
def rk (which : Nat) : Nat := match which with
  | 0 => 10 | 1 => 9 | 2 => 8 | 3 => 7 | 4 => 6 | 5 => 5 | 6 => 4 | 7 => 5 | 8 => 3 | _ => 2
theorem parts_tot (hl : l.length ≤ 80) : ∀ f which d, d ≤ 12 → which ≤ 8 → (12 - d) * 9 + rk which ≤ f → Tot l (parts l f which d)
  | 0, which, d, _, hw, hf => by
    exfalso
    have : 0 < rk which := by unfold rk; split <;> decide
    omega
  | f + 1, which, d, hd, hw, hf => by
    have ih := parts_tot hl f
    have deep : ∀ w, w ≤ 8 → rk w + 9 ≤ rk which + 9 + 8 → d ≠ 12 → (12 - (d + 1)) * 9 + rk w ≤ f → Tot l (parts l f w (d + 1)) := fun w hw8 _ hd12 hff => ih w (d + 1) (by omega) hw8 hff
    have e : which = 0 ∨ which = 1 ∨ which = 2 ∨ which = 3 ∨ which = 4 ∨ which = 5 ∨ which = 6 ∨ which = 7 ∨ which = 8 := by omega
    rcases e with rfl | rfl | rfl | rfl | rfl | rfl | rfl | rfl | rfl <;> simp only [rk] at hf
    · exact rowAll_tot hl (ih 1 d hd (by decide) (by simp only [rk]; omega)) 3 3
    · exact rowAll_tot hl (ih 2 d hd (by decide) (by simp only [rk]; omega)) 4 4
    · exact under_tot [110, 111, 116] 5 d (fun h => ih 2 (d + 1) (by omega) (by decide) (by simp only [rk]; omega)) (ih 3 d hd (by decide) (by simp only [rk]; omega))
    · exact compared_tot (ih 4 d hd (by decide) (by simp only [rk]; omega))
    · exact rowAll_tot hl (ih 5 d hd (by decide) (by simp only [rk]; omega)) 12 13
    · exact rowAll_tot hl (ih 6 d hd (by decide) (by simp only [rk]; omega)) 14 16
    · exact under_tot [45] 17 d (fun h => ih 7 (d + 1) (by omega) (by decide) (by simp only [rk]; omega)) (ih 8 d hd (by decide) (by simp only [rk]; omega))
    · exact behind_tot (ih 6 d hd (by decide) (by simp only [rk]; omega))
    · match f, hf, ih with
      | 0, hf, _ => omega
      | f + 1, hf, _ =>
        refine single_tot ?_
        exact bracket_tot d fun h => parts_tot hl f 0 (d + 1) (by omega) (by decide) (by simp only [rk]; omega)
theorem start_gd : Gd l (Co.next l ⟨0, 0, 0, none⟩) := by
  have hb := endsD_le (l := l) blank (k := 0) (Nat.zero_le _)
  have hw := word_facts (l := l) (k := ends blank l 0) hb.2
  unfold Co.next
  simp only [Option.isSome_none, Bool.false_eq_true, if_false]
  refine ⟨fun h => (by cases h), fun _ => ?_⟩
  show (wordAt l (ends blank l 0)).2.1 ≤ l.length ∧ ((wordAt l (ends blank l 0)).1, (wordAt l (ends blank l 0)).2.1, (wordAt l (ends blank l 0)).2.2) = wordAt l (wordAt l (ends blank l 0)).2.1
  rw [hw.1]
  exact ⟨hb.2, tri_eq _ _ hw.1⟩
/-- Something is told of each text. -/
theorem parse_tot (l : List UInt8) : ∃ e er, parse l = some (e, er) := by
  unfold parse
  by_cases h : 80 < l.length
  · rw [if_pos h]; exact ⟨_, _, rfl⟩
  · rw [if_neg h]
    obtain ⟨e, st, h1, _⟩ := parts_tot (l := l) (by omega) 140 0 0 (by decide) (by decide) (by decide) (Co.next l ⟨0, 0, 0, none⟩) start_gd
    rw [h1]
    simp only []
    split
    · exact ⟨_, _, rfl⟩
    · exact ⟨_, _, rfl⟩
end
end Co
end Go.Proofs.YtjababmmcejgdaaGreatDoor
namespace Go.Proofs.YtjababmmcejgdaaGreatDoor
open Go.RowKit

namespace Pr
theorem cond_ok (k : Int) : ((bs (conds k)).size = 0 ∨ condBad (bs (conds k)) = 0) ∧ (bs (conds k)).size ≤ 80 := by
  unfold conds
  have h : (nmb k 12).toNat < 12 := by unfold nmb; omega
  have : ∀ j : Nat, j < 12 → ((bs condL[j]!).size = 0 ∨ condBad (bs condL[j]!) = 0) ∧ (bs condL[j]!).size ≤ 80 := by decide +kernel
  exact this _ h
theorem fl_mem {p : P} {j : Nat} (h : j < p.m) : p.flows[j]! ∈ p.flows := by
  have h' : j < p.flows.length := h
  rw [getElem!_pos p.flows j h']
  exact List.getElem_mem h'
theorem flow_fine {p : P} {f : Fl} (h : FlowOk p f) : flowBad p f = 0 := by
  obtain ⟨⟨a, b, h1, h2, h3, h4, h5⟩, h6⟩ := h
  unfold flowBad
  have hw : (within f.frm 0 (p.n - 1) && within f.til 0 (p.n - 1)) = true := by
    unfold within
    simp only [Bool.and_eq_true, decide_eq_true_eq]
    omega
  rw [hw, if_neg (by decide)]
  rcases h6 with h6 | ⟨h6, k, h7⟩
  · rw [h6, if_pos (by decide)]
  · by_cases h0 : f.cond.size = 0
    · rw [if_pos h0]
    · rw [if_neg h0, if_neg (by omega), h7]
      exact (cond_ok k).1.resolve_left (by rw [← h7]; exact h0)
theorem into_first {p : P} (h : ∀ f ∈ p.flows, FlowOk p f) : cI p 0 = 0 := by
  unfold cI
  rw [List.countP_eq_zero]
  intro f hf
  obtain ⟨a, b, h1, h2, h3, h4, h5⟩ := (h f hf).ends
  rw [h2]
  simp
  omega
theorem no_size : no.size = 0 := rfl
theorem txC_size : txC.size = 6 := rfl
theorem shape_fine {p : P} (h : Inv p (fun _ => 0) (fun _ => False)) {i : Nat} (hi : i < p.n) : shaped p i = true := by
  have hf := h.field i hi
  obtain ⟨o1, o2, o3, o4, o5, _, _⟩ := h.outs i hi
  have hs := h.start i hi
  unfold shaped
  simp only [ins_len, outs_len]
  generalize (p.nodes[i]!) = x at *
  by_cases h1 : x.kind = 1
  · have h0 := hs.1 h1
    subst h0
    have := o1 h1
    rw [into_first h.flow]
    simp [h1]
    omega
  · have h0 : i ≠ 0 := fun e => h1 (hs.2 e)
    have hin := h.ins i (by omega) hi (fun e => e)
    have e1 : (x.kind == 1) = false := by rw [beq_eq_false_iff_ne]; exact h1
    have e2 : (i == 0) = false := by rw [beq_eq_false_iff_ne]; exact h0
    rw [e1, e2, if_neg (by decide), if_neg h1]
    by_cases h2 : x.kind = 2 ∨ x.kind = 3
    · rw [if_pos h2]
      have h2' : x.kind = 2 := by rcases hf.kind with e | e | e | e | e | e <;> omega
      have := o2 h2'
      simp [hin, this]
    · rw [if_neg h2]
      by_cases h4 : x.kind = 4
      · rw [if_pos h4]
        rcases hf.caught with hc | ⟨_, hc⟩
        · have := o3 h4 hc
          have hb : cO p i = 1 := by omega
          rw [hc, no_size, hb]
          simp [hin]
        · have hne : x.caught ≠ no := by rw [hc]; exact txC_ne
          have := (o4 h4 hne).1
          have hb : cO p i = 2 := by omega
          have hsz : x.caught.size = 6 := by rw [hc]; rfl
          rw [hsz, hb]
          simp [hin]
      · rw [if_neg h4]
        have h5 : x.kind = 5 ∨ x.kind = 6 ∨ x.kind = 7 := by rcases hf.kind with e | e | e | e | e | e <;> omega
        rw [if_pos h5]
        have := o5 h5
        simp [hin]
        omega
theorem nm_txC : nm txC = true := by decide +kernel
theorem node_fine {p : P} (h : Inv p (fun _ => 0) (fun _ => False)) {i : Nat} (hi : i < p.n) : nodeBad p i = 0 := by
  have hf := h.field i hi
  have ho := h.outs i hi
  unfold nodeBad
  rw [shape_fine h hi]
  have hD : (p.nodes[i]!).dflt ≠ -1 → ((p.nodes[i]!).kind = 5 ∨ (p.nodes[i]!).kind = 7) ∧ has (outsL p i) (p.nodes[i]!).dflt = true := by
    intro hne
    rcases ho.dflt with e | ⟨hk, j, hj, e, hfr⟩
    · exact absurd e hne
    · exact ⟨hk, by rw [e]; exact has_of hj hfr⟩
  have hT : (p.nodes[i]!).caught ≠ no → has (outsL p i) (p.nodes[i]!).tgt = true := by
    intro hne
    have hk4 : (p.nodes[i]!).kind = 4 := by
      rcases hf.caught with e | ⟨e, _⟩
      · exact absurd e hne
      · exact e
    obtain ⟨_, j, hj, e, hfr⟩ := ho.wk1 hk4 hne
    rw [e]; exact has_of hj hfr
  have hto := ho.tgt
  simp only []
  generalize has (outsL p i) (p.nodes[i]!).dflt = bd at *
  generalize has (outsL p i) (p.nodes[i]!).tgt = bt at *
  generalize (p.nodes[i]!) = x at *
  clear ho
  have c3 : (x.kind == 3) = false := by rw [beq_eq_false_iff_ne]; rcases hf.kind with e | e | e | e | e | e <;> omega
  have hcs : x.code.size = 0 := by rw [hf.code]; rfl
  by_cases h4 : x.kind = 4
  · have e4 : (x.kind == 4) = true := by rw [beq_iff_eq]; exact h4
    obtain ⟨w1, w2, w3⟩ := hf.wk h4
    have hdf : x.dflt = -1 := by
      by_cases e : x.dflt = -1
      · exact e
      · have := (hD e).1; omega
    have e5 : (x.dflt == -1) = true := by rw [beq_iff_eq]; exact hdf
    rw [if_neg (by decide)]
    rcases hf.caught with hc | ⟨_, hc⟩
    · have et : (x.tgt == -1) = true := by rw [beq_iff_eq]; exact hto hc
      have hsz : x.caught.size = 0 := by rw [hc]; rfl
      simp [e4, w1, w2, w3, c3, hcs, hsz, e5, et]
    · have hne : x.caught ≠ no := by rw [hc]; exact txC_ne
      have hsz : x.caught.size = 6 := by rw [hc]; rfl
      have hnm : nm x.caught = true := by rw [hc]; exact nm_txC
      have := hT hne
      simp [e4, w1, w2, w3, c3, hcs, hsz, e5, hnm, this]
  · have e4 : (x.kind == 4) = false := by rw [beq_eq_false_iff_ne]; exact h4
    obtain ⟨w1, w2, w3⟩ := hf.nowk h4
    have hts : x.topic.size = 0 := by rw [w1]; rfl
    have hc : x.caught = no := by
      rcases hf.caught with e | ⟨e, _⟩
      · exact e
      · exact absurd e h4
    have hsz : x.caught.size = 0 := by rw [hc]; rfl
    have et : (x.tgt == -1) = true := by rw [beq_iff_eq]; exact hto hc
    rw [if_neg (by decide)]
    by_cases hdf : x.dflt = -1
    · have e5 : (x.dflt == -1) = true := by rw [beq_iff_eq]; exact hdf
      simp [e4, hts, w2, w3, c3, hcs, hsz, e5, et]
    · obtain ⟨hk, hb⟩ := hD hdf
      have eg : (x.kind == 5 || x.kind == 7) = true := by rw [Bool.or_eq_true, beq_iff_eq, beq_iff_eq]; exact hk
      simp [e4, hts, w2, w3, c3, hcs, hsz, et, eg, hb]
theorem check_of {p : P} (h : Inv p (fun _ => 0) (fun _ => False)) (h2 : 2 ≤ p.n) (h30 : p.n ≤ 30) (h60 : p.m ≤ 60) (hn : nm p.name = true) : check p = (0, none) := by
  unfold check
  rw [hn, if_neg (by decide)]
  have hw : (within p.n 2 30 && decide (p.m ≤ 60)) = true := by
    unfold within
    simp only [Bool.and_eq_true, decide_eq_true_eq]
    omega
  rw [hw, if_neg (by decide)]
  have f1 : (List.range p.m).find? (fun j => !(flowBad p p.flows[j]! == 0)) = none := by
    rw [List.find?_eq_none]
    intro j hj
    rw [flow_fine (h.flow _ (fl_mem (List.mem_range.1 hj)))]
    decide
  have f2 : (List.range p.n).find? (fun i => !(nodeBad p i == 0)) = none := by
    rw [List.find?_eq_none]
    intro i hi
    rw [node_fine h (List.mem_range.1 hi)]
    decide
  rw [f1]
  simp only []
  rw [f2]
theorem nm_p : nm (bs [112]) = true := by decide +kernel
theorem check_good (kinds more : List Int) (rings : Bool) : check (good kinds more rings) = (0, none) := by
  obtain ⟨h1, h2, h3, h4, h5⟩ := good_inv kinds more rings
  exact check_of h1 h2 (by omega) (by omega) (by rw [h5]; exact nm_p)
end Pr
end Go.Proofs.YtjababmmcejgdaaGreatDoor
namespace Go.Proofs.YtjababmmcejgdaaGreatDoor
open Go.RowKit

theorem numAt_enc : ∀ (n u k acc : Nat) (t : List UInt8), u ≤ n → u * 128 ^ k < 18446744073709551616 → (0 < k → 0 < u) → numAt k acc (enc u ++ t) = (acc + u * 128 ^ k, t, 0) := by
  intro n
  induction n with
  | zero =>
    intro u k acc t hu h1 h2
    obtain rfl : u = 0 := by omega
    obtain rfl : k = 0 := by
      rcases Nat.eq_zero_or_pos k with h | h
      · exact h
      · exact absurd (h2 h) (by decide)
    rw [enc_small (by decide)]
    show numAt 0 acc (UInt8.ofNat 0 :: t) = _
    rw [numAt_end (by simp) (by decide)]
    simp
  | succ n ih =>
    intro u k acc t hu h1 h2
    have hk9 : k = 9 → u < 2 := by
      intro h
      subst h
      omega
    by_cases h : u < 128
    · rw [enc_small h]
      show numAt k acc (UInt8.ofNat u :: t) = _
      have e : (UInt8.ofNat u).toNat = u := by rw [UInt8.toNat_ofNat']; omega
      rw [numAt_end (by rw [e]; omega) (by rw [e]; exact h), e]
    · rw [enc_big (by omega)]
      show numAt k acc (UInt8.ofNat (u % 128 + 128) :: (enc (u / 128) ++ t)) = _
      have e : (UInt8.ofNat (u % 128 + 128)).toNat = u % 128 + 128 := by rw [UInt8.toNat_ofNat']; omega
      have e3 : u / 128 * 128 ^ (k + 1) + u % 128 * 128 ^ k = u * 128 ^ k := by
        rw [Nat.pow_succ, Nat.mul_comm (128 ^ k) 128, ← Nat.mul_assoc, ← Nat.add_mul]
        congr 1
        omega
      rw [numAt_on (by rw [e]; omega) (by rw [e]; omega), e, show (u % 128 + 128) % 128 = u % 128 from by omega]
      rw [ih (u / 128) (k + 1) _ t (by omega) (by omega) (by omega)]
      congr 1
      omega

theorem intSays_in {lo hi n : Int} {t : List UInt8} (h0 : -9223372036854775808 ≤ n) (h1 : n ≤ 9223372036854775807) (hlo : lo ≤ n) (hhi : n ≤ hi) : intSays lo hi (enc (zig n) ++ t) 0 = (n, t, 0) := by
  have h := numAt_enc (zig n) (zig n) 0 0 t (Nat.le_refl _) (by simpa using zig_lt h0 h1) (by omega)
  simp only [Nat.pow_zero, Nat.mul_one, Nat.zero_add] at h
  unfold intSays
  rw [if_neg (by simp), h]
  simp only
  rw [if_neg (by simp), zag_zig, if_neg (by omega)]
theorem intSays_out {lo hi n : Int} {t : List UInt8} (h0 : -9223372036854775808 ≤ n) (h1 : n ≤ 9223372036854775807) (h : n < lo ∨ hi < n) : intSays lo hi (enc (zig n) ++ t) 0 = (0, t, 107) := by
  have h' := numAt_enc (zig n) (zig n) 0 0 t (Nat.le_refl _) (by simpa using zig_lt h0 h1) (by omega)
  simp only [Nat.pow_zero, Nat.mul_one, Nat.zero_add] at h'
  unfold intSays
  rw [if_neg (by simp), h']
  simp only
  rw [if_neg (by simp), zag_zig, if_pos h]
theorem intSays_err {lo hi : Int} {l : List UInt8} {e : Int} (he : e ≠ 0) : intSays lo hi l e = (0, l, e) := by simp [intSays, he]

theorem textSays_in {most : Int} {s : ByteArray} {t : List UInt8} (hs : s.size ≤ 2147483647) (hm : (s.size : Int) ≤ most) : textSays most (textOf s ++ t) 0 = (s.data.toList, t, 0) := by
  have hl : s.data.toList.length = s.size := by simp
  have h := intSays_in (lo := 0) (hi := 2147483647) (n := s.size) (t := s.data.toList ++ t) (by omega) (by omega) (by omega) (by omega)
  unfold textSays textOf
  rw [List.append_assoc, h]
  simp only
  rw [if_neg (by simp), if_neg (by omega), if_neg (by rw [List.length_append, hl]; omega), Int.toNat_natCast, ← hl, List.take_left, List.drop_left]
theorem textSays_long {most : Int} {s : ByteArray} {t : List UInt8} (hs : s.size ≤ 2147483647) (hm : most < (s.size : Int)) : textSays most (textOf s ++ t) 0 = ([], s.data.toList ++ t, 105) := by
  have h := intSays_in (lo := 0) (hi := 2147483647) (n := s.size) (t := s.data.toList ++ t) (by omega) (by omega) (by omega) (by omega)
  unfold textSays textOf
  rw [List.append_assoc, h]
  simp only
  rw [if_neg (by simp), if_pos hm]
theorem textSays_err {most : Int} {l : List UInt8} {e : Int} (he : e ≠ 0) : textSays most l e = ([], l, e) := by
  unfold textSays
  rw [intSays_err he]
  simp only
  rw [if_pos he]
theorem flagSays_in {f : Bool} {t : List UInt8} : flagSays (flagOf f :: t) 0 = (f, t, 0) := by
  cases f <;> simp [flagSays, flagOf]
theorem flagSays_err {l : List UInt8} {e : Int} (he : e ≠ 0) : flagSays l e = (false, l, e) := by simp [flagSays, he]
theorem ba_toList (s : ByteArray) : (⟨s.data.toList.toArray⟩ : ByteArray) = s := by cases s; simp
theorem textsOf_drop {ss : List ByteArray} {j : Nat} (h : j < ss.length) : textsOf (ss.drop j) = textOf ss[j] ++ textsOf (ss.drop (j + 1)) := by
  rw [List.drop_eq_getElem_cons h]
  simp only [textsOf, List.flatMap_cons]
theorem encs_drop {ns : List Int} {j : Nat} (h : j < ns.length) : encs (ns.drop j) = enc (zig ns[j]) ++ encs (ns.drop (j + 1)) := by
  rw [List.drop_eq_getElem_cons h]
  simp only [encs, List.flatMap_cons]
end Go.Proofs.YtjababmmcejgdaaGreatDoor
