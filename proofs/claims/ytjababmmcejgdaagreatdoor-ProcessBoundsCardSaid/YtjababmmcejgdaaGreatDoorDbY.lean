/- Mathematics of package cond: each text of 80 bytes at most is told something of. -/
import Derived.Test.YtjababmmcejgdaaGreatDoorDaY
namespace Go.Proofs.YtjababmmcejgdaaGreatDoor
open Go.RowKit

namespace Co
section
variable {l : List UInt8}
theorem tri_eq (x : Nat × Nat × Nat) (k : Nat) (h : x.2.1 = k) : (x.1, k, x.2.2) = x := by subst h; rfl
theorem tw_le (p : UInt8 → Bool) : ∀ t : List UInt8, (t.takeWhile p).length ≤ t.length
  | [] => by simp
  | c :: t => by
    rw [List.takeWhile_cons]
    split
    · simp; exact tw_le p t
    · simp
theorem endsD_le (p : UInt8 → Bool) {k : Nat} (hk : k ≤ l.length) : k ≤ ends p l k ∧ ends p l k ≤ l.length := by
  unfold ends
  have := tw_le p (l.drop k)
  rw [List.length_drop] at this
  omega
theorem ends_lt (p : UInt8 → Bool) {k : Nat} (hk : k < l.length) (h : p l[k]! = true) : k < ends p l k := by
  unfold ends
  have e : l.drop k = l[k]! :: l.drop (k + 1) := by rw [getElem!_pos l k hk]; exact List.drop_eq_getElem_cons hk
  rw [e, List.takeWhile_cons, if_pos h]
  simp
theorem markLenD_le (t : List UInt8) (ht : 0 < t.length) : markLen t ≤ t.length := by
  unfold markLen
  split
  · omega
  · split <;> omega
/-- What a word's numbers are. -/
theorem word_facts {k : Nat} (hk : k ≤ l.length) : (wordAt l k).2.1 = k ∧ k ≤ (wordAt l k).2.2 ∧ (wordAt l k).2.2 ≤ l.length ∧ (2 ≤ (wordAt l k).1 → k < (wordAt l k).2.2) ∧
    ((wordAt l k).1 = 2 → 1 ≤ ((l.drop k).take ((wordAt l k).2.2 - k)).length ∧ ((l.drop k).take ((wordAt l k).2.2 - k)).length ≤ 9 ∧ ((l.drop k).take ((wordAt l k).2.2 - k)).all digit = true) ∧ ((wordAt l k).1 = 3 → k + 2 ≤ (wordAt l k).2.2) := by
  unfold wordAt
  by_cases h1 : k = l.length
  · rw [if_pos h1]; exact ⟨rfl, Nat.le_refl _, hk, fun h => (by simp at h), fun h => (by simp at h), fun h => (by simp at h)⟩
  rw [if_neg h1]
  have hlt : k < l.length := by omega
  by_cases h2 : ofWord l[k]! = true
  · rw [if_pos h2]
    have h3 := endsD_le (l := l) ofWord hk
    have h4 := ends_lt (l := l) ofWord hlt h2
    refine ⟨rfl, h3.1, h3.2, fun _ => h4, fun h => ?_, fun h => ?_⟩
    · have h : kindOf ((l.drop k).take (ends ofWord l k - k)) = 2 := h
      refine ⟨by rw [List.length_take, List.length_drop]; show 1 ≤ min (ends ofWord l k - k) _; omega, ?_⟩
      show ((l.drop k).take (ends ofWord l k - k)).length ≤ 9 ∧ _
      generalize (l.drop k).take (ends ofWord l k - k) = t at *
      unfold kindOf at h
      split at h
      · cases h
      · split at h
        · cases h
        · split at h
          · rename_i h5; exact h5
          · split at h <;> cases h
    · have h : kindOf ((l.drop k).take (ends ofWord l k - k)) = 3 := h
      unfold kindOf at h
      split at h
      · cases h
      · split at h
        · cases h
        · split at h
          · cases h
          · split at h <;> cases h
  rw [if_neg h2]
  by_cases h3 : l[k]! = 34
  · rw [if_pos h3]
    unfold textAt
    have h4 := endsD_le (l := l) inText (k := k + 1) hlt
    split
    · rename_i h5
      exact ⟨rfl, by show k ≤ ends inText l (k + 1) + 1; omega, by show ends inText l (k + 1) + 1 ≤ _; omega, fun _ => by show k < ends inText l (k + 1) + 1; omega, fun h => (by simp at h), fun _ => by show k + 2 ≤ ends inText l (k + 1) + 1; omega⟩
    · exact ⟨rfl, Nat.le_refl _, hk, fun h => (by simp at h), fun h => (by simp at h), fun h => (by simp at h)⟩
  rw [if_neg h3]
  have h4 := markLenD_le (l.drop k) (by rw [List.length_drop]; omega)
  rw [List.length_drop] at h4
  by_cases h5 : markLen (l.drop k) = 0
  · rw [if_pos h5]; exact ⟨rfl, Nat.le_refl _, hk, fun h => (by simp at h), fun h => (by simp at h), fun h => (by simp at h)⟩
  · rw [if_neg h5]
    exact ⟨rfl, by show k ≤ k + markLen (l.drop k); omega, by show k + markLen (l.drop k) ≤ _; omega, fun _ => by show k < k + markLen (l.drop k); omega, fun h => (by simp at h), fun h => (by simp at h)⟩
/-- A state that the parser comes to. -/
structure Gd (l : List UInt8) (st : St) : Prop where
  bad : st.err.isSome = true → st.kind = 0
  word : st.err = none → st.frm ≤ l.length ∧ (st.kind, st.frm, st.till) = wordAt l st.frm
theorem Gd.facts {st : St} (h : Gd l st) (he : st.err = none) : st.frm ≤ st.till ∧ st.till ≤ l.length ∧ (2 ≤ st.kind → st.frm < st.till) ∧ (st.kind = 2 → 1 ≤ (text l st).length ∧ (text l st).length ≤ 9 ∧ (text l st).all digit = true) ∧ (st.kind = 3 → 2 ≤ (text l st).length) := by
  obtain ⟨h1, h2⟩ := h.word he
  have hf := word_facts h1
  rw [← h2] at hf
  obtain ⟨_, f2, f3, f4, f5, f6⟩ := hf
  refine ⟨f2, f3, f4, f5, fun hk => ?_⟩
  have := f6 hk
  unfold text
  rw [List.length_take, List.length_drop]
  have f3 : st.till ≤ l.length := f3
  have this : st.frm + 2 ≤ st.till := this
  omega
theorem Gd.err {st : St} {x : Int × Nat} (he : st.err = some x) (hk : st.kind = 0) : Gd l st := ⟨fun _ => hk, fun h => by rw [he] at h; cases h⟩
theorem Gd.next {st : St} (h : Gd l st) : Gd l (next l st) ∧ (st.err = none → (Co.next l st).err = none ∧ st.till ≤ (Co.next l st).frm) := by
  cases he : st.err with
  | some x => rw [nextD_err he]; exact ⟨h, fun h => by cases h⟩
  | none =>
    have hf := h.facts he
    have hb := endsD_le (l := l) blank hf.2.1
    have hw := word_facts (l := l) (k := ends blank l st.till) hb.2
    unfold Co.next
    rw [he]
    simp only [Option.isSome_none, Bool.false_eq_true, if_false]
    refine ⟨⟨fun h => (by cases h), fun _ => ?_⟩, fun _ => ⟨trivial, by rw [hw.1]; exact hb.1⟩⟩
    show (wordAt l (ends blank l st.till)).2.1 ≤ l.length ∧ ((wordAt l (ends blank l st.till)).1, (wordAt l (ends blank l st.till)).2.1, (wordAt l (ends blank l st.till)).2.2) = wordAt l (wordAt l (ends blank l st.till)).2.1
    rw [hw.1]
    exact ⟨hb.2, tri_eq _ _ hw.1⟩
theorem Gd.fail {st : St} (h : Gd l st) (c : Int) : Gd l (fail c st) ∧ (Co.fail c st).err ≠ none := by
  cases he : st.err with
  | some x => rw [failD_err he]; exact ⟨h, by rw [he]; simp⟩
  | none =>
    unfold Co.fail
    rw [he]
    simp only [Option.isSome_none, Bool.false_eq_true, if_false]
    exact ⟨Gd.err rfl rfl, by simp⟩
/-- A part that tells something: of what it is given it takes the word, if nothing is amiss. -/
def Tot (l : List UInt8) (f : St → Out) : Prop := ∀ st, Gd l st → ∃ e st', f st = some (e, st') ∧ Gd l st' ∧ (st'.err = none → st.err = none ∧ st.frm < st.till ∧ st.till ≤ st'.frm)
def Tot6 (l : List UInt8) (f : St → Out) : Prop := ∀ st, Gd l st → st.kind = 6 → ∃ e st', f st = some (e, st') ∧ Gd l st' ∧ (st'.err = none → st.err = none ∧ st.frm < st.till ∧ st.till ≤ st'.frm)
theorem kind_err {st : St} (h : Gd l st) (hk : st.kind ≠ 0) : st.err = none := by
  cases he : st.err with
  | none => rfl
  | some x => exact absurd (h.bad (by rw [he]; rfl)) hk
theorem row_tot {part : St → Out} (hp : Tot l part) (a b : Nat) : ∀ g e st, Gd l st → (st.err = none → st.kind = 6 → l.length < st.till + 2 * g) → ∃ e' st', row l part a b (g + 1) e st = some (e', st') ∧ Gd l st' ∧ (st'.err = none → st.err = none ∧ st.frm ≤ st'.frm) := by
  intro g
  induction g with
  | zero =>
    intro e st hg hb
    unfold row
    by_cases h0 : op l st a b = 0
    · rw [if_pos h0]; exact ⟨e, st, rfl, hg, fun h => ⟨h, Nat.le_refl _⟩⟩
    · exfalso
      have hk := op_kind h0
      have he := kind_err hg (by rw [hk]; decide)
      have := hb he hk
      have := (hg.facts he).2.1
      omega
  | succ g ih =>
    intro e st hg hb
    unfold row
    by_cases h0 : op l st a b = 0
    · rw [if_pos h0]; exact ⟨e, st, rfl, hg, fun h => ⟨h, Nat.le_refl _⟩⟩
    · rw [if_neg h0]
      have hk := op_kind h0
      have he := kind_err hg (by rw [hk]; decide)
      have hbb := hb he hk
      have hf := hg.facts he
      obtain ⟨hn, hn2⟩ := hg.next
      obtain ⟨hne, hnt⟩ := hn2 he
      obtain ⟨r, st2, hr, hg2, hc⟩ := hp (Co.next l st) hn
      rw [hr]
      have hf1 := hn.facts hne
      obtain ⟨e', st', h1, h2, h3⟩ := ih (.two (op l st a b) e r) st2 hg2 (by
        intro he2 hk2
        have := hc he2
        have := (hg2.facts he2).2.2.1 (by omega)
        omega)
      refine ⟨e', st', h1, h2, fun h4 => ⟨he, ?_⟩⟩
      obtain ⟨h5, h6⟩ := h3 h4
      have := hc h5
      have := hf.1
      omega
theorem rowAll_tot {part : St → Out} (hl : l.length ≤ 80) (hp : Tot l part) (a b : Nat) : Tot l (rowAll l part a b) := by
  intro st hg
  obtain ⟨r, st1, h1, h2, h3⟩ := hp st hg
  unfold rowAll
  rw [h1]
  obtain ⟨e', st', h4, h5, h6⟩ := row_tot hp a b 59 r st1 h2 (fun _ _ => by omega)
  refine ⟨e', st', h4, h5, fun h => ?_⟩
  obtain ⟨h7, h8⟩ := h6 h
  obtain ⟨h9, h10, h11⟩ := h3 h7
  exact ⟨h9, h10, by omega⟩
theorem deeper_tot {part : Nat → St → Out} (d : Nat) (hp : d ≠ 12 → Tot l (part (d + 1))) : Tot6 l (deeper l part d) := by
  intro st hg hk
  have he := kind_err hg (by rw [hk]; decide)
  have hf := hg.facts he
  unfold deeper
  by_cases hd : d = 12
  · rw [if_pos hd]
    obtain ⟨h1, h2⟩ := hg.fail 112
    exact ⟨_, _, rfl, h1, fun h => absurd h h2⟩
  · rw [if_neg hd]
    obtain ⟨hn, hn2⟩ := hg.next
    obtain ⟨hne, hnt⟩ := hn2 he
    obtain ⟨r, st2, hr, hg2, hc⟩ := hp hd (Co.next l st) hn
    refine ⟨r, st2, hr, hg2, fun h => ?_⟩
    obtain ⟨h1, h2, h3⟩ := hc h
    exact ⟨he, hf.2.2.1 (by omega), by omega⟩
theorem compared_tot {part : St → Out} (hp : Tot l part) : Tot l (compared l part) := by
  intro st hg
  obtain ⟨r, st1, h1, h2, h3⟩ := hp st hg
  unfold compared
  rw [h1]
  simp only []
  by_cases h0 : op l st1 6 11 = 0
  · rw [if_pos h0]; exact ⟨r, st1, rfl, h2, h3⟩
  · rw [if_neg h0]
    have hk := op_kind h0
    have he := kind_err h2 (by rw [hk]; decide)
    have hf := h2.facts he
    obtain ⟨hn, hn2⟩ := h2.next
    obtain ⟨hne, hnt⟩ := hn2 he
    obtain ⟨r2, st2, hr, hg2, hc⟩ := hp (Co.next l st1) hn
    rw [hr]
    refine ⟨_, st2, rfl, hg2, fun h => ?_⟩
    obtain ⟨h4, h5, h6⟩ := hc h
    obtain ⟨h7, h8, h9⟩ := h3 he
    exact ⟨h7, h8, by omega⟩
theorem under_tot (m : List UInt8) (o : Int) {part : Nat → St → Out} {other : St → Out} (d : Nat) (hp : d ≠ 12 → Tot l (part (d + 1))) (ho : Tot l other) : Tot l (under l m o part other d) := by
  intro st hg
  unfold under
  by_cases hm : isM l st m = true
  · rw [if_pos hm]
    obtain ⟨e, st1, h1, h2, h3⟩ := deeper_tot d hp st hg (isM_kind hm)
    rw [h1]
    exact ⟨_, st1, rfl, h2, h3⟩
  · rw [if_neg hm]; exact ho st hg
theorem behind_tot {part : St → Out} (hp : Tot l part) : Tot l (behind part) := by
  intro st hg
  unfold behind
  by_cases hk : st.kind = 3 ∨ st.kind = 4
  · rw [if_pos hk]
    obtain ⟨h1, h2⟩ := hg.fail 111
    obtain ⟨e, st1, h3, h4, h5⟩ := hp _ h1
    exact ⟨e, st1, h3, h4, fun h => absurd (h5 h).1 h2⟩
  · rw [if_neg hk]; exact hp st hg
theorem next_tot {st : St} (hg : Gd l st) (he : st.err = none) (hk : 2 ≤ st.kind) (e : Tr) : ∃ e' st', (some (e, Co.next l st) : Out) = some (e', st') ∧ Gd l st' ∧ (st'.err = none → st.err = none ∧ st.frm < st.till ∧ st.till ≤ st'.frm) := by
  obtain ⟨hn, hn2⟩ := hg.next
  obtain ⟨hne, hnt⟩ := hn2 he
  exact ⟨_, _, rfl, hn, fun _ => ⟨he, (hg.facts he).2.2.1 hk, hnt⟩⟩
theorem fail_tot {st : St} (hg : Gd l st) (c : Int) (e : Tr) : ∃ e' st', (some (e, Co.next l (Co.fail c st)) : Out) = some (e', st') ∧ Gd l st' ∧ (st'.err = none → st.err = none ∧ st.frm < st.till ∧ st.till ≤ st'.frm) := by
  obtain ⟨h1, h2⟩ := hg.fail c
  cases he : (Co.fail c st).err with
  | none => exact absurd he h2
  | some x => rw [nextD_err he]; exact ⟨_, _, rfl, h1, fun h => absurd h h2⟩
theorem bracket_tot {part : Nat → St → Out} (d : Nat) (hp : d ≠ 12 → Tot l (part (d + 1))) : Tot6 l (bracket l part d) := by
  intro st hg hk
  obtain ⟨e, st1, h1, h2, h3⟩ := deeper_tot d hp st hg hk
  unfold bracket
  rw [h1]
  simp only []
  by_cases hm : isM l st1 [41] = true
  · rw [if_pos hm]
    have hk1 := isM_kind hm
    have he := kind_err h2 (by rw [hk1]; decide)
    obtain ⟨e', st', h4, h5, h6⟩ := next_tot h2 he (by omega) e
    refine ⟨e', st', h4, h5, fun h => ?_⟩
    obtain ⟨h7, h8, h9⟩ := h6 h
    obtain ⟨h10, h11, h12⟩ := h3 h7
    exact ⟨h10, h11, by omega⟩
  · rw [if_neg hm]
    obtain ⟨h4, h5⟩ := h2.fail 111
    cases he : (Co.fail 111 st1).err with
    | none => exact absurd he h5
    | some x => rw [nextD_err he]; exact ⟨_, _, rfl, h4, fun h => absurd h h5⟩
theorem single_tot {br : St → Out} (hb : Tot6 l br) : Tot l (single l br) := by
  intro st hg
  unfold single
  by_cases hm : isM l st [40] = true
  · rw [if_pos hm]; exact hb st hg (isM_kind hm)
  rw [if_neg hm]
  by_cases h2 : st.kind = 2
  · have he := kind_err hg (by rw [h2]; decide)
    rw [if_pos h2, if_pos ((hg.facts he).2.2.2.1 h2)]
    exact next_tot hg he (by omega) _
  rw [if_neg h2]
  by_cases h3 : st.kind = 3
  · have he := kind_err hg (by rw [h3]; decide)
    rw [if_pos h3, if_pos ((hg.facts he).2.2.2.2 h3)]
    exact next_tot hg he (by omega) _
  rw [if_neg h3]
  by_cases h4 : st.kind = 4
  · have he := kind_err hg (by rw [h4]; decide)
    rw [if_pos h4]
    exact next_tot hg he (by omega) _
  rw [if_neg h4]
  by_cases h5 : st.kind = 5
  · have he := kind_err hg (by rw [h5]; decide)
    rw [if_pos h5]
    exact next_tot hg he (by omega) _
  rw [if_neg h5]
  exact fail_tot hg 111 _
/-- How much deeper a part may go. -/
def rk (which : Nat) : Nat := match which with
  | 0 => 10 | 1 => 9 | 2 => 8 | 3 => 7 | 4 => 6 | 5 => 5 | 6 => 4 | 7 => 5 | 8 => 3 | _ => 2
theorem parts_tot (hl : l.length ≤ 80) : ∀ f which d, d ≤ 12 → which ≤ 8 → (12 - d) * 9 + rk which ≤ f → Tot l (parts l f which d)
  | 0, which, d, _, hw, hf => by
    exfalso
    have : 0 < rk which := by unfold rk; split <;> decide
    omega
  | f + 1, which, d, hd, hw, hf => by
    have ih := parts_tot hl f
    have deep : ∀ w, w ≤ 8 → rk w + 9 ≤ rk which + 9 + 8 → d ≠ 12 → (12 - (d + 1)) * 9 + rk w ≤ f → Tot l (parts l f w (d + 1)) := fun w hw8 _ hd12 hff => ih w (d + 1) (by omega) hw8 hff
    have e : which = 0 ∨ which = 1 ∨ which = 2 ∨ which = 3 ∨ which = 4 ∨ which = 5 ∨ which = 6 ∨ which = 7 ∨ which = 8 := by omega
    rcases e with rfl | rfl | rfl | rfl | rfl | rfl | rfl | rfl | rfl <;> simp only [rk] at hf
    · exact rowAll_tot hl (ih 1 d hd (by decide) (by simp only [rk]; omega)) 3 3
    · exact rowAll_tot hl (ih 2 d hd (by decide) (by simp only [rk]; omega)) 4 4
    · exact under_tot [110, 111, 116] 5 d (fun h => ih 2 (d + 1) (by omega) (by decide) (by simp only [rk]; omega)) (ih 3 d hd (by decide) (by simp only [rk]; omega))
    · exact compared_tot (ih 4 d hd (by decide) (by simp only [rk]; omega))
    · exact rowAll_tot hl (ih 5 d hd (by decide) (by simp only [rk]; omega)) 12 13
    · exact rowAll_tot hl (ih 6 d hd (by decide) (by simp only [rk]; omega)) 14 16
    · exact under_tot [45] 17 d (fun h => ih 7 (d + 1) (by omega) (by decide) (by simp only [rk]; omega)) (ih 8 d hd (by decide) (by simp only [rk]; omega))
    · exact behind_tot (ih 6 d hd (by decide) (by simp only [rk]; omega))
    · match f, hf, ih with
      | 0, hf, _ => omega
      | f + 1, hf, _ =>
        refine single_tot ?_
        exact bracket_tot d fun h => parts_tot hl f 0 (d + 1) (by omega) (by decide) (by simp only [rk]; omega)
theorem start_gd : Gd l (Co.next l ⟨0, 0, 0, none⟩) := by
  have hb := endsD_le (l := l) blank (k := 0) (Nat.zero_le _)
  have hw := word_facts (l := l) (k := ends blank l 0) hb.2
  unfold Co.next
  simp only [Option.isSome_none, Bool.false_eq_true, if_false]
  refine ⟨fun h => (by cases h), fun _ => ?_⟩
  show (wordAt l (ends blank l 0)).2.1 ≤ l.length ∧ ((wordAt l (ends blank l 0)).1, (wordAt l (ends blank l 0)).2.1, (wordAt l (ends blank l 0)).2.2) = wordAt l (wordAt l (ends blank l 0)).2.1
  rw [hw.1]
  exact ⟨hb.2, tri_eq _ _ hw.1⟩
/-- Something is told of each text. -/
theorem parse_tot (l : List UInt8) : ∃ e er, parse l = some (e, er) := by
  unfold parse
  by_cases h : 80 < l.length
  · rw [if_pos h]; exact ⟨_, _, rfl⟩
  · rw [if_neg h]
    obtain ⟨e, st, h1, _⟩ := parts_tot (l := l) (by omega) 140 0 0 (by decide) (by decide) (by decide) (Co.next l ⟨0, 0, 0, none⟩) start_gd
    rw [h1]
    simp only []
    split
    · exact ⟨_, _, rfl⟩
    · exact ⟨_, _, rfl⟩
end
end Co
end Go.Proofs.YtjababmmcejgdaaGreatDoor
