/- Mathematics of package cond: each text of 80 bytes at most is told something of. Mathematics of package cond: what a word is, by its text. An error as the document's number, by whatever sentinels a row lists; rows that are kept. The sentinels that package frame tells, by whatever sentinels a row lists. Rows of numbers in memory; the flows from, to a node as a list of places. Contracts of the library's shelf at this program: which function is which, compared by the kernel. Variables in memory: rows of four cells each. -/
import Derived.Test.YtddedbpbenkdoaaGreatDoorYProcessOne9
import Derived.Test.YtddedbpbenkdoaaGreatDoorYProcessOne2
import Derived.Test.YtddedbpbenkdoaaGreatDoorSeeY
import Derived.Test.YtddedbpbenkdoaaGreatDoorYProcessOne11
import Derived.Ground.NamesProg
import Derived.Shelf.Strings.SlTrimAscii
import Derived.Shelf.Small.Strs
import Derived.Shelf.Strconv.ParseIntPublic10
import Derived.Test.YtddedbpbenkdoaaGreatDoorProg
namespace Go.Proofs.YtddedbpbenkdoaaGreatDoor
open Go.RowKit

namespace Co
section
variable {l : List UInt8}
theorem tri_eq (x : Nat × Nat × Nat) (k : Nat) (h : x.2.1 = k) : (x.1, k, x.2.2) = x := by subst h; rfl
theorem tw_le (p : UInt8 → Bool) : ∀ t : List UInt8, (t.takeWhile p).length ≤ t.length
  | [] => by simp
  | c :: t => by
    rw [List.takeWhile_cons]
    split
    · simp; exact tw_le p t
    · simp
theorem endsD_le (p : UInt8 → Bool) {k : Nat} (hk : k ≤ l.length) : k ≤ ends p l k ∧ ends p l k ≤ l.length := by
  unfold ends
  have := tw_le p (l.drop k)
  rw [List.length_drop] at this
  omega
theorem ends_lt (p : UInt8 → Bool) {k : Nat} (hk : k < l.length) (h : p l[k]! = true) : k < ends p l k := by
  unfold ends
  have e : l.drop k = l[k]! :: l.drop (k + 1) := by rw [getElem!_pos l k hk]; exact List.drop_eq_getElem_cons hk
  rw [e, List.takeWhile_cons, if_pos h]
  simp
theorem markLenD_le (t : List UInt8) (ht : 0 < t.length) : markLen t ≤ t.length := by
  unfold markLen
  split
  · omega
  · split <;> omega
/-- What a word's numbers are. -/
theorem word_facts {k : Nat} (hk : k ≤ l.length) : (wordAt l k).2.1 = k ∧ k ≤ (wordAt l k).2.2 ∧ (wordAt l k).2.2 ≤ l.length ∧ (2 ≤ (wordAt l k).1 → k < (wordAt l k).2.2) ∧
    ((wordAt l k).1 = 2 → 1 ≤ ((l.drop k).take ((wordAt l k).2.2 - k)).length ∧ ((l.drop k).take ((wordAt l k).2.2 - k)).length ≤ 9 ∧ ((l.drop k).take ((wordAt l k).2.2 - k)).all digit = true) ∧ ((wordAt l k).1 = 3 → k + 2 ≤ (wordAt l k).2.2) := by
  unfold wordAt
  by_cases h1 : k = l.length
  · rw [if_pos h1]; exact ⟨rfl, Nat.le_refl _, hk, fun h => (by simp at h), fun h => (by simp at h), fun h => (by simp at h)⟩
  rw [if_neg h1]
  have hlt : k < l.length := by omega
  by_cases h2 : ofWord l[k]! = true
  · rw [if_pos h2]
    have h3 := endsD_le (l := l) ofWord hk
    have h4 := ends_lt (l := l) ofWord hlt h2
    refine ⟨rfl, h3.1, h3.2, fun _ => h4, fun h => ?_, fun h => ?_⟩
    · have h : kindOf ((l.drop k).take (ends ofWord l k - k)) = 2 := h
      refine ⟨by rw [List.length_take, List.length_drop]; show 1 ≤ min (ends ofWord l k - k) _; omega, ?_⟩
      show ((l.drop k).take (ends ofWord l k - k)).length ≤ 9 ∧ _
      generalize (l.drop k).take (ends ofWord l k - k) = t at *
      unfold kindOf at h
      split at h
      · cases h
      · split at h
        · cases h
        · split at h
          · rename_i h5; exact h5
          · split at h <;> cases h
    · have h : kindOf ((l.drop k).take (ends ofWord l k - k)) = 3 := h
      unfold kindOf at h
      split at h
      · cases h
      · split at h
        · cases h
        · split at h
          · cases h
          · split at h <;> cases h
  rw [if_neg h2]
  by_cases h3 : l[k]! = 34
  · rw [if_pos h3]
    unfold textAt
    have h4 := endsD_le (l := l) inText (k := k + 1) hlt
    split
    · rename_i h5
      exact ⟨rfl, by show k ≤ ends inText l (k + 1) + 1; omega, by show ends inText l (k + 1) + 1 ≤ _; omega, fun _ => by show k < ends inText l (k + 1) + 1; omega, fun h => (by simp at h), fun _ => by show k + 2 ≤ ends inText l (k + 1) + 1; omega⟩
    · exact ⟨rfl, Nat.le_refl _, hk, fun h => (by simp at h), fun h => (by simp at h), fun h => (by simp at h)⟩
  rw [if_neg h3]
  have h4 := markLenD_le (l.drop k) (by rw [List.length_drop]; omega)
  rw [List.length_drop] at h4
  by_cases h5 : markLen (l.drop k) = 0
  · rw [if_pos h5]; exact ⟨rfl, Nat.le_refl _, hk, fun h => (by simp at h), fun h => (by simp at h), fun h => (by simp at h)⟩
  · rw [if_neg h5]
    exact ⟨rfl, by show k ≤ k + markLen (l.drop k); omega, by show k + markLen (l.drop k) ≤ _; omega, fun _ => by show k < k + markLen (l.drop k); omega, fun h => (by simp at h), fun h => (by simp at h)⟩
/-- A state that the parser comes to. -/
structure Gd (l : List UInt8) (st : St) : Prop where
  bad : st.err.isSome = true → st.kind = 0
  word : st.err = none → st.frm ≤ l.length ∧ (st.kind, st.frm, st.till) = wordAt l st.frm
theorem Gd.facts {st : St} (h : Gd l st) (he : st.err = none) : st.frm ≤ st.till ∧ st.till ≤ l.length ∧ (2 ≤ st.kind → st.frm < st.till) ∧ (st.kind = 2 → 1 ≤ (text l st).length ∧ (text l st).length ≤ 9 ∧ (text l st).all digit = true) ∧ (st.kind = 3 → 2 ≤ (text l st).length) := by
  obtain ⟨h1, h2⟩ := h.word he
  have hf := word_facts h1
  rw [← h2] at hf
  obtain ⟨_, f2, f3, f4, f5, f6⟩ := hf
  refine ⟨f2, f3, f4, f5, fun hk => ?_⟩
  have := f6 hk
  unfold text
  rw [List.length_take, List.length_drop]
  have f3 : st.till ≤ l.length := f3
  have this : st.frm + 2 ≤ st.till := this
  omega
theorem Gd.err {st : St} {x : Int × Nat} (he : st.err = some x) (hk : st.kind = 0) : Gd l st := ⟨fun _ => hk, fun h => by rw [he] at h; cases h⟩
theorem Gd.next {st : St} (h : Gd l st) : Gd l (next l st) ∧ (st.err = none → (Co.next l st).err = none ∧ st.till ≤ (Co.next l st).frm) := by
  cases he : st.err with
  | some x => rw [nextD_err he]; exact ⟨h, fun h => by cases h⟩
  | none =>
    have hf := h.facts he
    have hb := endsD_le (l := l) blank hf.2.1
    have hw := word_facts (l := l) (k := ends blank l st.till) hb.2
    unfold Co.next
    rw [he]
    simp only [Option.isSome_none, Bool.false_eq_true, if_false]
    refine ⟨⟨fun h => (by cases h), fun _ => ?_⟩, fun _ => ⟨trivial, by rw [hw.1]; exact hb.1⟩⟩
    show (wordAt l (ends blank l st.till)).2.1 ≤ l.length ∧ ((wordAt l (ends blank l st.till)).1, (wordAt l (ends blank l st.till)).2.1, (wordAt l (ends blank l st.till)).2.2) = wordAt l (wordAt l (ends blank l st.till)).2.1
    rw [hw.1]
    exact ⟨hb.2, tri_eq _ _ hw.1⟩
theorem Gd.fail {st : St} (h : Gd l st) (c : Int) : Gd l (fail c st) ∧ (Co.fail c st).err ≠ none := by
  cases he : st.err with
  | some x => rw [failD_err he]; exact ⟨h, by rw [he]; simp⟩
  | none =>
    unfold Co.fail
    rw [he]
    simp only [Option.isSome_none, Bool.false_eq_true, if_false]
    exact ⟨Gd.err rfl rfl, by simp⟩
/-- A part that tells something: of what it is given it takes the word, if nothing is amiss. -/
def Tot (l : List UInt8) (f : St → Out) : Prop := ∀ st, Gd l st → ∃ e st', f st = some (e, st') ∧ Gd l st' ∧ (st'.err = none → st.err = none ∧ st.frm < st.till ∧ st.till ≤ st'.frm)
def Tot6 (l : List UInt8) (f : St → Out) : Prop := ∀ st, Gd l st → st.kind = 6 → ∃ e st', f st = some (e, st') ∧ Gd l st' ∧ (st'.err = none → st.err = none ∧ st.frm < st.till ∧ st.till ≤ st'.frm)
theorem kind_err {st : St} (h : Gd l st) (hk : st.kind ≠ 0) : st.err = none := by
  cases he : st.err with
  | none => rfl
  | some x => exact absurd (h.bad (by rw [he]; rfl)) hk
theorem row_tot {part : St → Out} (hp : Tot l part) (a b : Nat) : ∀ g e st, Gd l st → (st.err = none → st.kind = 6 → l.length < st.till + 2 * g) → ∃ e' st', row l part a b (g + 1) e st = some (e', st') ∧ Gd l st' ∧ (st'.err = none → st.err = none ∧ st.frm ≤ st'.frm) := by
  intro g
  induction g with
  | zero =>
    intro e st hg hb
    unfold row
    by_cases h0 : op l st a b = 0
    · rw [if_pos h0]; exact ⟨e, st, rfl, hg, fun h => ⟨h, Nat.le_refl _⟩⟩
    · exfalso
      have hk := op_kind h0
      have he := kind_err hg (by rw [hk]; decide)
      have := hb he hk
      have := (hg.facts he).2.1
      omega
  | succ g ih =>
    intro e st hg hb
    unfold row
    by_cases h0 : op l st a b = 0
    · rw [if_pos h0]; exact ⟨e, st, rfl, hg, fun h => ⟨h, Nat.le_refl _⟩⟩
    · rw [if_neg h0]
      have hk := op_kind h0
      have he := kind_err hg (by rw [hk]; decide)
      have hbb := hb he hk
      have hf := hg.facts he
      obtain ⟨hn, hn2⟩ := hg.next
      obtain ⟨hne, hnt⟩ := hn2 he
      obtain ⟨r, st2, hr, hg2, hc⟩ := hp (Co.next l st) hn
      rw [hr]
      have hf1 := hn.facts hne
      obtain ⟨e', st', h1, h2, h3⟩ := ih (.two (op l st a b) e r) st2 hg2 (by
        intro he2 hk2
        have := hc he2
        have := (hg2.facts he2).2.2.1 (by omega)
        omega)
      refine ⟨e', st', h1, h2, fun h4 => ⟨he, ?_⟩⟩
      obtain ⟨h5, h6⟩ := h3 h4
      have := hc h5
      have := hf.1
      omega
theorem rowAll_tot {part : St → Out} (hl : l.length ≤ 80) (hp : Tot l part) (a b : Nat) : Tot l (rowAll l part a b) := by
  intro st hg
  obtain ⟨r, st1, h1, h2, h3⟩ := hp st hg
  unfold rowAll
  rw [h1]
  obtain ⟨e', st', h4, h5, h6⟩ := row_tot hp a b 59 r st1 h2 (fun _ _ => by omega)
  refine ⟨e', st', h4, h5, fun h => ?_⟩
  obtain ⟨h7, h8⟩ := h6 h
  obtain ⟨h9, h10, h11⟩ := h3 h7
  exact ⟨h9, h10, by omega⟩
theorem deeper_tot {part : Nat → St → Out} (d : Nat) (hp : d ≠ 12 → Tot l (part (d + 1))) : Tot6 l (deeper l part d) := by
  intro st hg hk
  have he := kind_err hg (by rw [hk]; decide)
  have hf := hg.facts he
  unfold deeper
  by_cases hd : d = 12
  · rw [if_pos hd]
    obtain ⟨h1, h2⟩ := hg.fail 112
    exact ⟨_, _, rfl, h1, fun h => absurd h h2⟩
  · rw [if_neg hd]
    obtain ⟨hn, hn2⟩ := hg.next
    obtain ⟨hne, hnt⟩ := hn2 he
    obtain ⟨r, st2, hr, hg2, hc⟩ := hp hd (Co.next l st) hn
    refine ⟨r, st2, hr, hg2, fun h => ?_⟩
    obtain ⟨h1, h2, h3⟩ := hc h
    exact ⟨he, hf.2.2.1 (by omega), by omega⟩
theorem compared_tot {part : St → Out} (hp : Tot l part) : Tot l (compared l part) := by
  intro st hg
  obtain ⟨r, st1, h1, h2, h3⟩ := hp st hg
  unfold compared
  rw [h1]
  simp only []
  by_cases h0 : op l st1 6 11 = 0
  · rw [if_pos h0]; exact ⟨r, st1, rfl, h2, h3⟩
  · rw [if_neg h0]
    have hk := op_kind h0
    have he := kind_err h2 (by rw [hk]; decide)
    have hf := h2.facts he
    obtain ⟨hn, hn2⟩ := h2.next
    obtain ⟨hne, hnt⟩ := hn2 he
    obtain ⟨r2, st2, hr, hg2, hc⟩ := hp (Co.next l st1) hn
    rw [hr]
    refine ⟨_, st2, rfl, hg2, fun h => ?_⟩
    obtain ⟨h4, h5, h6⟩ := hc h
    obtain ⟨h7, h8, h9⟩ := h3 he
    exact ⟨h7, h8, by omega⟩
theorem under_tot (m : List UInt8) (o : Int) {part : Nat → St → Out} {other : St → Out} (d : Nat) (hp : d ≠ 12 → Tot l (part (d + 1))) (ho : Tot l other) : Tot l (under l m o part other d) := by
  intro st hg
  unfold under
  by_cases hm : isM l st m = true
  · rw [if_pos hm]
    obtain ⟨e, st1, h1, h2, h3⟩ := deeper_tot d hp st hg (isM_kind hm)
    rw [h1]
    exact ⟨_, st1, rfl, h2, h3⟩
  · rw [if_neg hm]; exact ho st hg
theorem behind_tot {part : St → Out} (hp : Tot l part) : Tot l (behind part) := by
  intro st hg
  unfold behind
  by_cases hk : st.kind = 3 ∨ st.kind = 4
  · rw [if_pos hk]
    obtain ⟨h1, h2⟩ := hg.fail 111
    obtain ⟨e, st1, h3, h4, h5⟩ := hp _ h1
    exact ⟨e, st1, h3, h4, fun h => absurd (h5 h).1 h2⟩
  · rw [if_neg hk]; exact hp st hg
theorem next_tot {st : St} (hg : Gd l st) (he : st.err = none) (hk : 2 ≤ st.kind) (e : Tr) : ∃ e' st', (some (e, Co.next l st) : Out) = some (e', st') ∧ Gd l st' ∧ (st'.err = none → st.err = none ∧ st.frm < st.till ∧ st.till ≤ st'.frm) := by
  obtain ⟨hn, hn2⟩ := hg.next
  obtain ⟨hne, hnt⟩ := hn2 he
  exact ⟨_, _, rfl, hn, fun _ => ⟨he, (hg.facts he).2.2.1 hk, hnt⟩⟩
theorem fail_tot {st : St} (hg : Gd l st) (c : Int) (e : Tr) : ∃ e' st', (some (e, Co.next l (Co.fail c st)) : Out) = some (e', st') ∧ Gd l st' ∧ (st'.err = none → st.err = none ∧ st.frm < st.till ∧ st.till ≤ st'.frm) := by
  obtain ⟨h1, h2⟩ := hg.fail c
  cases he : (Co.fail c st).err with
  | none => exact absurd he h2
  | some x => rw [nextD_err he]; exact ⟨_, _, rfl, h1, fun h => absurd h h2⟩
theorem bracket_tot {part : Nat → St → Out} (d : Nat) (hp : d ≠ 12 → Tot l (part (d + 1))) : Tot6 l (bracket l part d) := by
  intro st hg hk
  obtain ⟨e, st1, h1, h2, h3⟩ := deeper_tot d hp st hg hk
  unfold bracket
  rw [h1]
  simp only []
  by_cases hm : isM l st1 [41] = true
  · rw [if_pos hm]
    have hk1 := isM_kind hm
    have he := kind_err h2 (by rw [hk1]; decide)
    obtain ⟨e', st', h4, h5, h6⟩ := next_tot h2 he (by omega) e
    refine ⟨e', st', h4, h5, fun h => ?_⟩
    obtain ⟨h7, h8, h9⟩ := h6 h
    obtain ⟨h10, h11, h12⟩ := h3 h7
    exact ⟨h10, h11, by omega⟩
  · rw [if_neg hm]
    obtain ⟨h4, h5⟩ := h2.fail 111
    cases he : (Co.fail 111 st1).err with
    | none => exact absurd he h5
    | some x => rw [nextD_err he]; exact ⟨_, _, rfl, h4, fun h => absurd h h5⟩
theorem single_tot {br : St → Out} (hb : Tot6 l br) : Tot l (single l br) := by
  intro st hg
  unfold single
  by_cases hm : isM l st [40] = true
  · rw [if_pos hm]; exact hb st hg (isM_kind hm)
  rw [if_neg hm]
  by_cases h2 : st.kind = 2
  · have he := kind_err hg (by rw [h2]; decide)
    rw [if_pos h2, if_pos ((hg.facts he).2.2.2.1 h2)]
    exact next_tot hg he (by omega) _
  rw [if_neg h2]
  by_cases h3 : st.kind = 3
  · have he := kind_err hg (by rw [h3]; decide)
    rw [if_pos h3, if_pos ((hg.facts he).2.2.2.2 h3)]
    exact next_tot hg he (by omega) _
  rw [if_neg h3]
  by_cases h4 : st.kind = 4
  · have he := kind_err hg (by rw [h4]; decide)
    rw [if_pos h4]
    exact next_tot hg he (by omega) _
  rw [if_neg h4]
  by_cases h5 : st.kind = 5
  · have he := kind_err hg (by rw [h5]; decide)
    rw [if_pos h5]
    exact next_tot hg he (by omega) _
  rw [if_neg h5]
  exact fail_tot hg 111 _
/-- How much deeper a part may go. -/
def rk (which : Nat) : Nat := match which with
  | 0 => 10 | 1 => 9 | 2 => 8 | 3 => 7 | 4 => 6 | 5 => 5 | 6 => 4 | 7 => 5 | 8 => 3 | _ => 2
theorem parts_tot (hl : l.length ≤ 80) : ∀ f which d, d ≤ 12 → which ≤ 8 → (12 - d) * 9 + rk which ≤ f → Tot l (parts l f which d)
  | 0, which, d, _, hw, hf => by
    exfalso
    have : 0 < rk which := by unfold rk; split <;> decide
    omega
  | f + 1, which, d, hd, hw, hf => by
    have ih := parts_tot hl f
    have deep : ∀ w, w ≤ 8 → rk w + 9 ≤ rk which + 9 + 8 → d ≠ 12 → (12 - (d + 1)) * 9 + rk w ≤ f → Tot l (parts l f w (d + 1)) := fun w hw8 _ hd12 hff => ih w (d + 1) (by omega) hw8 hff
    have e : which = 0 ∨ which = 1 ∨ which = 2 ∨ which = 3 ∨ which = 4 ∨ which = 5 ∨ which = 6 ∨ which = 7 ∨ which = 8 := by omega
    rcases e with rfl | rfl | rfl | rfl | rfl | rfl | rfl | rfl | rfl <;> simp only [rk] at hf
    · exact rowAll_tot hl (ih 1 d hd (by decide) (by simp only [rk]; omega)) 3 3
    · exact rowAll_tot hl (ih 2 d hd (by decide) (by simp only [rk]; omega)) 4 4
    · exact under_tot [110, 111, 116] 5 d (fun h => ih 2 (d + 1) (by omega) (by decide) (by simp only [rk]; omega)) (ih 3 d hd (by decide) (by simp only [rk]; omega))
    · exact compared_tot (ih 4 d hd (by decide) (by simp only [rk]; omega))
    · exact rowAll_tot hl (ih 5 d hd (by decide) (by simp only [rk]; omega)) 12 13
    · exact rowAll_tot hl (ih 6 d hd (by decide) (by simp only [rk]; omega)) 14 16
    · exact under_tot [45] 17 d (fun h => ih 7 (d + 1) (by omega) (by decide) (by simp only [rk]; omega)) (ih 8 d hd (by decide) (by simp only [rk]; omega))
    · exact behind_tot (ih 6 d hd (by decide) (by simp only [rk]; omega))
    · match f, hf, ih with
      | 0, hf, _ => omega
      | f + 1, hf, _ =>
        refine single_tot ?_
        exact bracket_tot d fun h => parts_tot hl f 0 (d + 1) (by omega) (by decide) (by simp only [rk]; omega)
theorem start_gd : Gd l (Co.next l ⟨0, 0, 0, none⟩) := by
  have hb := endsD_le (l := l) blank (k := 0) (Nat.zero_le _)
  have hw := word_facts (l := l) (k := ends blank l 0) hb.2
  unfold Co.next
  simp only [Option.isSome_none, Bool.false_eq_true, if_false]
  refine ⟨fun h => (by cases h), fun _ => ?_⟩
  show (wordAt l (ends blank l 0)).2.1 ≤ l.length ∧ ((wordAt l (ends blank l 0)).1, (wordAt l (ends blank l 0)).2.1, (wordAt l (ends blank l 0)).2.2) = wordAt l (wordAt l (ends blank l 0)).2.1
  rw [hw.1]
  exact ⟨hb.2, tri_eq _ _ hw.1⟩
/-- Something is told of each text. -/
theorem parse_tot (l : List UInt8) : ∃ e er, parse l = some (e, er) := by
  unfold parse
  by_cases h : 80 < l.length
  · rw [if_pos h]; exact ⟨_, _, rfl⟩
  · rw [if_neg h]
    obtain ⟨e, st, h1, _⟩ := parts_tot (l := l) (by omega) 140 0 0 (by decide) (by decide) (by decide) (Co.next l ⟨0, 0, 0, none⟩) start_gd
    rw [h1]
    simp only []
    split
    · exact ⟨_, _, rfl⟩
    · exact ⟨_, _, rfl⟩
end
end Co
end Go.Proofs.YtddedbpbenkdoaaGreatDoor
namespace Go.Proofs.YtddedbpbenkdoaaGreatDoor
open Go.RowKit

namespace Co
/-- What a word of that text is, if it is not empty. -/
def V (t : List UInt8) : Nat := if ofWord t[0]! = true then kindOf t else if t[0]! = 34 then 3 else 6
section
variable {l : List UInt8} {st : St}
theorem word_kind {k : Nat} (hk : k ≤ l.length) (h : k < (wordAt l k).2.2) : (wordAt l k).1 = V ((l.drop k).take ((wordAt l k).2.2 - k)) := by
  have hf := word_facts hk
  have h0 : ((l.drop k).take ((wordAt l k).2.2 - k))[0]! = l[k]! := by
    have h1 : 0 < (wordAt l k).2.2 - k := by omega
    simp [List.getElem!_eq_getElem?_getD, h1]
  unfold V
  rw [h0]
  have hlt : k < l.length := by omega
  clear h0
  unfold wordAt at h ⊢
  rw [if_neg (by omega)] at h ⊢
  by_cases h1 : ofWord l[k]! = true
  · rw [if_pos h1, if_pos h1]
  · rw [if_neg h1] at h ⊢
    rw [if_neg h1]
    by_cases h2 : l[k]! = 34
    · rw [if_pos h2] at h ⊢
      rw [if_pos h2]
      unfold textAt at h ⊢
      split
      · rfl
      · rename_i h3
        rw [if_neg h3] at h
        exact absurd h (Nat.lt_irrefl _)
    · rw [if_neg h2] at h ⊢
      rw [if_neg h2]
      split
      · rename_i h3
        rw [if_pos h3] at h
        exact absurd h (Nat.lt_irrefl _)
      · rfl
theorem Gd.kind (h : Gd l st) (he : st.err = none) (ht : text l st ≠ []) : st.kind = V (text l st) := by
  obtain ⟨h1, h2⟩ := h.word he
  have hk : st.kind = (wordAt l st.frm).1 := by rw [← h2]
  have hm : st.till = (wordAt l st.frm).2.2 := by rw [← h2]
  have hlt : st.frm < st.till := by
    rcases Nat.lt_or_ge st.frm st.till with h | h
    · exact h
    · exact absurd (by unfold text; rw [show st.till - st.frm = 0 from by omega]; rfl) ht
  unfold text
  rw [hk, hm]
  exact word_kind h1 (by omega)
/-- An operator or bracket stands there: told by the text alone. -/
theorem Gd.isM (h : Gd l st) (he : st.err = none) (m : List UInt8) (hm : m ≠ []) (hv : V m = 6) : isM l st m = decide (text l st = m) := by
  unfold Co.isM
  by_cases ht : text l st = m
  · have := h.kind he (by rw [ht]; exact hm)
    rw [ht, hv] at this
    rw [decide_eq_true this, decide_eq_true ht]; rfl
  · rw [decide_eq_false ht, Bool.and_false]
theorem Gd.nonempty (h : Gd l st) (he : st.err = none) (hk : 2 ≤ st.kind) : text l st ≠ [] := by
  have hf := h.facts he
  have := hf.2.2.1 hk
  intro e
  have := congrArg List.length e
  unfold text at this
  rw [List.length_take, List.length_drop] at this
  simp at this
  omega
end
end Co
end Go.Proofs.YtddedbpbenkdoaaGreatDoor
namespace Go.Proofs.YtddedbpbenkdoaaGreatDoor
open Go.RowKit

/-- What an error is seen as: none, or a sentinel's number; E: where the sentinel of a number lies. -/
inductive SeenBy (E : Int → Option Addr) : Value → Int → Prop
  | nil : SeenBy E .nilIface 0
  | err (c : Int) (a : Addr) (h : E c = some a) (hc : c ≠ 0) : SeenBy E (errV a) c
theorem seen_not {E : Int → Option Addr} {ev : Value} {e : Int} (h : SeenBy E ev e) (he : e ≠ 0) : ∃ a, ev = errV a := by
  cases h with
  | nil => exact absurd rfl he
  | err k a h => exact ⟨a, rfl⟩
theorem seen_nil {E : Int → Option Addr} {ev : Value} (h : SeenBy E ev 0) : ev = .nilIface := by
  generalize he : (0 : Int) = e at h
  cases h with
  | nil => rfl
  | err k a h hc => exact absurd he.symm hc
theorem seen_err {E : Int → Option Addr} {ev : Value} {e : Int} (h : SeenBy E ev e) (he : e ≠ 0) : ∃ a, ev = errV a ∧ E e = some a := by
  cases h with
  | nil => exact absurd rfl he
  | err k a h => exact ⟨a, rfl, h⟩
/-- The sentinel of the number c is in variable g. -/
def ErrIn (W : World) (E : Int → Option Addr) (c : Int) (g : Nat) : Prop := ∃ a, E c = some a ∧ W.cell? ⟨g, 0, none⟩ = some (errV a)
theorem ErrIn.below {W w : World} {E : Int → Option Addr} {c : Int} {g : Nat} (h : ErrIn W E c g) (hb : Below W.heap.size W w) : ErrIn w E c g := by
  obtain ⟨a, h1, h2⟩ := h
  exact ⟨a, h1, (hb.cell (p := ⟨g, 0, none⟩) (cell_lt h2)).trans h2⟩
theorem errIn_of {W : World} {E : Int → Option Addr} {gs : List Nat} {ads : List Addr} (hE : Errs W 183 gs ads) (c : Int) (i g : Nat) (hg : gs[i]? = some g) (hc : E c = ads[i]?) : ErrIn W E c g := by
  have hi : i < ads.length := by rw [hE.len]; exact (List.getElem?_eq_some_iff.1 hg).1
  have ha : ads[i]? = some ads[i] := List.getElem?_eq_getElem hi
  exact ⟨ads[i], hc.trans ha, (hE.all i g _ hg ha).var⟩

theorem rowS_kept {w w' : World} {n sz : Nat} {A : Option Addr} {l : List Value} {row : Option Nat} (h : RowS w w.heap.size sz A n l) (hg : w.grownBy w' row) (ha : 0 < n → ∀ a, A = some a → row ≠ some a.block) : RowS w' w'.heap.size sz A n l := by
  refine ⟨h.1, fun hn => ?_⟩
  obtain ⟨b, off, rfl, hlt, hc⟩ := h.2 hn
  refine ⟨b, off, rfl, Nat.lt_of_lt_of_le hlt hg.size, fun k v hv => ?_⟩
  exact (World.cell?_of_block (a := ⟨b, off + k, none⟩) (hg.block b hlt (fun e => ha hn _ rfl e.symm))).trans (hc k v hv)
theorem bytes_kept {w w' : World} {n : Nat} {A : Option Addr} {l : List UInt8} {row : Option Nat} (h : Bytes w w.heap.size A n l) (hg : w.grownBy w' row) (ha : 0 < n → ∀ a, A = some a → row ≠ some a.block) : Bytes w' w'.heap.size A n l := rowS_kept h hg ha
end Go.Proofs.YtddedbpbenkdoaaGreatDoor
namespace Go.Proofs.YtddedbpbenkdoaaGreatDoor
open Go.RowKit

structure FrErrs (W : World) (E : Int → Option Addr) : Prop where
  e101 : ErrIn W E 101 7
  e102 : ErrIn W E 102 3
  e103 : ErrIn W E 103 8
  e105 : ErrIn W E 105 4
  row : ∀ c a, E c = some a → ∃ cs t, W.heap[a.block]? = some (.cells cs t (0, 0))
  inj : ∀ c d a, E c = some a → E d = some a → c = d
theorem FrErrs.below {W w : World} {E : Int → Option Addr} (h : FrErrs W E) (hb : Below W.heap.size W w) : FrErrs w E :=
  ⟨h.e101.below hb, h.e102.below hb, h.e103.below hb, h.e105.below hb, (fun c a ha => by
    obtain ⟨cs, t, hr⟩ := h.row c a ha
    refine ⟨cs, t, (hb.block a.block ?_).trans hr⟩
    rcases Nat.lt_or_ge a.block W.heap.size with h' | h'
    · exact h'
    · rw [Array.getElem?_eq_none h'] at hr; cases hr), h.inj⟩

/-- Where the sentinel of a number lies, by its place in the row. -/
def errMap (pos : Int → Nat) (ads : List Addr) (c : Int) : Option Addr := ads[pos c]?
theorem errMap_inj {pos : Int → Nat} {W : World} {gs : List Nat} {ads : List Addr} (hE : Errs W 183 gs ads) (hp : ∀ c d, pos c < gs.length → pos c = pos d → c = d) :
    ∀ c d a, errMap pos ads c = some a → errMap pos ads d = some a → c = d := by
  intro c d a h1 h2
  unfold errMap at h1 h2
  obtain ⟨hc, e1⟩ := List.getElem?_eq_some_iff.1 h1
  obtain ⟨hd, e2⟩ := List.getElem?_eq_some_iff.1 h2
  exact hp c d (by rw [← hE.len]; exact hc) ((List.getElem_inj hE.nodup).1 (e1.trans e2.symm))
theorem errMap_row {pos : Int → Nat} {W : World} {gs : List Nat} {ads : List Addr} (hE : Errs W 183 gs ads) :
    ∀ c a, errMap pos ads c = some a → ∃ cs t, W.heap[a.block]? = some (.cells cs t (0, 0)) := by
  intro c a h
  unfold errMap at h
  obtain ⟨hc, _⟩ := List.getElem?_eq_some_iff.1 h
  exact (hE.all _ _ a (List.getElem?_eq_getElem (by rw [← hE.len]; exact hc)) h).row
def pos4 (c : Int) : Nat := if c = 101 then 0 else if c = 102 then 1 else if c = 103 then 2 else if c = 105 then 3 else 1000
def pos16 (c : Int) : Nat := if 101 ≤ c then (c - 101).toNat else 1000
theorem pos4_inv {c : Int} (h : pos4 c < 4) : c = [101, 102, 103, 105].getD (pos4 c) 0 := by
  by_cases h1 : c = 101
  · subst h1; rfl
  · by_cases h2 : c = 102
    · subst h2; rfl
    · by_cases h3 : c = 103
      · subst h3; rfl
      · by_cases h4 : c = 105
        · subst h4; rfl
        · simp [pos4, h1, h2, h3, h4] at h
theorem frErrs4 {W : World} {ads : List Addr} (hE : Errs W 183 [7, 3, 8, 4] ads) : FrErrs W (errMap pos4 ads) where
  e101 := errIn_of hE 101 0 _ rfl rfl
  e102 := errIn_of hE 102 1 _ rfl rfl
  e103 := errIn_of hE 103 2 _ rfl rfl
  e105 := errIn_of hE 105 3 _ rfl rfl
  row := errMap_row hE
  inj := errMap_inj hE fun c d h1 h2 => by
    have hc : c = [101, 102, 103, 105].getD (pos4 c) 0 := pos4_inv h1
    have hd : d = [101, 102, 103, 105].getD (pos4 d) 0 := pos4_inv (h2 ▸ h1)
    rw [hc, hd, h2]
theorem frErrs16 {W : World} {ads : List Addr} (hE : Errs W 183 sents ads) : FrErrs W (errMap pos16 ads) where
  e101 := errIn_of hE 101 0 _ rfl rfl
  e102 := errIn_of hE 102 1 _ rfl rfl
  e103 := errIn_of hE 103 2 _ rfl rfl
  e105 := errIn_of hE 105 4 _ rfl rfl
  row := errMap_row hE
  inj := errMap_inj hE fun c d h1 h2 => by
    unfold pos16 at h1 h2
    have h1 : (if 101 ≤ c then (c - 101).toNat else 1000) < 16 := h1
    by_cases k1 : 101 ≤ c
    · rw [if_pos k1] at h1 h2
      by_cases k2 : 101 ≤ d
      · rw [if_pos k2] at h2; omega
      · rw [if_neg k2] at h2; omega
    · rw [if_neg k1] at h1; omega
theorem seenAs_of {W : World} {ads : List Addr} {ev : Value} {c : Int} (hE : Errs W 183 sents ads) (h : SeenBy (errMap pos16 ads) ev c) : SeenAs ads ev c := by
  have hl := sents_row hE
  cases h with
  | nil => exact .nil
  | err c a h hc =>
    unfold errMap pos16 at h
    split at h
    · rename_i h1
      have := SeenAs.err (ads := ads) (c - 101).toNat a h
      rwa [show (101 : Int) + ((c - 101).toNat : Nat) = c from by omega] at this
    · rw [List.getElem?_eq_none (by omega)] at h; cases h
end Go.Proofs.YtddedbpbenkdoaaGreatDoor
namespace Go.Proofs.YtddedbpbenkdoaaGreatDoor
open Go.RowKit

namespace Pr
/-- Rows of numbers. -/
def iκ : Cs Int := ⟨1, fun x => [.int .i64 x], fun _ => rfl, fun x u hu => by obtain rfl := List.mem_singleton.1 hu; rfl⟩
theorem iκ_cells {w : World} {b off n B : Nat} {l : List Int} (h : KRow iκ w B (some ⟨b, off, none⟩) n l) {j : Nat} (hj : j < n) : w.cell? ⟨b, off + j, none⟩ = some (.int .i64 l[j]!) := by
  have := KRow.of (κ := iκ) h (by decide) hj 0 (.int .i64 l[j]!) rfl
  rwa [show off + j * iκ.k + 0 = off + j from by show off + j * 1 + 0 = off + j; omega] at this
theorem info_int : (Tryz.prog.info? 3).map (fun i => (i.zero, i.size, i.bytes)) = some (some (.int .i64 0), 1, 8) := by kernel_rfl

def outsB (p : P) (i : Int) : List Nat := (List.range p.m).filter fun j => decide (0 ≤ i) && (decide (i < p.n) && ((p.flows[j]!).frm == i))
def insB (p : P) (i : Int) : List Nat := (List.range p.m).filter fun j => decide (0 ≤ i) && (decide (i < p.n) && ((p.flows[j]!).til == i))
theorem outsB_in (p : P) {i : Nat} (h : i < p.n) : outsB p (i : Int) = outsL p i := by
  unfold outsB outsL
  congr 1
  funext j
  have h1 : decide ((0 : Int) ≤ (i : Int)) = true := decide_eq_true (by omega)
  have h2 : decide ((i : Int) < (p.n : Int)) = true := decide_eq_true (by omega)
  rw [h1, h2]; rfl
theorem insB_in (p : P) {i : Nat} (h : i < p.n) : insB p (i : Int) = insL p i := by
  unfold insB insL
  congr 1
  funext j
  have h1 : decide ((0 : Int) ≤ (i : Int)) = true := decide_eq_true (by omega)
  have h2 : decide ((i : Int) < (p.n : Int)) = true := decide_eq_true (by omega)
  rw [h1, h2]; rfl
/-- The eight cells of a node in a row. -/
theorem nd_at {w : World} {B : Nat} {b off n : Nat} {l : List Nd} (h : KRow Nd.κ w B (some ⟨b, off, none⟩) n l) {j : Nat} (hj : j < n) :
    w.cell? ⟨b, off + j * 8, none⟩ = some (.int .i64 (l[j]!).kind) ∧ w.cell? ⟨b, off + j * 8 + 1, none⟩ = some (.string (l[j]!).topic) ∧ w.cell? ⟨b, off + j * 8 + 2, none⟩ = some (.int .i64 (l[j]!).prio) ∧
    w.cell? ⟨b, off + j * 8 + 3, none⟩ = some (.int .i64 (l[j]!).retr) ∧ w.cell? ⟨b, off + j * 8 + 4, none⟩ = some (.int .i64 (l[j]!).dflt) ∧ w.cell? ⟨b, off + j * 8 + 5, none⟩ = some (.string (l[j]!).code) ∧
    w.cell? ⟨b, off + j * 8 + 6, none⟩ = some (.string (l[j]!).caught) ∧ w.cell? ⟨b, off + j * 8 + 7, none⟩ = some (.int .i64 (l[j]!).tgt) := by
  have := KRow.of (κ := Nd.κ) h (by decide) hj
  exact ⟨this 0 _ rfl, this 1 _ rfl, this 2 _ rfl, this 3 _ rfl, this 4 _ rfl, this 5 _ rfl, this 6 _ rfl, this 7 _ rfl⟩
/-- The three cells of a flow in a row. -/
theorem fl_at {w : World} {B : Nat} {b off n : Nat} {l : List Fl} (h : KRow Fl.κ w B (some ⟨b, off, none⟩) n l) {j : Nat} (hj : j < n) :
    w.cell? ⟨b, off + j * 3, none⟩ = some (.int .i64 (l[j]!).frm) ∧ w.cell? ⟨b, off + j * 3 + 1, none⟩ = some (.int .i64 (l[j]!).til) ∧ w.cell? ⟨b, off + j * 3 + 2, none⟩ = some (.string (l[j]!).cond) := by
  have := KRow.of (κ := Fl.κ) h (by decide) hj
  exact ⟨this 0 _ rfl, this 1 _ rfl, this 2 _ rfl⟩
end Pr
end Go.Proofs.YtddedbpbenkdoaaGreatDoor
namespace Go.Proofs.YtddedbpbenkdoaaGreatDoor
open Go.Shelf
def shLays137_ren : Go.Shelf.Ren := ⟨fun | 137 => 88 | 217 => 99 | 266 => 106 | n => n, fun | 9 => 9 | 5 => 5 | 3 => 3 | n => n, fun | n => n⟩
theorem shLays137 : Go.Proofs.Lays.n137 Tryz.prog shLays137_ren := {
  mixed := by kernel_rfl
  f137 := Tryz.func88.trans (congrArg some (by kernel_rfl))
  f217 := Tryz.func99.trans (congrArg some (by kernel_rfl))
  f266 := Tryz.func106.trans (congrArg some (by kernel_rfl))
  t3 := Tryz.underlying3
  a3 := Tryz.isAgg3
  z3 := Tryz.sizeOf3
  v3 := Tryz.zeroValue3
  t5 := Tryz.underlying5
  a5 := Tryz.isAgg5
  z5 := Tryz.sizeOf5
  v5 := Tryz.zeroValue5
  t9 := Tryz.underlying9
  a9 := Tryz.isAgg9
  z9 := Tryz.sizeOf9
  v9 := Tryz.zeroValue9 }
def shLays160_ren : Go.Shelf.Ren := ⟨fun | 160 => 87 | 232 => 93 | 231 => 92 | 227 => 94 | 234 => 96 | 233 => 95 | 236 => 98 | 235 => 97 | 228 => 102 | 271 => 105 | 151 => 104 | 197 => 103 | 120 => 110 | 152 => 109 | 260 => 108 | 137 => 88 | 119 => 112 | 224 => 113 | 225 => 114 | 217 => 99 | 266 => 106 | n => n, fun | 9 => 9 | 4 => 4 | 3 => 3 | 5 => 5 | 117 => 147 | 116 => 146 | 0 => 0 | 124 => 150 | 21 => 21 | 105 => 152 | 46 => 69 | 119 => 156 | 139 => 159 | 138 => 158 | n => n, fun | 3 => 19 | 4 => 20 | n => n⟩
theorem shLays160 : Go.Proofs.Lays.n160 Tryz.prog shLays160_ren := {
  mixed := by kernel_rfl
  f119 := Tryz.func112.trans (congrArg some (by kernel_rfl))
  f120 := Tryz.func110.trans (congrArg some (by kernel_rfl))
  f137 := Tryz.func88.trans (congrArg some (by kernel_rfl))
  f151 := Tryz.func104.trans (congrArg some (by kernel_rfl))
  f152 := Tryz.func109.trans (congrArg some (by kernel_rfl))
  f160 := Tryz.func87.trans (congrArg some (by kernel_rfl))
  f197 := Tryz.func103.trans (congrArg some (by kernel_rfl))
  f217 := Tryz.func99.trans (congrArg some (by kernel_rfl))
  f224 := Tryz.func113.trans (congrArg some (by kernel_rfl))
  f225 := Tryz.func114.trans (congrArg some (by kernel_rfl))
  f227 := Tryz.func94.trans (congrArg some (by kernel_rfl))
  f228 := Tryz.func102.trans (congrArg some (by kernel_rfl))
  f231 := Tryz.func92.trans (congrArg some (by kernel_rfl))
  f232 := Tryz.func93.trans (congrArg some (by kernel_rfl))
  f233 := Tryz.func95.trans (congrArg some (by kernel_rfl))
  f234 := Tryz.func96.trans (congrArg some (by kernel_rfl))
  f235 := Tryz.func97.trans (congrArg some (by kernel_rfl))
  f236 := Tryz.func98.trans (congrArg some (by kernel_rfl))
  f260 := Tryz.func108.trans (congrArg some (by kernel_rfl))
  f266 := Tryz.func106.trans (congrArg some (by kernel_rfl))
  f271 := Tryz.func105.trans (congrArg some (by kernel_rfl))
  t0 := Tryz.underlying0
  a0 := Tryz.isAgg0
  z0 := Tryz.sizeOf0
  v0 := Tryz.zeroValue0
  t3 := Tryz.underlying3
  a3 := Tryz.isAgg3
  z3 := Tryz.sizeOf3
  v3 := Tryz.zeroValue3
  t4 := Tryz.underlying4
  a4 := Tryz.isAgg4
  z4 := Tryz.sizeOf4
  v4 := Tryz.zeroValue4
  t5 := Tryz.underlying5
  a5 := Tryz.isAgg5
  z5 := Tryz.sizeOf5
  v5 := Tryz.zeroValue5
  t9 := Tryz.underlying9
  a9 := Tryz.isAgg9
  z9 := Tryz.sizeOf9
  v9 := Tryz.zeroValue9
  t21 := Tryz.underlying21
  a21 := Tryz.isAgg21
  z21 := Tryz.sizeOf21
  v21 := Tryz.zeroValue21
  t46 := Tryz.underlying69
  a46 := Tryz.isAgg69
  z46 := Tryz.sizeOf69
  v46 := Tryz.zeroValue69
  t105 := Tryz.underlying152
  a105 := Tryz.isAgg152
  z105 := Tryz.sizeOf152
  v105 := Tryz.zeroValue152
  t116 := Tryz.underlying146
  a116 := Tryz.isAgg146
  z116 := Tryz.sizeOf146
  t117 := Tryz.underlying147
  a117 := Tryz.isAgg147
  z117 := Tryz.sizeOf147
  v117 := Tryz.zeroValue147
  t119 := Tryz.underlying156
  a119 := Tryz.isAgg156
  z119 := Tryz.sizeOf156
  t124 := Tryz.underlying150
  a124 := Tryz.isAgg150
  z124 := Tryz.sizeOf150
  v124 := Tryz.zeroValue150
  t138 := Tryz.underlying158
  a138 := Tryz.isAgg158
  z138 := Tryz.sizeOf158
  v138 := Tryz.zeroValue158
  t139 := Tryz.underlying159
  a139 := Tryz.isAgg159
  z139 := Tryz.sizeOf159
  v139 := Tryz.zeroValue159
  g3 := by kernel_rfl
  g4 := by kernel_rfl }
def shLaysC174_ren : Go.Shelf.Ren := ⟨fun | 174 => 118 | 247 => 122 | 245 => 123 | 287 => 124 | 279 => 125 | 280 => 126 | 281 => 127 | 282 => 128 | 321 => 129 | 322 => 130 | 316 => 131 | 171 => 133 | 205 => 132 | 243 => 134 | 246 => 135 | 283 => 136 | 284 => 137 | 285 => 138 | 286 => 139 | 129 => 141 | 317 => 140 | 318 => 142 | 319 => 143 | 320 => 144 | 337 => 145 | 338 => 146 | n => n, fun | 9 => 9 | 3 => 3 | 2 => 2 | 75 => 33 | 85 => 163 | 4 => 4 | 167 => 169 | 5 => 5 | 53 => 170 | 175 => 171 | 46 => 69 | 168 => 173 | 37 => 177 | 0 => 0 | 210 => 180 | 21 => 21 | 127 => 182 | 145 => 185 | 143 => 183 | 171 => 187 | 173 => 190 | 212 => 193 | 51 => 194 | 20 => 20 | 213 => 195 | 232 => 199 | 233 => 200 | 80 => 151 | n => n, fun | 15 => 21 | 16 => 22 | 17 => 23 | 18 => 24 | 19 => 25 | n => n⟩
theorem shLaysC174 : Go.Proofs.LaysC.n174 Tryz.prog shLaysC174_ren := {
  mixed := by kernel_rfl
  f129 := Tryz.func141.trans (congrArg some (by kernel_rfl))
  f171 := Tryz.func133.trans (congrArg some (by kernel_rfl))
  f174 := Tryz.func118.trans (congrArg some (by kernel_rfl))
  f205 := Tryz.func132.trans (congrArg some (by kernel_rfl))
  f243 := Tryz.func134.trans (congrArg some (by kernel_rfl))
  f245 := Tryz.func123.trans (congrArg some (by kernel_rfl))
  f246 := Tryz.func135.trans (congrArg some (by kernel_rfl))
  f247 := Tryz.func122.trans (congrArg some (by kernel_rfl))
  f279 := Tryz.func125.trans (congrArg some (by kernel_rfl))
  f280 := Tryz.func126.trans (congrArg some (by kernel_rfl))
  f281 := Tryz.func127.trans (congrArg some (by kernel_rfl))
  f282 := Tryz.func128.trans (congrArg some (by kernel_rfl))
  f283 := Tryz.func136.trans (congrArg some (by kernel_rfl))
  f284 := Tryz.func137.trans (congrArg some (by kernel_rfl))
  f285 := Tryz.func138.trans (congrArg some (by kernel_rfl))
  f286 := Tryz.func139.trans (congrArg some (by kernel_rfl))
  f287 := Tryz.func124.trans (congrArg some (by kernel_rfl))
  f316 := Tryz.func131.trans (congrArg some (by kernel_rfl))
  f317 := Tryz.func140.trans (congrArg some (by kernel_rfl))
  f318 := Tryz.func142.trans (congrArg some (by kernel_rfl))
  f319 := Tryz.func143.trans (congrArg some (by kernel_rfl))
  f320 := Tryz.func144.trans (congrArg some (by kernel_rfl))
  f321 := Tryz.func129.trans (congrArg some (by kernel_rfl))
  f322 := Tryz.func130.trans (congrArg some (by kernel_rfl))
  f337 := Tryz.func145.trans (congrArg some (by kernel_rfl))
  f338 := Tryz.func146.trans (congrArg some (by kernel_rfl))
  t0 := Tryz.underlying0
  a0 := Tryz.isAgg0
  z0 := Tryz.sizeOf0
  v0 := Tryz.zeroValue0
  t2 := Tryz.underlying2
  a2 := Tryz.isAgg2
  z2 := Tryz.sizeOf2
  v2 := Tryz.zeroValue2
  t3 := Tryz.underlying3
  a3 := Tryz.isAgg3
  z3 := Tryz.sizeOf3
  v3 := Tryz.zeroValue3
  t4 := Tryz.underlying4
  a4 := Tryz.isAgg4
  z4 := Tryz.sizeOf4
  v4 := Tryz.zeroValue4
  t5 := Tryz.underlying5
  a5 := Tryz.isAgg5
  z5 := Tryz.sizeOf5
  v5 := Tryz.zeroValue5
  t9 := Tryz.underlying9
  a9 := Tryz.isAgg9
  z9 := Tryz.sizeOf9
  v9 := Tryz.zeroValue9
  t20 := Tryz.underlying20
  a20 := Tryz.isAgg20
  z20 := Tryz.sizeOf20
  v20 := Tryz.zeroValue20
  t21 := Tryz.underlying21
  a21 := Tryz.isAgg21
  z21 := Tryz.sizeOf21
  v21 := Tryz.zeroValue21
  t37 := Tryz.underlying177
  a37 := Tryz.isAgg177
  z37 := Tryz.sizeOf177
  v37 := Tryz.zeroValue177
  t46 := Tryz.underlying69
  a46 := Tryz.isAgg69
  z46 := Tryz.sizeOf69
  v46 := Tryz.zeroValue69
  t51 := Tryz.underlying194
  a51 := Tryz.isAgg194
  z51 := Tryz.sizeOf194
  v51 := Tryz.zeroValue194
  t53 := Tryz.underlying170
  a53 := Tryz.isAgg170
  z53 := Tryz.sizeOf170
  v53 := Tryz.zeroValue170
  t75 := Tryz.underlying33
  a75 := Tryz.isAgg33
  z75 := Tryz.sizeOf33
  v75 := Tryz.zeroValue33
  t85 := Tryz.underlying163
  a85 := Tryz.isAgg163
  z85 := Tryz.sizeOf163
  v85 := Tryz.zeroValue163
  t127 := Tryz.underlying182
  a127 := Tryz.isAgg182
  z127 := Tryz.sizeOf182
  v127 := Tryz.zeroValue182
  t143 := Tryz.underlying183
  a143 := Tryz.isAgg183
  z143 := Tryz.sizeOf183
  v143 := Tryz.zeroValue183
  t145 := Tryz.underlying185
  a145 := Tryz.isAgg185
  z145 := Tryz.sizeOf185
  v145 := Tryz.zeroValue185
  t167 := Tryz.underlying169
  a167 := Tryz.isAgg169
  z167 := Tryz.sizeOf169
  v167 := Tryz.zeroValue169
  t168 := Tryz.underlying173
  a168 := Tryz.isAgg173
  z168 := Tryz.sizeOf173
  v168 := Tryz.zeroValue173
  t171 := Tryz.underlying187
  a171 := Tryz.isAgg187
  z171 := Tryz.sizeOf187
  v171 := Tryz.zeroValue187
  t173 := Tryz.underlying190
  a173 := Tryz.isAgg190
  z173 := Tryz.sizeOf190
  v173 := Tryz.zeroValue190
  t175 := Tryz.underlying171
  a175 := Tryz.isAgg171
  z175 := Tryz.sizeOf171
  v175 := Tryz.zeroValue171
  t210 := Tryz.underlying180
  a210 := Tryz.isAgg180
  z210 := Tryz.sizeOf180
  v210 := Tryz.zeroValue180
  t212 := Tryz.underlying193
  a212 := Tryz.isAgg193
  z212 := Tryz.sizeOf193
  v212 := Tryz.zeroValue193
  t213 := Tryz.underlying195
  a213 := Tryz.isAgg195
  z213 := Tryz.sizeOf195
  t232 := Tryz.underlying199
  a232 := Tryz.isAgg199
  z232 := Tryz.sizeOf199
  v232 := Tryz.zeroValue199
  t233 := Tryz.underlying200
  a233 := Tryz.isAgg200
  z233 := Tryz.sizeOf200
  v233 := Tryz.zeroValue200
  g15 := by kernel_rfl
  g16 := by kernel_rfl
  g17 := by kernel_rfl
  g18 := by kernel_rfl
  g19 := by kernel_rfl
  t80 := Tryz.underlying151
  a80 := Tryz.isAgg151
  z80 := Tryz.sizeOf151
  v80 := Tryz.zeroValue151
  i0 := by kernel_rfl
  i2 := by kernel_rfl
  i3 := by kernel_rfl
  i4 := by kernel_rfl
  i5 := by kernel_rfl
  i9 := by kernel_rfl
  i20 := by kernel_rfl
  i21 := by kernel_rfl
  i37 := by kernel_rfl
  i46 := by kernel_rfl
  i51 := by kernel_rfl
  i53 := by kernel_rfl
  i75 := by kernel_rfl
  i80 := by kernel_rfl
  i85 := by kernel_rfl
  i127 := by kernel_rfl
  i143 := by kernel_rfl
  i145 := by kernel_rfl
  i167 := by kernel_rfl
  i168 := by kernel_rfl
  i171 := by kernel_rfl
  i173 := by kernel_rfl
  i175 := by kernel_rfl
  i210 := by kernel_rfl
  i212 := by kernel_rfl
  i232 := by kernel_rfl
  i233 := by kernel_rfl
  m15 := by kernel_rfl
  m16 := by kernel_rfl
  m17 := by kernel_rfl
  m18 := by kernel_rfl
  m19 := by kernel_rfl
  c0 := by kernel_rfl
  c2 := by kernel_rfl
  c3 := by kernel_rfl
  c4 := by kernel_rfl
  c5 := by kernel_rfl
  c9 := by kernel_rfl
  c20 := by kernel_rfl
  c21 := by kernel_rfl
  c37 := by kernel_rfl
  c46 := by kernel_rfl
  c51 := by kernel_rfl
  c53 := by kernel_rfl
  c75 := by kernel_rfl
  c80 := by kernel_rfl
  c85 := by kernel_rfl
  c127 := by kernel_rfl
  c143 := by kernel_rfl
  c145 := by kernel_rfl
  c167 := by kernel_rfl
  c168 := by kernel_rfl
  c171 := by kernel_rfl
  c173 := by kernel_rfl
  c175 := by kernel_rfl
  c210 := by kernel_rfl
  c212 := by kernel_rfl
  c213 := by kernel_rfl
  c232 := by kernel_rfl
  c233 := by kernel_rfl }
end Go.Proofs.YtddedbpbenkdoaaGreatDoor
namespace Go.Proofs.YtddedbpbenkdoaaGreatDoor
open Go.RowKit

theorem flat4_len (l : List Vr.V) : (l.flatMap Vr.V.cells).length = l.length * 4 := by
  induction l with
  | nil => rfl
  | cons y l ih => simp only [List.flatMap_cons, List.length_append, List.length_cons, ih, Vr.V.cells_len]; omega
theorem flat4_at : ∀ (l : List Vr.V) (j i : Nat) (hj : j < l.length), i < 4 → (l.flatMap Vr.V.cells)[j * 4 + i]? = (l[j].cells)[i]?
  | y :: l, 0, i, _, hi => by
    rw [List.flatMap_cons, List.getElem?_append_left (by simp; omega)]
    simp
  | y :: l, j + 1, i, hj, hi => by
    rw [List.flatMap_cons, List.getElem?_append_right (by simp; omega)]
    have := flat4_at l j i (by simpa using hj) hi
    rw [show (j + 1) * 4 + i - y.cells.length = j * 4 + i from by simp; omega, this]
    simp
theorem flat4_one (l : List Vr.V) : ∀ u ∈ l.flatMap Vr.V.cells, u.oneCell' = true := by
  intro u hu
  obtain ⟨v, _, hv⟩ := List.mem_flatMap.1 hu
  simp only [Vr.V.cells, List.mem_cons, List.not_mem_nil, or_false] at hv
  rcases hv with rfl | rfl | rfl | rfl <;> rfl

/-- A slice of variables. -/
def VRow (w : World) (B : Nat) (A : Option Addr) (n : Nat) (l : List Vr.V) : Prop := RowS w B 4 A n (l.flatMap Vr.V.cells)
/-- One of one's own. -/
def OwnVars (w : World) (base : Nat) (e : TypeId) (A : Option Addr) (n c : Nat) (l : List Vr.V) : Prop := w.ownsRow base e 4 (.slice A n c) n (l.flatMap Vr.V.cells)
section
variable {w w' : World} {B B' n : Nat} {A : Option Addr} {l : List Vr.V}
theorem VRow.len (h : VRow w B A n l) : l.length = n := by
  have := h.1
  rw [flat4_len] at this
  omega
theorem VRow.nil (w : World) (B : Nat) (A : Option Addr) : VRow w B A 0 [] := RowS.nil w B 4 A
theorem VRow.below (h : VRow w B A n l) {b0 : Nat} (hb : Below b0 w w') (hB : B ≤ b0) : VRow w' B A n l := RowS.below h hb hB
theorem VRow.mono (h : VRow w B A n l) (hB : B ≤ B') : VRow w B' A n l := RowS.mono h hB
theorem VRow.drew (h : VRow w B A n l) : VRow w.drew B A n l := h
theorem VRow.at_ (h : VRow w B A n l) {k : Nat} (hk : k < n) :
    ∃ b off, A = some ⟨b, off, none⟩ ∧ b < B ∧ w.cell? ⟨b, off + k * 4, none⟩ = some (.string l[k]!.name) ∧ w.cell? ⟨b, off + k * 4 + 1, none⟩ = some (.int .i64 l[k]!.kind) ∧
      w.cell? ⟨b, off + k * 4 + 2, none⟩ = some (.int .i64 l[k]!.num) ∧ w.cell? ⟨b, off + k * 4 + 3, none⟩ = some (.string l[k]!.text) := by
  have hl := h.len
  have hkl : k < l.length := by omega
  obtain ⟨b, off, rfl, hb, hc⟩ := h.2 (by omega)
  rw [show l[k]! = l[k] from getElem!_pos l k hkl]
  exact ⟨b, off, rfl, hb, hc _ _ (flat4_at l k 0 hkl (by decide)), hc _ _ (flat4_at l k 1 hkl (by decide)), hc _ _ (flat4_at l k 2 hkl (by decide)), hc _ _ (flat4_at l k 3 hkl (by decide))⟩
/-- The same for a place known. -/
theorem VRow.of {b off : Nat} (h : VRow w B (some ⟨b, off, none⟩) n l) {k : Nat} (hk : k < n) :
    w.cell? ⟨b, off + k * 4, none⟩ = some (.string l[k]!.name) ∧ w.cell? ⟨b, off + k * 4 + 1, none⟩ = some (.int .i64 l[k]!.kind) ∧
      w.cell? ⟨b, off + k * 4 + 2, none⟩ = some (.int .i64 l[k]!.num) ∧ w.cell? ⟨b, off + k * 4 + 3, none⟩ = some (.string l[k]!.text) := by
  obtain ⟨b', off', he, _, h1, h2, h3, h4⟩ := h.at_ hk
  injection he with he
  injection he with e1 e2
  subst e1; subst e2
  exact ⟨h1, h2, h3, h4⟩
end
section
variable {w w' : World} {base n c : Nat} {e : TypeId} {A : Option Addr} {l : List Vr.V}
theorem OwnVars.row (h : OwnVars w base e A n c l) : VRow w w.heap.size A n l := RowS.own h
theorem OwnVars.len (h : OwnVars w base e A n c l) : l.length = n := h.row.len
theorem OwnVars.below (h : OwnVars w base e A n c l) {B : Nat} (hb : Below B w w') (hB : w.heap.size ≤ B) : OwnVars w' base e A n c l := own_below h hb hB
theorem OwnVars.lower {base' : Nat} (h : OwnVars w base e A n c l) (hb : base' ≤ base) : OwnVars w base' e A n c l := own_base h hb
theorem OwnVars.nn (h : OwnVars w base e A n c l) : A = none → n = 0 ∧ c = 0 := by
  obtain ⟨A', c', he, hA⟩ := own_form h
  injection he with h1 h2 h3
  subst h1; subst h3
  exact hA
theorem OwnVars.cap (h : OwnVars w base e A n c l) : n ≤ c := by
  rcases h.2 with ⟨hv, h0⟩ | ⟨g, cap, cur, hv, _, _, hc, _⟩
  · injection hv with _ _ h3; omega
  · injection hv with _ _ h3; omega
theorem OwnVars.most (h : OwnVars w base e A n c l) : c ≤ maxLen := by
  rcases h.2 with ⟨hv, h0⟩ | ⟨g, cap, cur, hv, _, _, _, hc, _⟩
  · injection hv with _ _ h3; subst h3; simp [maxLen]
  · injection hv with _ _ h3; omega
end
/-- A variable as a value. -/
def Vr.V.val (v : Vr.V) : Value := .agg #[.string v.name, .int .i64 v.kind, .int .i64 v.num, .string v.text]
/-- Its value alone. -/
def Vr.V.inner (v : Vr.V) : Value := .agg #[.int .i64 v.kind, .int .i64 v.num, .string v.text]
end Go.Proofs.YtddedbpbenkdoaaGreatDoor
