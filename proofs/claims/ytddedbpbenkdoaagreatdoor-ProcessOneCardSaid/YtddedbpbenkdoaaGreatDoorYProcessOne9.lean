/- Mathematics of package cond: the first thing amiss stays; a word is known by its text. Mathematics of processes: fields that are set; a Work, a choice, a fork, a loop behind a node. Mathematics of processes: pieces in a row, and that such a process may be. Mathematics of processes: those out of few numbers may be. -/
import Derived.Test.YtddedbpbenkdoaaGreatDoorYProcessOne11
namespace Go.Proofs.YtddedbpbenkdoaaGreatDoor
open Go.RowKit

namespace Co
/-- What is amiss by then: told, or a word that can't be there. -/
def eff (st : St) : Option (Int × Nat) := if st.err.isSome = true then st.err else if st.kind = 0 then some (111, st.frm) else none
theorem eff_err {st : St} {x : Int × Nat} (h : st.err = some x) : eff st = some x := by unfold eff; rw [h]; rfl
theorem eff_of {st : St} {x : Int × Nat} (h : eff st = some x) (hk : st.kind ≠ 0) : st.err = some x := by
  unfold eff at h
  cases he : st.err with
  | none => rw [he] at h; simp [hk] at h
  | some y => rw [he] at h; simpa using h
theorem nextD_err {l : List UInt8} {st : St} {x : Int × Nat} (h : st.err = some x) : next l st = st := by unfold next; rw [h]; rfl
theorem failD_err {c : Int} {st : St} {x : Int × Nat} (h : st.err = some x) : fail c st = st := by unfold fail; rw [h]; rfl
theorem isM_kind {l : List UInt8} {st : St} {m : List UInt8} (h : isM l st m = true) : st.kind = 6 := by
  unfold isM at h
  rw [Bool.and_eq_true, decide_eq_true_eq, decide_eq_true_eq] at h
  exact h.1
theorem opGo_kind {l : List UInt8} {st : St} : ∀ n a, opGo l st n a ≠ 0 → st.kind = 6
  | 0, _, h => absurd rfl h
  | n + 1, a, h => by
    unfold opGo at h
    split at h
    · rename_i hm; exact isM_kind hm
    · exact opGo_kind n (a + 1) h
theorem op_kind {l : List UInt8} {st : St} {a b : Nat} (h : op l st a b ≠ 0) : st.kind = 6 := opGo_kind _ _ h
/-- What keeps the first thing amiss. -/
def Keeps (f : St → Out) : Prop := ∀ st e st' x, f st = some (e, st') → eff st = some x → eff st' = some x
/-- The same where an operator or bracket stands. -/
def Keeps6 (f : St → Out) : Prop := ∀ st e st' x, st.kind = 6 → f st = some (e, st') → eff st = some x → eff st' = some x
section
variable {l : List UInt8}
theorem row_keeps {part : St → Out} (hp : Keeps part) (a b : Nat) : ∀ f e st e' st' x, row l part a b f e st = some (e', st') → eff st = some x → eff st' = some x
  | 0, _, _, _, _, _, h, _ => by cases h
  | f + 1, e, st, e', st', x, h, hx => by
    unfold row at h
    by_cases h0 : op l st a b = 0
    · rw [if_pos h0] at h; cases h; exact hx
    · rw [if_neg h0] at h
      have hk := op_kind h0
      have he := eff_of hx (by rw [hk]; decide)
      rw [nextD_err he] at h
      cases hpp : part st with
      | none => rw [hpp] at h; cases h
      | some r =>
        obtain ⟨r, st2⟩ := r
        rw [hpp] at h
        exact row_keeps hp a b f _ st2 e' st' x h (hp st r st2 x hpp hx)
theorem rowAll_keeps {part : St → Out} (hp : Keeps part) (a b : Nat) : Keeps (rowAll l part a b) := by
  intro st e st' x h hx
  unfold rowAll at h
  cases hpp : part st with
  | none => rw [hpp] at h; cases h
  | some r =>
    obtain ⟨r, st2⟩ := r
    rw [hpp] at h
    exact row_keeps hp a b 60 r st2 e st' x h (hp st r st2 x hpp hx)
theorem deeper_keeps {part : Nat → St → Out} (d : Nat) (hp : d ≠ 12 → Keeps (part (d + 1))) : Keeps6 (deeper l part d) := by
  intro st e st' x hk h hx
  have he := eff_of hx (by rw [hk]; decide)
  unfold deeper at h
  by_cases hd : d = 12
  · rw [if_pos hd, failD_err he] at h; cases h; exact hx
  · rw [if_neg hd, nextD_err he] at h
    exact hp hd st e st' x h hx
theorem compared_keeps {part : St → Out} (hp : Keeps part) : Keeps (compared l part) := by
  intro st e st' x h hx
  unfold compared at h
  cases hpp : part st with
  | none => rw [hpp] at h; cases h
  | some r =>
    obtain ⟨r, st1⟩ := r
    rw [hpp] at h
    simp only [] at h
    have h1 := hp st r st1 x hpp hx
    by_cases h0 : op l st1 6 11 = 0
    · rw [if_pos h0] at h; cases h; exact h1
    · rw [if_neg h0] at h
      have hk := op_kind h0
      have he := eff_of h1 (by rw [hk]; decide)
      rw [nextD_err he] at h
      cases hp2 : part st1 with
      | none => rw [hp2] at h; cases h
      | some r2 =>
        obtain ⟨r2, st2⟩ := r2
        rw [hp2] at h
        cases h
        exact hp st1 r2 _ x hp2 h1
theorem under_keeps (m : List UInt8) (o : Int) {part : Nat → St → Out} {other : St → Out} (d : Nat) (hp : d ≠ 12 → Keeps (part (d + 1))) (ho : Keeps other) : Keeps (under l m o part other d) := by
  intro st e st' x h hx
  unfold under at h
  by_cases hm : isM l st m = true
  · rw [if_pos hm] at h
    cases hpp : deeper l part d st with
    | none => rw [hpp] at h; cases h
    | some r =>
      obtain ⟨r, st1⟩ := r
      rw [hpp] at h
      cases h
      exact deeper_keeps d hp st r _ x (isM_kind hm) hpp hx
  · rw [if_neg hm] at h
    exact ho st e st' x h hx
theorem behind_keeps {part : St → Out} (hp : Keeps part) : Keeps (behind part) := by
  intro st e st' x h hx
  unfold behind at h
  by_cases hk : st.kind = 3 ∨ st.kind = 4
  · rw [if_pos hk] at h
    have he := eff_of hx (by omega)
    rw [failD_err he] at h
    exact hp st e st' x h hx
  · rw [if_neg hk] at h
    exact hp st e st' x h hx
theorem bracket_keeps {part : Nat → St → Out} (d : Nat) (hp : d ≠ 12 → Keeps (part (d + 1))) : Keeps6 (bracket l part d) := by
  intro st e st' x hk h hx
  unfold bracket at h
  cases hpp : deeper l part d st with
  | none => rw [hpp] at h; cases h
  | some r =>
    obtain ⟨r, st1⟩ := r
    rw [hpp] at h
    simp only [] at h
    have h1 := deeper_keeps d hp st r st1 x hk hpp hx
    by_cases hm : isM l st1 [41] = true
    · rw [if_pos hm] at h
      have he := eff_of h1 (by rw [isM_kind hm]; decide)
      rw [nextD_err he] at h
      cases h; exact h1
    · rw [if_neg hm] at h
      cases he : st1.err with
      | some y =>
        rw [failD_err he, nextD_err he] at h
        cases h; exact h1
      | none =>
        have hf : fail 111 st1 = ⟨0, st1.frm, st1.till, some (111, st1.frm)⟩ := by unfold fail; rw [he]; rfl
        rw [hf, nextD_err rfl] at h
        cases h
        unfold eff at h1 ⊢
        rw [he] at h1
        by_cases hk0 : st1.kind = 0
        · simp [hk0] at h1 ⊢; exact h1
        · simp [hk0] at h1
theorem single_keeps {br : St → Out} (hb : Keeps6 br) : Keeps (single l br) := by
  intro st e st' x h hx
  unfold single at h
  by_cases hm : isM l st [40] = true
  · rw [if_pos hm] at h; exact hb st e st' x (isM_kind hm) h hx
  rw [if_neg hm] at h
  by_cases h2 : st.kind = 2
  · rw [if_pos h2] at h
    have he := eff_of hx (by rw [h2]; decide)
    split at h
    · rw [nextD_err he] at h; cases h; exact hx
    · cases h
  rw [if_neg h2] at h
  by_cases h3 : st.kind = 3
  · rw [if_pos h3] at h
    have he := eff_of hx (by rw [h3]; decide)
    split at h
    · rw [nextD_err he] at h; cases h; exact hx
    · cases h
  rw [if_neg h3] at h
  by_cases h4 : st.kind = 4
  · rw [if_pos h4] at h
    have he := eff_of hx (by rw [h4]; decide)
    rw [nextD_err he] at h; cases h; exact hx
  rw [if_neg h4] at h
  by_cases h5 : st.kind = 5
  · rw [if_pos h5] at h
    have he := eff_of hx (by rw [h5]; decide)
    rw [nextD_err he] at h; cases h; exact hx
  rw [if_neg h5] at h
  cases he : st.err with
  | some y =>
    rw [failD_err he, nextD_err he] at h
    cases h; exact hx
  | none =>
    have hf : fail 111 st = ⟨0, st.frm, st.till, some (111, st.frm)⟩ := by unfold fail; rw [he]; rfl
    rw [hf, nextD_err rfl] at h
    cases h
    unfold eff at hx ⊢
    rw [he] at hx
    by_cases hk0 : st.kind = 0
    · simp [hk0] at hx ⊢; exact hx
    · simp [hk0] at hx
theorem parts_keeps : ∀ f which d, which ≤ 8 → Keeps (parts l f which d) ∧ Keeps6 (parts l f 9 d)
  | 0, _, _, _ => ⟨fun _ _ _ _ h => (by cases h), fun _ _ _ _ _ h => (by cases h)⟩
  | f + 1, which, d, hw => by
    have ih := parts_keeps f
    refine ⟨?_, bracket_keeps d fun _ => (ih 0 (d + 1) (by decide)).1⟩
    have e : which = 0 ∨ which = 1 ∨ which = 2 ∨ which = 3 ∨ which = 4 ∨ which = 5 ∨ which = 6 ∨ which = 7 ∨ which = 8 := by omega
    rcases e with rfl | rfl | rfl | rfl | rfl | rfl | rfl | rfl | rfl
    · exact rowAll_keeps (ih 1 d (by decide)).1 3 3
    · exact rowAll_keeps (ih 2 d (by decide)).1 4 4
    · exact under_keeps [110, 111, 116] 5 d (fun _ => (ih 2 (d + 1) (by decide)).1) (ih 3 d (by decide)).1
    · exact compared_keeps (ih 4 d (by decide)).1
    · exact rowAll_keeps (ih 5 d (by decide)).1 12 13
    · exact rowAll_keeps (ih 6 d (by decide)).1 14 16
    · exact under_keeps [45] 17 d (fun _ => (ih 7 (d + 1) (by decide)).1) (ih 8 d (by decide)).1
    · exact behind_keeps (ih 6 d (by decide)).1
    · exact single_keeps (ih 0 d (by decide)).2
end
end Co
end Go.Proofs.YtddedbpbenkdoaaGreatDoor
namespace Go.Proofs.YtddedbpbenkdoaaGreatDoor
open Go.RowKit

namespace Pr
section
variable {p : P} {o : Nat → Nat} {I : Nat → Prop} {k : Nat} {f : Nd → Nd}
theorem set_n : (p.set k f).n = p.n := by simp [P.set, P.n]
theorem set_at (hk : k < p.n) : (p.set k f).nodes[k]! = f (p.nodes[k]!) := by
  have hk' : k < p.nodes.length := hk
  simp [P.set, hk']
theorem set_other {i : Nat} (h : i ≠ k) : (p.set k f).nodes[i]! = p.nodes[i]! := by
  simp [P.set, List.getElem!_eq_getElem?_getD, Ne.symm h]
theorem Inv.set (h : Inv p o I) (hk : k < p.n) (hkd : (f (p.nodes[k]!)).kind = (p.nodes[k]!).kind) (hf : FieldOk (f (p.nodes[k]!))) (v : Nat) (hout : OutOk (p.set k f) k v) :
    Inv (p.set k f) (fun i => if i = k then v else o i) I := by
  have hkind : ∀ i : Nat, ((p.set k f).nodes[i]!).kind = (p.nodes[i]!).kind := by
    intro i
    by_cases he : i = k
    · subst he; rw [set_at hk]; exact hkd
    · rw [set_other he]
  refine ⟨by rw [set_n]; exact h.pos, ?_, ?_, ?_, ?_, ?_⟩
  · intro i hi; rw [set_n] at hi; rw [hkind]; exact h.start i hi
  · intro g hg
    obtain ⟨⟨a, b, h1, h2, h3, h4, h5⟩, h6⟩ := h.flow g hg
    exact ⟨⟨a, b, h1, h2, by rw [set_n]; exact h3, by rw [set_n]; exact h4, h5⟩, by rw [hkind]; exact h6⟩
  · intro i hi
    rw [set_n] at hi
    by_cases he : i = k
    · subst he; rw [set_at hk]; exact hf
    · rw [set_other he]; exact h.field i hi
  · intro i h0 hi hn; rw [set_n] at hi; exact h.ins i h0 hi hn
  · intro i hi
    rw [set_n] at hi
    by_cases he : i = k
    · subst he; rw [if_pos rfl]; exact hout
    · rw [if_neg he]
      have h1 := h.outs i hi
      refine ⟨?_, ?_, ?_, ?_, ?_, ?_, ?_⟩ <;> rw [set_other he]
      · exact h1.start
      · exact h1.fin
      · exact h1.wk0
      · exact h1.wk1
      · exact h1.gate
      · exact h1.dflt
      · exact h1.tgt
theorem Inv.dflt (h : Inv p o I) {j : Nat} (hk : k < p.n) (hg : (p.nodes[k]!).kind = 5 ∨ (p.nodes[k]!).kind = 7) (hj : j < p.m) (hfr : (p.flows[j]!).frm = (k : Int)) :
    Inv (p.set k fun x => { x with dflt := j }) o I := by
  have hfk := h.field k hk
  have hok := h.outs k hk
  have := h.set (k := k) (f := fun x => { x with dflt := j }) hk rfl ⟨hfk.kind, hfk.wk, hfk.nowk, hfk.code, hfk.caught⟩ (o k) (by
    refine ⟨?_, ?_, ?_, ?_, ?_, ?_, ?_⟩ <;> rw [set_at hk]
    · exact hok.start
    · exact hok.fin
    · exact hok.wk0
    · exact hok.wk1
    · exact hok.gate
    · exact .inr ⟨hg, j, hj, rfl, hfr⟩
    · exact hok.tgt)
  exact this.mono (fun i _ => by by_cases he : i = k <;> simp [he]) (fun _ _ h => h)
def txC : ByteArray := bs [99, 97, 117, 103, 104, 116]
theorem txC_ne : txC ≠ no := by decide
theorem Inv.caught (h : Inv p o I) {e : Nat} (hk : k < p.n) (hkd : (p.nodes[k]!).kind = 4) (hc : (p.nodes[k]!).caught = no) (ho : o k = 1) (he : e < p.n) (he0 : 0 < e) :
    Inv ((p.join k e no).set k fun x => { x with caught := txC, tgt := p.m }) o (fun i => I i ∧ i ≠ e) := by
  have hcO := (h.outs k hk).wk0 hkd hc
  have h1 := h.join (a := k) (b := e) no hk he he0 (.inr (.inr (.inr ⟨by rw [hkd]; decide, by omega⟩))) (.inl rfl)
  have hfk := h.field k hk
  have hok := h.outs k hk
  have hkJ : k < (p.join k e no).n := hk
  have hnd : (p.join k e no).nodes[k]! = p.nodes[k]! := rfl
  have := h1.set (k := k) (f := fun x => { x with caught := txC, tgt := p.m }) hkJ rfl (by rw [hnd]; exact ⟨hfk.kind, hfk.wk, hfk.nowk, hfk.code, .inr ⟨hkd, rfl⟩⟩) 1 (by
    have hcn : cO ((p.join k e no).set k fun x => { x with caught := txC, tgt := p.m }) k = 1 := by
      show cO (p.join k e no) k = 1
      rw [join_cO, if_pos rfl]; omega
    refine ⟨?_, ?_, ?_, ?_, ?_, ?_, ?_⟩ <;> rw [set_at hkJ, hnd]
    · intro hh; have hh : (p.nodes[k]!).kind = 1 := hh; omega
    · intro hh; have hh : (p.nodes[k]!).kind = 2 := hh; omega
    · intro _ hh; exact absurd hh txC_ne
    · intro _ _; exact ⟨by rw [hcn], p.m, by show p.m < (p.join k e no).m; rw [join_m]; omega, rfl, by show ((p.join k e no).flows[p.m]!).frm = _; rw [join_new]⟩
    · intro hh; have hh : (p.nodes[k]!).kind = 5 ∨ (p.nodes[k]!).kind = 6 ∨ (p.nodes[k]!).kind = 7 := hh; omega
    · rcases hok.dflt with h2 | ⟨h2, _⟩
      · exact .inl h2
      · omega
    · intro hh; exact absurd hh txC_ne)
  exact this.mono (fun i _ => by by_cases he : i = k <;> simp [he, ho]) (fun _ _ h => h)
end
/-- All is as it may be but that the last one owes a flow. -/
structure St (p : P) (at_ : Nat) : Prop where
  inv : Inv p (fun i => if i = at_ then 1 else 0) (fun _ => False)
  lt : at_ < p.n
  kind : (p.nodes[at_]!).kind ≠ 2
theorem nm_topic (m : Int) : nm (bs (topics m)) = true := by
  unfold topics
  have h : (nmb m 3).toNat < 3 := by unfold nmb; omega
  have : ∀ k, k < 3 → nm (bs topicL[k]!) = true := by decide +kernel
  exact this _ h
theorem field_work {t : ByteArray} {pr r : Int} (ht : nm t = true) (hp : within pr 0 9 = true) (hr : within r 1 9 = true) : FieldOk (Nd.work t pr r) :=
  ⟨.inr (.inr (.inl rfl)), fun _ => ⟨ht, hp, hr⟩, fun h => absurd rfl h, rfl, .inl rfl⟩
theorem field_plain {k : Int} (h : k = 2 ∨ k = 5 ∨ k = 6 ∨ k = 7) : FieldOk (Nd.plain k) :=
  ⟨by show k = 1 ∨ k = 2 ∨ k = 4 ∨ k = 5 ∨ k = 6 ∨ k = 7; omega, fun hh => by have hh : k = 4 := hh; omega, fun _ => ⟨rfl, rfl, rfl⟩, rfl, .inl rfl⟩
theorem nmb_within (x : Int) : within (nmb x 10) 0 9 = true := by
  unfold within nmb
  rw [Bool.and_eq_true, decide_eq_true_eq, decide_eq_true_eq]
  omega
theorem nmb_retr (x : Int) : within (1 + nmb x 3) 1 9 = true := by
  unfold within nmb
  rw [Bool.and_eq_true, decide_eq_true_eq, decide_eq_true_eq]
  omega
section
variable {p : P} {at_ : Nat}
/-- A fresh node behind the last one. -/
theorem St.next (h : St p at_) (x : Nd) (hx : FieldOk x) (h1 : x.kind ≠ 1) (h2 : x.kind ≠ 2) (hc : x.caught = no) : St ((p.node x).join at_ p.n no) p.n := by
  have hp := h.inv.pos
  have hl := h.lt
  have i1 := h.inv.node x hx h1 hc
  have hold : (p.node x).nodes[at_]! = p.nodes[at_]! := node_old x hl
  have i2 := i1.join (a := at_) (b := p.n) no (by rw [node_n]; omega) (by rw [node_n]; omega) hp (.inr (.inr (.inr ⟨by rw [hold]; exact h.kind, by show 0 < (if at_ = p.n then need x else if at_ = at_ then 1 else 0); rw [if_neg (Nat.ne_of_lt hl), if_pos rfl]; decide⟩))) (.inl rfl)
  refine ⟨i2.mono ?_ ?_, by show p.n < (p.node x).n; rw [node_n]; omega, ?_⟩
  · intro i _
    by_cases h3 : i = at_
    · subst h3; simp [Nat.ne_of_lt hl]
    · by_cases h4 : i = p.n
      · subst h4; simp [h3, need, h2]
      · simp [h3, h4]
  · rintro i _ ⟨h3 | h3, h4⟩
    · exact h4 h3
    · exact h3
  · show ((p.node x).nodes[p.n]!).kind ≠ 2
    rw [node_new]
    exact h2
end
end Pr
end Go.Proofs.YtddedbpbenkdoaaGreatDoor
namespace Go.Proofs.YtddedbpbenkdoaaGreatDoor
open Go.RowKit

namespace Pr
/-- From p to q: nodes that were there keep their Kind; few more of nodes, of flows. -/
structure Up (p q : P) (k : Nat) : Prop where
  n0 : p.n ≤ q.n
  n1 : q.n ≤ p.n + k
  m : q.m + 2 * p.n ≤ p.m + 2 * q.n
  name : q.name = p.name
section
variable {p : P} {at_ : Nat}
theorem join_n {a b : Int} {c : ByteArray} : (p.join a b c).n = p.n := rfl
theorem node_m {x : Nd} : (p.node x).m = p.m := rfl
theorem set_m {k : Nat} {f : Nd → Nd} : (p.set k f).m = p.m := rfl
theorem set_join_set (k : Nat) (f g : Nd → Nd) (a b : Int) (c : ByteArray) : ((p.set k f).join a b c).set k g = (p.join a b c).set k (g ∘ f) := by
  unfold P.set P.join
  simp only [List.modify_modify_eq]
theorem work_st (h : St p at_) (m : Int) : St (work p at_ m).1 (work p at_ m).2 ∧ Up p (work p at_ m).1 2 := by
  have hl := h.lt
  have hW : FieldOk (Nd.work (bs (topics m)) (nmb (m.tdiv 3) 10) (1 + nmb (m.tdiv 7) 3)) := field_work (nm_topic m) (nmb_within _) (nmb_retr _)
  have s1 := h.next _ hW (by show (4 : Int) ≠ 1; decide) (by show (4 : Int) ≠ 2; decide) rfl
  unfold work
  by_cases hm : nmb (m.tdiv 5) 4 = 0
  · simp only [hm, if_true]
    rw [set_join_set]
    generalize hp1 : (p.node (Nd.work (bs (topics m)) (nmb (m.tdiv 3) 10) (1 + nmb (m.tdiv 7) 3))).join at_ p.n no = p1 at *
    have n1 : p1.n = p.n + 1 := by rw [← hp1, join_n, node_n]
    have m1 : p1.m = p.m + 1 := by rw [← hp1, join_m, node_m]
    have hk : p1.nodes[p.n]! = { (Nd.work (bs (topics m)) (nmb (m.tdiv 3) 10) (1 + nmb (m.tdiv 7) 3)) with dflt := -1, tgt := -1 } := by rw [← hp1]; exact node_new _
    have i2 := s1.inv.node (Nd.plain 2) (field_plain (.inl rfl)) (by show (2 : Int) ≠ 1; decide) rfl
    have hk2 : (p1.node (Nd.plain 2)).nodes[p.n]! = p1.nodes[p.n]! := node_old _ (by omega)
    have i3 := i2.caught (k := p.n) (e := p1.n) (by rw [node_n]; omega) (by rw [hk2, hk]; rfl) (by rw [hk2, hk]; rfl) (by simp; omega) (by rw [node_n]; omega) (by omega)
    have hkd : (((p1.node (Nd.plain 2)).join p.n p1.n no).set p.n ((fun x => { x with tgt := (p1.node (Nd.plain 2)).m }) ∘ fun x => { x with caught := txC })).nodes[p.n]!.kind = 4 := by
      rw [set_at (by rw [join_n, node_n]; omega)]
      show ((p1.node (Nd.plain 2)).nodes[p.n]!).kind = 4
      rw [hk2, hk]; rfl
    refine ⟨⟨i3.mono ?_ ?_, ?_, ?_⟩, ?_⟩
    · intro i _
      by_cases he : i = p1.n
      · subst he; simp [need, Nd.plain, n1]
      · simp [he]
    · rintro i _ ⟨h3 | h3, h4⟩
      · exact h4 h3
      · exact h3
    · rw [set_n, join_n, node_n]; omega
    · intro hh
      have : (4 : Int) = 2 := hkd.symm.trans hh
      omega
    · refine ⟨?_, ?_, ?_, ?_⟩
      · rw [set_n, join_n, node_n]; omega
      · rw [set_n, join_n, node_n]; omega
      · rw [set_n, set_m, join_n, node_n, join_m, node_m]; omega
      · rw [← hp1]; rfl
  · simp only [hm, if_false]
    exact ⟨s1, by rw [join_n, node_n]; omega, by rw [join_n, node_n]; omega, by rw [join_n, node_n, join_m, node_m]; omega, rfl⟩
/-- A gateway's ways under way. -/
structure Wy (p : P) (a b : Nat) (open_ : Int) (oa : Nat) (I : Nat → Prop) : Prop where
  inv : Inv p (fun i => if i = a then oa else if i = b then 1 else 0) I
  inb : ∀ i, I i → i = b
  la : a < p.n
  lb : b < p.n
  b0 : 0 < b
  ne : a ≠ b
  ka : (p.nodes[a]!).kind = open_
  kb : (p.nodes[b]!).kind ≠ 2
theorem Wy.way {a b : Nat} {open_ : Int} {oa : Nat} {I : Nat → Prop} (h : Wy p a b open_ oa I) (ho : open_ = 5 ∨ open_ = 6 ∨ open_ = 7) (m : Int) (j : Nat) (hj : j ≤ 9) :
    Wy (way a b m open_ j p) a b open_ (oa - 1) (fun _ => False) ∧ p.n ≤ (way a b m open_ j p).n ∧ (way a b m open_ j p).n ≤ p.n + 1 ∧ (way a b m open_ j p).m + p.n ≤ p.m + (way a b m open_ j p).n + 1 ∧ (way a b m open_ j p).name = p.name := by
  have hla := h.la
  have hlb := h.lb
  have hne := h.ne
  have hka : (p.nodes[a]!).kind = 5 ∨ (p.nodes[a]!).kind = 6 ∨ (p.nodes[a]!).kind = 7 := by rw [h.ka]; exact ho
  have hc : ∀ c, c = (if open_ = 6 then no else bs (conds (wrap64 (m.tdiv 3 + j)))) → c = no ∨ (open_ ≠ 6 ∧ ∃ k : Int, c = bs (conds k)) := by
    rintro c rfl
    by_cases h6 : open_ = 6
    · rw [if_pos h6]; exact .inl rfl
    · rw [if_neg h6]; exact .inr ⟨h6, _, rfl⟩
  -- the last step: a way, and perhaps the one that is taken as a rule
  have last : ∀ (q : P) (t : Nat) (I' : Nat → Prop), Inv q (fun i => if i = a then oa else if i = b then 1 else 0) I' → (∀ i, i < q.n → I' i → i = t) → p.n ≤ q.n → t < q.n → 0 < t → q.nodes[a]! = p.nodes[a]! → q.nodes[b]! = p.nodes[b]! → q.name = p.name →
      ∀ c, (c = no ∨ (open_ ≠ 6 ∧ ∃ k : Int, c = bs (conds k))) → ∀ (d : Prop) [Decidable d], (d → open_ ≠ 6) →
      Wy (if d then (q.join a t c).set a (fun x => { x with dflt := q.m }) else q.join a t c) a b open_ (oa - 1) (fun _ => False) ∧
        (if d then (q.join a t c).set a (fun x => { x with dflt := q.m }) else q.join a t c).n = q.n ∧ (if d then (q.join a t c).set a (fun x => { x with dflt := q.m }) else q.join a t c).m = q.m + 1 ∧
        (if d then (q.join a t c).set a (fun x => { x with dflt := q.m }) else q.join a t c).name = p.name := by
    intro q t I' hi hI hn ht h0 ha hb hnm c hcc d _ hd
    have hcc' : c = no ∨ (((q.nodes[a]!).kind = 5 ∨ (q.nodes[a]!).kind = 7) ∧ ∃ k : Int, c = bs (conds k)) := by
      rcases hcc with h1 | ⟨h1, h2⟩
      · exact .inl h1
      · exact .inr ⟨by rw [ha, h.ka]; omega, h2⟩
    have i3 := hi.join (a := a) (b := t) c (by omega) ht h0 (by rw [ha]; rcases hka with h1 | h1 | h1; exact .inl h1; exact .inr (.inl h1); exact .inr (.inr (.inl h1))) hcc'
    have i4 : Inv (q.join a t c) (fun i => if i = a then oa - 1 else if i = b then 1 else 0) (fun _ => False) := i3.mono (fun i _ => by by_cases he : i = a <;> simp [he]) (fun i hi' hh => hh.2 (hI i hi' hh.1))
    have hkJ : ((q.join a t c).nodes[a]!).kind = open_ := by show (q.nodes[a]!).kind = open_; rw [ha]; exact h.ka
    have hbJ : ((q.join a t c).nodes[b]!) = p.nodes[b]! := hb
    by_cases hdd : d
    · simp only [hdd, if_true]
      have i5 := i4.dflt (k := a) (j := q.m) (by rw [join_n]; omega) (by rw [hkJ]; have := hd hdd; omega) (by rw [join_m]; omega) (by rw [join_new])
      refine ⟨⟨i5, fun _ hh => hh.elim, by rw [set_n, join_n]; omega, by rw [set_n, join_n]; omega, h.b0, hne, ?_, ?_⟩, by rw [set_n, join_n], by rw [set_m, join_m], hnm⟩
      · rw [set_at (by rw [join_n]; omega)]; exact hkJ
      · rw [set_other (Ne.symm hne), hbJ]; exact h.kb
    · simp only [hdd, if_false]
      exact ⟨⟨i4, fun _ hh => hh.elim, by rw [join_n]; omega, by rw [join_n]; omega, h.b0, hne, hkJ, by rw [hbJ]; exact h.kb⟩, by rw [join_n], by rw [join_m], hnm⟩
  unfold Pr.way
  have hcc := hc _ rfl
  generalize (if open_ = 6 then no else bs (conds (wrap64 (m.tdiv 3 + j)))) = c at *
  by_cases hm : nmb (m / 2 ^ j) 2 = 0
  · simp only [hm, if_true]
    have hW : FieldOk (Nd.work (bs (topics (wrap64 (m + j)))) j 2) := field_work (nm_topic _) (by unfold within; rw [Bool.and_eq_true, decide_eq_true_eq, decide_eq_true_eq]; omega) rfl
    have i1 := h.inv.node _ hW (by show (4 : Int) ≠ 1; decide) rfl
    have hnw : (p.node (Nd.work (bs (topics (wrap64 (m + j)))) j 2)).nodes[p.n]! = { Nd.work (bs (topics (wrap64 (m + j)))) j 2 with dflt := -1, tgt := -1 } := node_new _
    have i2 := i1.join (a := p.n) (b := b) no (by rw [node_n]; omega) (by rw [node_n]; omega) h.b0 (.inr (.inr (.inr ⟨by rw [hnw]; show (4 : Int) ≠ 2; decide, by show 0 < (if p.n = p.n then need _ else _); rw [if_pos rfl]; unfold need; rw [if_neg (by show ¬ (4 : Int) = 2; decide)]; decide⟩))) (.inl rfl)
    have hoa : (p.node (Nd.work (bs (topics (wrap64 (m + j)))) j 2)).nodes[a]! = p.nodes[a]! := node_old _ hla
    have hob : (p.node (Nd.work (bs (topics (wrap64 (m + j)))) j 2)).nodes[b]! = p.nodes[b]! := node_old _ hlb
    obtain ⟨k1, k2, k3, k4⟩ := last _ p.n (fun i => (i = p.n ∨ I i) ∧ i ≠ b) (i2.mono (fun i _ => by
        by_cases he : i = p.n
        · subst he; have e1 : p.n ≠ a := by omega
          have e2 : p.n ≠ b := by omega
          simp [e1, e2, need, Nd.work]
        · simp [he]) (fun _ _ hh => hh)) (fun i _ hh => by
        rcases hh with ⟨hh | hh, h4⟩
        · exact hh
        · exact absurd (h.inb i hh) h4) (by rw [join_n, node_n]; omega) (by rw [join_n, node_n]; omega) (by omega) hoa hob rfl c hcc (open_ ≠ 6 ∧ j = 0 ∧ 0 < nmb (m.tdiv 11) 4) (fun hh => hh.1)
    refine ⟨k1, by rw [k2, join_n, node_n]; omega, by rw [k2, join_n, node_n]; omega, by rw [k2, k3, join_n, node_n, join_m, node_m]; omega, k4⟩
  · simp only [hm, if_false]
    obtain ⟨k1, k2, k3, k4⟩ := last p b I h.inv (fun i _ hh => h.inb i hh) (Nat.le_refl _) hlb h.b0 rfl rfl rfl c hcc (open_ ≠ 6 ∧ j = 0 ∧ 0 < nmb (m.tdiv 11) 4) (fun hh => hh.1)
    exact ⟨k1, by rw [k2]; omega, by rw [k2]; omega, by rw [k2, k3]; omega, k4⟩
end
end Pr
end Go.Proofs.YtddedbpbenkdoaaGreatDoor
namespace Go.Proofs.YtddedbpbenkdoaaGreatDoor
open Go.RowKit

namespace Pr
section
variable {p : P} {at_ : Nat}
theorem ways_st {a b : Nat} {open_ : Int} {oa : Nat} {I : Nat → Prop} (h : Wy p a b open_ oa I) (ho : open_ = 5 ∨ open_ = 6 ∨ open_ = 7) (m : Int) : ∀ j, 0 < j → j ≤ 9 →
    Wy (ways a b m open_ j p) a b open_ (oa - j) (fun _ => False) ∧ p.n ≤ (ways a b m open_ j p).n ∧ (ways a b m open_ j p).n ≤ p.n + j ∧ (ways a b m open_ j p).m + p.n ≤ p.m + (ways a b m open_ j p).n + j ∧ (ways a b m open_ j p).name = p.name
  | 0, h0, _ => absurd h0 (Nat.lt_irrefl 0)
  | 1, _, _ => by
    obtain ⟨k1, k2, k3, k4, k5⟩ := h.way ho m 0 (by decide)
    exact ⟨k1, k2, k3, k4, k5⟩
  | j + 2, _, h9 => by
    obtain ⟨k1, k2, k3, k4, k5⟩ := ways_st h ho m (j + 1) (by omega) (by omega)
    obtain ⟨l1, l2, l3, l4, l5⟩ := k1.way ho m (j + 1) (by omega)
    have hw : ways a b m open_ (j + 2) p = way a b m open_ (j + 1) (ways a b m open_ (j + 1) p) := rfl
    rw [hw]
    clear hw
    generalize ways a b m open_ (j + 1) p = q at *
    refine ⟨?_, ?_, ?_, ?_, ?_⟩
    · rwa [show oa - (j + 2) = oa - (j + 1) - 1 from by omega]
    · omega
    · omega
    · omega
    · exact l5.trans k5
theorem parts_st (h : St p at_) (m open_ shut : Int) (ho : open_ = 5 ∨ open_ = 6 ∨ open_ = 7) (hs : shut = 5 ∨ shut = 6 ∨ shut = 7) : St (parts p at_ m open_ shut).1 (parts p at_ m open_ shut).2 ∧ Up p (parts p at_ m open_ shut).1 5 := by
  have hl := h.lt
  have s1 := h.next (Nd.plain open_) (field_plain (by omega)) (by show open_ ≠ 1; omega) (by show open_ ≠ 2; omega) rfl
  unfold parts
  have hka : (((p.node (Nd.plain open_)).join at_ p.n no).nodes[p.n]!).kind = open_ := by
    show ((p.node (Nd.plain open_)).nodes[p.n]!).kind = open_
    rw [node_new]; rfl
  have n1 : ((p.node (Nd.plain open_)).join at_ p.n no).n = p.n + 1 := by rw [join_n, node_n]
  have m1 : ((p.node (Nd.plain open_)).join at_ p.n no).m = p.m + 1 := by rw [join_m, node_m]
  have nm1 : ((p.node (Nd.plain open_)).join at_ p.n no).name = p.name := rfl
  simp only []
  generalize (p.node (Nd.plain open_)).join at_ p.n no = p1 at *
  have i2 := s1.inv.node (Nd.plain shut) (field_plain (by omega)) (by show shut ≠ 1; omega) rfl
  have hw : Wy (p1.node (Nd.plain shut)) p.n (p.n + 1) open_ 1 (fun i => i = p1.n ∨ False) := by
    refine ⟨i2.mono ?_ (fun _ _ h => h), ?_, by rw [node_n]; omega, by rw [node_n]; omega, by omega, by omega, ?_, ?_⟩
    · intro i _
      have hnd : need (Nd.plain shut) = 1 := by unfold need; rw [if_neg (by show ¬ shut = 2; omega)]
      by_cases he : i = p.n + 1
      · subst he; simp [n1, hnd]
      · simp [he, n1]
    · intro i hi; rcases hi with hi | hi
      · omega
      · exact hi.elim
    · rw [node_old _ (by omega)]; exact hka
    · rw [← n1, node_new]; show shut ≠ 2; omega
  have hn : 2 ≤ (2 + nmb m 2).toNat ∧ (2 + nmb m 2).toNat ≤ 3 := by unfold nmb; omega
  obtain ⟨k1, k2, k3, k4, k5⟩ := ways_st hw ho m (2 + nmb m 2).toNat (by omega) (by omega)
  rw [node_n, node_m] at k4
  rw [node_n] at k2 k3
  generalize ways p.n (p.n + 1) m open_ (2 + nmb m 2).toNat (p1.node (Nd.plain shut)) = q at *
  refine ⟨⟨k1.inv.mono ?_ (fun _ _ h => h), k1.lb, k1.kb⟩, by omega, by omega, by omega, k5.trans nm1⟩
  intro i _
  by_cases he : i = p.n
  · subst he; simp; omega
  · simp [he]
theorem loop_st (h : St p at_) (m : Int) : St (loop p at_ m).1 (loop p at_ m).2 ∧ Up p (loop p at_ m).1 3 := by
  have hl := h.lt
  have s1 := h.next (Nd.plain 5) (field_plain (.inr (.inl rfl))) (by show (5 : Int) ≠ 1; decide) (by show (5 : Int) ≠ 2; decide) rfl
  unfold loop
  have hka : (((p.node (Nd.plain 5)).join at_ p.n no).nodes[p.n]!).kind = 5 := by
    show ((p.node (Nd.plain 5)).nodes[p.n]!).kind = 5
    rw [node_new]; rfl
  have n1 : ((p.node (Nd.plain 5)).join at_ p.n no).n = p.n + 1 := by rw [join_n, node_n]
  have m1 : ((p.node (Nd.plain 5)).join at_ p.n no).m = p.m + 1 := by rw [join_m, node_m]
  have nm1 : ((p.node (Nd.plain 5)).join at_ p.n no).name = p.name := rfl
  simp only []
  generalize (p.node (Nd.plain 5)).join at_ p.n no = p1 at *
  have hW : FieldOk (Nd.work (bs (topics m)) 0 1) := field_work (nm_topic m) rfl rfl
  have i2 := s1.inv.node _ hW (by show (4 : Int) ≠ 1; decide) rfl
  have w2 : (p1.node (Nd.work (bs (topics m)) 0 1)).nodes[p.n + 1]! = { Nd.work (bs (topics m)) 0 1 with dflt := -1, tgt := -1 } := by rw [← n1]; exact node_new _
  have a2 : ((p1.node (Nd.work (bs (topics m)) 0 1)).nodes[p.n]!).kind = 5 := by rw [node_old _ (by omega)]; exact hka
  have n2 : (p1.node (Nd.work (bs (topics m)) 0 1)).n = p.n + 2 := by rw [node_n]; omega
  have m2 : (p1.node (Nd.work (bs (topics m)) 0 1)).m = p.m + 1 := by rw [node_m]; exact m1
  have nm2 : (p1.node (Nd.work (bs (topics m)) 0 1)).name = p.name := nm1
  have hnW : need (Nd.work (bs (topics m)) 0 1) = 1 := by unfold need; rw [if_neg (by show ¬ (4 : Int) = 2; decide)]
  rw [hnW] at i2
  generalize p1.node (Nd.work (bs (topics m)) 0 1) = p2 at *
  have i3 := i2.node (Nd.plain 5) (field_plain (.inr (.inl rfl))) (by show (5 : Int) ≠ 1; decide) rfl
  have w3 : ((p2.node (Nd.plain 5)).nodes[p.n + 1]!).kind = 4 := by rw [node_old _ (by omega), w2]; rfl
  have a3 : ((p2.node (Nd.plain 5)).nodes[p.n]!).kind = 5 := by rw [node_old _ (by omega)]; exact a2
  have b3 : ((p2.node (Nd.plain 5)).nodes[p.n + 2]!).kind = 5 := by rw [← n2, node_new]; rfl
  have n3 : (p2.node (Nd.plain 5)).n = p.n + 3 := by rw [node_n]; omega
  have m3 : (p2.node (Nd.plain 5)).m = p.m + 1 := by rw [node_m]; exact m2
  have nm3 : (p2.node (Nd.plain 5)).name = p.name := nm2
  have hn5 : need (Nd.plain 5) = 1 := by unfold need; rw [if_neg (by show ¬ (5 : Int) = 2; decide)]
  rw [hn5, n1, n2] at i3
  generalize p2.node (Nd.plain 5) = p3 at *
  have i4 := i3.join (a := p.n) (b := p.n + 1) (bs (conds (wrap64 (3 + m)))) (by omega) (by omega) (by omega) (.inl a3) (.inr ⟨.inl a3, _, rfl⟩)
  have i5 := i4.join (a := p.n + 1) (b := p.n) no (by rw [join_n]; omega) (by rw [join_n]; omega) (by omega) (.inr (.inr (.inr ⟨by show (p3.nodes[p.n + 1]!).kind ≠ 2; rw [w3]; decide, by simp⟩))) (.inl rfl)
  have a5 : ((((p3.join p.n (p.n + 1 : Nat) (bs (conds (wrap64 (3 + m))))).join (p.n + 1 : Nat) p.n no).nodes[p.n]!).kind) = 5 := a3
  have b5 : ((((p3.join p.n (p.n + 1 : Nat) (bs (conds (wrap64 (3 + m))))).join (p.n + 1 : Nat) p.n no).nodes[p.n + 2]!).kind) = 5 := b3
  have n5 : ((p3.join p.n (p.n + 1 : Nat) (bs (conds (wrap64 (3 + m))))).join (p.n + 1 : Nat) p.n no).n = p.n + 3 := n3
  have m5 : ((p3.join p.n (p.n + 1 : Nat) (bs (conds (wrap64 (3 + m))))).join (p.n + 1 : Nat) p.n no).m = p.m + 3 := by rw [join_m, join_m]; omega
  have nm5 : ((p3.join p.n (p.n + 1 : Nat) (bs (conds (wrap64 (3 + m))))).join (p.n + 1 : Nat) p.n no).name = p.name := nm3
  generalize (p3.join p.n (p.n + 1 : Nat) (bs (conds (wrap64 (3 + m))))).join (p.n + 1 : Nat) p.n no = p5 at *
  have i6 := i5.join (a := p.n) (b := p.n + 2) no (by omega) (by omega) (by omega) (.inl a5) (.inl rfl)
  have i7 := i6.dflt (k := p.n) (j := p5.m) (by rw [join_n]; omega) (.inl a5) (by rw [join_m]; omega) (by rw [join_new])
  refine ⟨⟨i7.mono ?_ ?_, ?_, ?_⟩, ?_, ?_, ?_, nm5⟩
  · intro i _
    by_cases h1 : i = p.n
    · subst h1; simp
    · by_cases h2 : i = p.n + 1
      · subst h2; simp
      · by_cases h3 : i = p.n + 2
        · subst h3; simp
        · simp [h1, h2, h3]
  · rintro i _ ⟨⟨⟨h1 | h1 | h1, h2⟩, h3⟩, h4⟩
    · exact h4 h1
    · exact h2 h1
    · exact h1
  · rw [set_n, join_n]; omega
  · rw [set_other (by omega)]
    show (p5.nodes[p.n + 2]!).kind ≠ 2
    rw [b5]; decide
  · rw [set_n, join_n]; omega
  · rw [set_n, join_n]; omega
  · rw [set_n, set_m, join_n, join_m]; omega
theorem piece_st (h : St p at_) (rings : Bool) (kd m : Int) : St (piece rings kd m p at_).1 (piece rings kd m p at_).2 ∧ Up p (piece rings kd m p at_).1 5 := by
  have hw : ∀ {q : P} {k : Nat}, Up p q k → k ≤ 5 → Up p q 5 := fun h hk => ⟨h.n0, Nat.le_trans h.n1 (by omega), h.m, h.name⟩
  unfold piece
  simp only []
  split
  · exact ⟨(work_st h m).1, hw (work_st h m).2 (by decide)⟩
  split
  · exact parts_st h m 5 5 (by decide) (by decide)
  split
  · exact parts_st h m 6 6 (by decide) (by decide)
  split
  · exact parts_st h m 7 7 (by decide) (by decide)
  split
  · exact ⟨(loop_st h m).1, hw (loop_st h m).2 (by decide)⟩
  · exact ⟨(work_st h m).1, hw (work_st h m).2 (by decide)⟩
theorem start_st : St ⟨bs [112], [Nd.plain 1], []⟩ 0 := by
  refine ⟨⟨by decide, ?_, ?_, ?_, ?_, ?_⟩, by decide, by decide⟩
  · intro i hi
    obtain rfl : i = 0 := by have hi : i < 1 := hi; omega
    exact ⟨fun _ => rfl, fun _ => rfl⟩
  · intro f hf; cases hf
  · intro i hi
    obtain rfl : i = 0 := by have hi : i < 1 := hi; omega
    exact ⟨.inl rfl, fun h => absurd h (by decide), fun _ => ⟨rfl, rfl, rfl⟩, rfl, .inl rfl⟩
  · intro i h0 hi; have hi : i < 1 := hi; omega
  · intro i hi
    obtain rfl : i = 0 := by have hi : i < 1 := hi; omega
    refine ⟨fun _ => rfl, fun h => absurd h (by decide), fun h => absurd h (by decide), fun h => absurd h (by decide), fun h => absurd h (by decide), .inl rfl, fun _ => rfl⟩
theorem pieces_st (rings : Bool) (kinds more : List Int) : ∀ i, St (pieces rings kinds more i).1 (pieces rings kinds more i).2 ∧ (pieces rings kinds more i).1.n ≤ 26 ∧ (pieces rings kinds more i).1.m + 2 ≤ 2 * (pieces rings kinds more i).1.n ∧ (pieces rings kinds more i).1.name = bs [112]
  | 0 => ⟨start_st, by show 1 ≤ 26; decide, by show 0 + 2 ≤ 2 * 1; decide, rfl⟩
  | i + 1 => by
    obtain ⟨h1, h2, h3, h4⟩ := pieces_st rings kinds more i
    unfold pieces
    simp only []
    split
    · rename_i hlt
      obtain ⟨k1, k2⟩ := piece_st h1 rings kinds[i]! (pick more i)
      have := k2.n1
      have := k2.m
      exact ⟨k1, by omega, by omega, k2.name.trans h4⟩
    · exact ⟨h1, h2, h3, h4⟩
/-- Nothing is owed. -/
theorem good_inv (kinds more : List Int) (rings : Bool) : Inv (good kinds more rings) (fun _ => 0) (fun _ => False) ∧ 2 ≤ (good kinds more rings).n ∧ (good kinds more rings).n ≤ 27 ∧ (good kinds more rings).m ≤ 52 ∧ (good kinds more rings).name = bs [112] := by
  obtain ⟨h1, h2, h3, h4⟩ := pieces_st rings kinds more kinds.length
  unfold good
  generalize pieces rings kinds more kinds.length = r at *
  obtain ⟨q, at_⟩ := r
  dsimp only at *
  have hl := h1.lt
  have i1 := h1.inv.node (Nd.plain 2) (field_plain (.inl rfl)) (by show (2 : Int) ≠ 1; decide) rfl
  have hold : (q.node (Nd.plain 2)).nodes[at_]! = q.nodes[at_]! := node_old _ hl
  have i2 := i1.join (a := at_) (b := q.n) no (by rw [node_n]; omega) (by rw [node_n]; omega) h1.inv.pos (.inr (.inr (.inr ⟨by rw [hold]; exact h1.kind, by show 0 < (if at_ = q.n then need _ else if at_ = at_ then 1 else 0); rw [if_neg (Nat.ne_of_lt hl), if_pos rfl]; decide⟩))) (.inl rfl)
  refine ⟨i2.mono ?_ ?_, ?_, ?_, ?_, h4⟩
  · intro i _
    by_cases he : i = at_
    · subst he; simp [need, Nd.plain]; split <;> rfl
    · by_cases h5 : i = q.n
      · subst h5; simp [he, need, Nd.plain]
      · simp [he, h5]
  · rintro i _ ⟨h5 | h5, h6⟩
    · exact h6 h5
    · exact h5
  · have := h1.inv.pos; rw [join_n, node_n]; omega
  · rw [join_n, node_n]; omega
  · rw [join_m, node_m]; omega
end
end Pr
end Go.Proofs.YtddedbpbenkdoaaGreatDoor
