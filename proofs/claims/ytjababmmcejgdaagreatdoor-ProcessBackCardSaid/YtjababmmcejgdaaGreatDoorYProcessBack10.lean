/- Mathematics of processes: fields that are set; a Work, a choice, a fork, a loop behind a node. Mathematics of processes: pieces in a row, and that such a process may be. Walks of leaseholdmake: a number, a topic, a condition out of a number; the one picked. -/
import Derived.Test.YtjababmmcejgdaaGreatDoorYProcessBack9
import Derived.Test.YtjababmmcejgdaaGreatDoorGnY
import Derived.Test.YtjababmmcejgdaaGreatDoorYProcessBack8
namespace Go.Proofs.YtjababmmcejgdaaGreatDoor
open Go.RowKit

namespace Pr
section
variable {p : P} {o : Nat → Nat} {I : Nat → Prop} {k : Nat} {f : Nd → Nd}
theorem set_n : (p.set k f).n = p.n := by simp [P.set, P.n]
theorem set_at (hk : k < p.n) : (p.set k f).nodes[k]! = f (p.nodes[k]!) := by
  have hk' : k < p.nodes.length := hk
  simp [P.set, hk']
theorem set_other {i : Nat} (h : i ≠ k) : (p.set k f).nodes[i]! = p.nodes[i]! := by
  simp [P.set, List.getElem!_eq_getElem?_getD, Ne.symm h]
theorem Inv.set (h : Inv p o I) (hk : k < p.n) (hkd : (f (p.nodes[k]!)).kind = (p.nodes[k]!).kind) (hf : FieldOk (f (p.nodes[k]!))) (v : Nat) (hout : OutOk (p.set k f) k v) :
    Inv (p.set k f) (fun i => if i = k then v else o i) I := by
  have hkind : ∀ i : Nat, ((p.set k f).nodes[i]!).kind = (p.nodes[i]!).kind := by
    intro i
    by_cases he : i = k
    · subst he; rw [set_at hk]; exact hkd
    · rw [set_other he]
  refine ⟨by rw [set_n]; exact h.pos, ?_, ?_, ?_, ?_, ?_⟩
  · intro i hi; rw [set_n] at hi; rw [hkind]; exact h.start i hi
  · intro g hg
    obtain ⟨⟨a, b, h1, h2, h3, h4, h5⟩, h6⟩ := h.flow g hg
    exact ⟨⟨a, b, h1, h2, by rw [set_n]; exact h3, by rw [set_n]; exact h4, h5⟩, by rw [hkind]; exact h6⟩
  · intro i hi
    rw [set_n] at hi
    by_cases he : i = k
    · subst he; rw [set_at hk]; exact hf
    · rw [set_other he]; exact h.field i hi
  · intro i h0 hi hn; rw [set_n] at hi; exact h.ins i h0 hi hn
  · intro i hi
    rw [set_n] at hi
    by_cases he : i = k
    · subst he; rw [if_pos rfl]; exact hout
    · rw [if_neg he]
      have h1 := h.outs i hi
      refine ⟨?_, ?_, ?_, ?_, ?_, ?_, ?_⟩ <;> rw [set_other he]
      · exact h1.start
      · exact h1.fin
      · exact h1.wk0
      · exact h1.wk1
      · exact h1.gate
      · exact h1.dflt
      · exact h1.tgt
theorem Inv.dflt (h : Inv p o I) {j : Nat} (hk : k < p.n) (hg : (p.nodes[k]!).kind = 5 ∨ (p.nodes[k]!).kind = 7) (hj : j < p.m) (hfr : (p.flows[j]!).frm = (k : Int)) :
    Inv (p.set k fun x => { x with dflt := j }) o I := by
  have hfk := h.field k hk
  have hok := h.outs k hk
  have := h.set (k := k) (f := fun x => { x with dflt := j }) hk rfl ⟨hfk.kind, hfk.wk, hfk.nowk, hfk.code, hfk.caught⟩ (o k) (by
    refine ⟨?_, ?_, ?_, ?_, ?_, ?_, ?_⟩ <;> rw [set_at hk]
    · exact hok.start
    · exact hok.fin
    · exact hok.wk0
    · exact hok.wk1
    · exact hok.gate
    · exact .inr ⟨hg, j, hj, rfl, hfr⟩
    · exact hok.tgt)
  exact this.mono (fun i _ => by by_cases he : i = k <;> simp [he]) (fun _ _ h => h)
def txC : ByteArray := bs [99, 97, 117, 103, 104, 116]
theorem txC_ne : txC ≠ no := by decide
theorem Inv.caught (h : Inv p o I) {e : Nat} (hk : k < p.n) (hkd : (p.nodes[k]!).kind = 4) (hc : (p.nodes[k]!).caught = no) (ho : o k = 1) (he : e < p.n) (he0 : 0 < e) :
    Inv ((p.join k e no).set k fun x => { x with caught := txC, tgt := p.m }) o (fun i => I i ∧ i ≠ e) := by
  have hcO := (h.outs k hk).wk0 hkd hc
  have h1 := h.join (a := k) (b := e) no hk he he0 (.inr (.inr (.inr ⟨by rw [hkd]; decide, by omega⟩))) (.inl rfl)
  have hfk := h.field k hk
  have hok := h.outs k hk
  have hkJ : k < (p.join k e no).n := hk
  have hnd : (p.join k e no).nodes[k]! = p.nodes[k]! := rfl
  have := h1.set (k := k) (f := fun x => { x with caught := txC, tgt := p.m }) hkJ rfl (by rw [hnd]; exact ⟨hfk.kind, hfk.wk, hfk.nowk, hfk.code, .inr ⟨hkd, rfl⟩⟩) 1 (by
    have hcn : cO ((p.join k e no).set k fun x => { x with caught := txC, tgt := p.m }) k = 1 := by
      show cO (p.join k e no) k = 1
      rw [join_cO, if_pos rfl]; omega
    refine ⟨?_, ?_, ?_, ?_, ?_, ?_, ?_⟩ <;> rw [set_at hkJ, hnd]
    · intro hh; have hh : (p.nodes[k]!).kind = 1 := hh; omega
    · intro hh; have hh : (p.nodes[k]!).kind = 2 := hh; omega
    · intro _ hh; exact absurd hh txC_ne
    · intro _ _; exact ⟨by rw [hcn], p.m, by show p.m < (p.join k e no).m; rw [join_m]; omega, rfl, by show ((p.join k e no).flows[p.m]!).frm = _; rw [join_new]⟩
    · intro hh; have hh : (p.nodes[k]!).kind = 5 ∨ (p.nodes[k]!).kind = 6 ∨ (p.nodes[k]!).kind = 7 := hh; omega
    · rcases hok.dflt with h2 | ⟨h2, _⟩
      · exact .inl h2
      · omega
    · intro hh; exact absurd hh txC_ne)
  exact this.mono (fun i _ => by by_cases he : i = k <;> simp [he, ho]) (fun _ _ h => h)
end
/-- All is as it may be but that the last one owes a flow. -/
structure St (p : P) (at_ : Nat) : Prop where
  inv : Inv p (fun i => if i = at_ then 1 else 0) (fun _ => False)
  lt : at_ < p.n
  kind : (p.nodes[at_]!).kind ≠ 2
theorem nm_topic (m : Int) : nm (bs (topics m)) = true := by
  unfold topics
  have h : (nmb m 3).toNat < 3 := by unfold nmb; omega
  have : ∀ k, k < 3 → nm (bs topicL[k]!) = true := by decide +kernel
  exact this _ h
theorem field_work {t : ByteArray} {pr r : Int} (ht : nm t = true) (hp : within pr 0 9 = true) (hr : within r 1 9 = true) : FieldOk (Nd.work t pr r) :=
  ⟨.inr (.inr (.inl rfl)), fun _ => ⟨ht, hp, hr⟩, fun h => absurd rfl h, rfl, .inl rfl⟩
theorem field_plain {k : Int} (h : k = 2 ∨ k = 5 ∨ k = 6 ∨ k = 7) : FieldOk (Nd.plain k) :=
  ⟨by show k = 1 ∨ k = 2 ∨ k = 4 ∨ k = 5 ∨ k = 6 ∨ k = 7; omega, fun hh => by have hh : k = 4 := hh; omega, fun _ => ⟨rfl, rfl, rfl⟩, rfl, .inl rfl⟩
theorem nmb_within (x : Int) : within (nmb x 10) 0 9 = true := by
  unfold within nmb
  rw [Bool.and_eq_true, decide_eq_true_eq, decide_eq_true_eq]
  omega
theorem nmb_retr (x : Int) : within (1 + nmb x 3) 1 9 = true := by
  unfold within nmb
  rw [Bool.and_eq_true, decide_eq_true_eq, decide_eq_true_eq]
  omega
section
variable {p : P} {at_ : Nat}
/-- A fresh node behind the last one. -/
theorem St.next (h : St p at_) (x : Nd) (hx : FieldOk x) (h1 : x.kind ≠ 1) (h2 : x.kind ≠ 2) (hc : x.caught = no) : St ((p.node x).join at_ p.n no) p.n := by
  have hp := h.inv.pos
  have hl := h.lt
  have i1 := h.inv.node x hx h1 hc
  have hold : (p.node x).nodes[at_]! = p.nodes[at_]! := node_old x hl
  have i2 := i1.join (a := at_) (b := p.n) no (by rw [node_n]; omega) (by rw [node_n]; omega) hp (.inr (.inr (.inr ⟨by rw [hold]; exact h.kind, by show 0 < (if at_ = p.n then need x else if at_ = at_ then 1 else 0); rw [if_neg (Nat.ne_of_lt hl), if_pos rfl]; decide⟩))) (.inl rfl)
  refine ⟨i2.mono ?_ ?_, by show p.n < (p.node x).n; rw [node_n]; omega, ?_⟩
  · intro i _
    by_cases h3 : i = at_
    · subst h3; simp [Nat.ne_of_lt hl]
    · by_cases h4 : i = p.n
      · subst h4; simp [h3, need, h2]
      · simp [h3, h4]
  · rintro i _ ⟨h3 | h3, h4⟩
    · exact h4 h3
    · exact h3
  · show ((p.node x).nodes[p.n]!).kind ≠ 2
    rw [node_new]
    exact h2
end
end Pr
end Go.Proofs.YtjababmmcejgdaaGreatDoor
namespace Go.Proofs.YtjababmmcejgdaaGreatDoor
open Go.RowKit

namespace Pr
/-- From p to q: nodes that were there keep their Kind; few more of nodes, of flows. -/
structure Up (p q : P) (k : Nat) : Prop where
  n0 : p.n ≤ q.n
  n1 : q.n ≤ p.n + k
  m : q.m + 2 * p.n ≤ p.m + 2 * q.n
  name : q.name = p.name
section
variable {p : P} {at_ : Nat}
theorem join_n {a b : Int} {c : ByteArray} : (p.join a b c).n = p.n := rfl
theorem node_m {x : Nd} : (p.node x).m = p.m := rfl
theorem set_m {k : Nat} {f : Nd → Nd} : (p.set k f).m = p.m := rfl
theorem set_join_set (k : Nat) (f g : Nd → Nd) (a b : Int) (c : ByteArray) : ((p.set k f).join a b c).set k g = (p.join a b c).set k (g ∘ f) := by
  unfold P.set P.join
  simp only [List.modify_modify_eq]
theorem work_st (h : St p at_) (m : Int) : St (work p at_ m).1 (work p at_ m).2 ∧ Up p (work p at_ m).1 2 := by
  have hl := h.lt
  have hW : FieldOk (Nd.work (bs (topics m)) (nmb (m.tdiv 3) 10) (1 + nmb (m.tdiv 7) 3)) := field_work (nm_topic m) (nmb_within _) (nmb_retr _)
  have s1 := h.next _ hW (by show (4 : Int) ≠ 1; decide) (by show (4 : Int) ≠ 2; decide) rfl
  unfold work
  by_cases hm : nmb (m.tdiv 5) 4 = 0
  · simp only [hm, if_true]
    rw [set_join_set]
    generalize hp1 : (p.node (Nd.work (bs (topics m)) (nmb (m.tdiv 3) 10) (1 + nmb (m.tdiv 7) 3))).join at_ p.n no = p1 at *
    have n1 : p1.n = p.n + 1 := by rw [← hp1, join_n, node_n]
    have m1 : p1.m = p.m + 1 := by rw [← hp1, join_m, node_m]
    have hk : p1.nodes[p.n]! = { (Nd.work (bs (topics m)) (nmb (m.tdiv 3) 10) (1 + nmb (m.tdiv 7) 3)) with dflt := -1, tgt := -1 } := by rw [← hp1]; exact node_new _
    have i2 := s1.inv.node (Nd.plain 2) (field_plain (.inl rfl)) (by show (2 : Int) ≠ 1; decide) rfl
    have hk2 : (p1.node (Nd.plain 2)).nodes[p.n]! = p1.nodes[p.n]! := node_old _ (by omega)
    have i3 := i2.caught (k := p.n) (e := p1.n) (by rw [node_n]; omega) (by rw [hk2, hk]; rfl) (by rw [hk2, hk]; rfl) (by simp; omega) (by rw [node_n]; omega) (by omega)
    have hkd : (((p1.node (Nd.plain 2)).join p.n p1.n no).set p.n ((fun x => { x with tgt := (p1.node (Nd.plain 2)).m }) ∘ fun x => { x with caught := txC })).nodes[p.n]!.kind = 4 := by
      rw [set_at (by rw [join_n, node_n]; omega)]
      show ((p1.node (Nd.plain 2)).nodes[p.n]!).kind = 4
      rw [hk2, hk]; rfl
    refine ⟨⟨i3.mono ?_ ?_, ?_, ?_⟩, ?_⟩
    · intro i _
      by_cases he : i = p1.n
      · subst he; simp [need, Nd.plain, n1]
      · simp [he]
    · rintro i _ ⟨h3 | h3, h4⟩
      · exact h4 h3
      · exact h3
    · rw [set_n, join_n, node_n]; omega
    · intro hh
      have : (4 : Int) = 2 := hkd.symm.trans hh
      omega
    · refine ⟨?_, ?_, ?_, ?_⟩
      · rw [set_n, join_n, node_n]; omega
      · rw [set_n, join_n, node_n]; omega
      · rw [set_n, set_m, join_n, node_n, join_m, node_m]; omega
      · rw [← hp1]; rfl
  · simp only [hm, if_false]
    exact ⟨s1, by rw [join_n, node_n]; omega, by rw [join_n, node_n]; omega, by rw [join_n, node_n, join_m, node_m]; omega, rfl⟩
/-- A gateway's ways under way. -/
structure Wy (p : P) (a b : Nat) (open_ : Int) (oa : Nat) (I : Nat → Prop) : Prop where
  inv : Inv p (fun i => if i = a then oa else if i = b then 1 else 0) I
  inb : ∀ i, I i → i = b
  la : a < p.n
  lb : b < p.n
  b0 : 0 < b
  ne : a ≠ b
  ka : (p.nodes[a]!).kind = open_
  kb : (p.nodes[b]!).kind ≠ 2
theorem Wy.way {a b : Nat} {open_ : Int} {oa : Nat} {I : Nat → Prop} (h : Wy p a b open_ oa I) (ho : open_ = 5 ∨ open_ = 6 ∨ open_ = 7) (m : Int) (j : Nat) (hj : j ≤ 9) :
    Wy (way a b m open_ j p) a b open_ (oa - 1) (fun _ => False) ∧ p.n ≤ (way a b m open_ j p).n ∧ (way a b m open_ j p).n ≤ p.n + 1 ∧ (way a b m open_ j p).m + p.n ≤ p.m + (way a b m open_ j p).n + 1 ∧ (way a b m open_ j p).name = p.name := by
  have hla := h.la
  have hlb := h.lb
  have hne := h.ne
  have hka : (p.nodes[a]!).kind = 5 ∨ (p.nodes[a]!).kind = 6 ∨ (p.nodes[a]!).kind = 7 := by rw [h.ka]; exact ho
  have hc : ∀ c, c = (if open_ = 6 then no else bs (conds (wrap64 (m.tdiv 3 + j)))) → c = no ∨ (open_ ≠ 6 ∧ ∃ k : Int, c = bs (conds k)) := by
    rintro c rfl
    by_cases h6 : open_ = 6
    · rw [if_pos h6]; exact .inl rfl
    · rw [if_neg h6]; exact .inr ⟨h6, _, rfl⟩
  -- the last step: a way, and perhaps the one that is taken as a rule
  have last : ∀ (q : P) (t : Nat) (I' : Nat → Prop), Inv q (fun i => if i = a then oa else if i = b then 1 else 0) I' → (∀ i, i < q.n → I' i → i = t) → p.n ≤ q.n → t < q.n → 0 < t → q.nodes[a]! = p.nodes[a]! → q.nodes[b]! = p.nodes[b]! → q.name = p.name →
      ∀ c, (c = no ∨ (open_ ≠ 6 ∧ ∃ k : Int, c = bs (conds k))) → ∀ (d : Prop) [Decidable d], (d → open_ ≠ 6) →
      Wy (if d then (q.join a t c).set a (fun x => { x with dflt := q.m }) else q.join a t c) a b open_ (oa - 1) (fun _ => False) ∧
        (if d then (q.join a t c).set a (fun x => { x with dflt := q.m }) else q.join a t c).n = q.n ∧ (if d then (q.join a t c).set a (fun x => { x with dflt := q.m }) else q.join a t c).m = q.m + 1 ∧
        (if d then (q.join a t c).set a (fun x => { x with dflt := q.m }) else q.join a t c).name = p.name := by
    intro q t I' hi hI hn ht h0 ha hb hnm c hcc d _ hd
    have hcc' : c = no ∨ (((q.nodes[a]!).kind = 5 ∨ (q.nodes[a]!).kind = 7) ∧ ∃ k : Int, c = bs (conds k)) := by
      rcases hcc with h1 | ⟨h1, h2⟩
      · exact .inl h1
      · exact .inr ⟨by rw [ha, h.ka]; omega, h2⟩
    have i3 := hi.join (a := a) (b := t) c (by omega) ht h0 (by rw [ha]; rcases hka with h1 | h1 | h1; exact .inl h1; exact .inr (.inl h1); exact .inr (.inr (.inl h1))) hcc'
    have i4 : Inv (q.join a t c) (fun i => if i = a then oa - 1 else if i = b then 1 else 0) (fun _ => False) := i3.mono (fun i _ => by by_cases he : i = a <;> simp [he]) (fun i hi' hh => hh.2 (hI i hi' hh.1))
    have hkJ : ((q.join a t c).nodes[a]!).kind = open_ := by show (q.nodes[a]!).kind = open_; rw [ha]; exact h.ka
    have hbJ : ((q.join a t c).nodes[b]!) = p.nodes[b]! := hb
    by_cases hdd : d
    · simp only [hdd, if_true]
      have i5 := i4.dflt (k := a) (j := q.m) (by rw [join_n]; omega) (by rw [hkJ]; have := hd hdd; omega) (by rw [join_m]; omega) (by rw [join_new])
      refine ⟨⟨i5, fun _ hh => hh.elim, by rw [set_n, join_n]; omega, by rw [set_n, join_n]; omega, h.b0, hne, ?_, ?_⟩, by rw [set_n, join_n], by rw [set_m, join_m], hnm⟩
      · rw [set_at (by rw [join_n]; omega)]; exact hkJ
      · rw [set_other (Ne.symm hne), hbJ]; exact h.kb
    · simp only [hdd, if_false]
      exact ⟨⟨i4, fun _ hh => hh.elim, by rw [join_n]; omega, by rw [join_n]; omega, h.b0, hne, hkJ, by rw [hbJ]; exact h.kb⟩, by rw [join_n], by rw [join_m], hnm⟩
  unfold Pr.way
  have hcc := hc _ rfl
  generalize (if open_ = 6 then no else bs (conds (wrap64 (m.tdiv 3 + j)))) = c at *
  by_cases hm : nmb (m / 2 ^ j) 2 = 0
  · simp only [hm, if_true]
    have hW : FieldOk (Nd.work (bs (topics (wrap64 (m + j)))) j 2) := field_work (nm_topic _) (by unfold within; rw [Bool.and_eq_true, decide_eq_true_eq, decide_eq_true_eq]; omega) rfl
    have i1 := h.inv.node _ hW (by show (4 : Int) ≠ 1; decide) rfl
    have hnw : (p.node (Nd.work (bs (topics (wrap64 (m + j)))) j 2)).nodes[p.n]! = { Nd.work (bs (topics (wrap64 (m + j)))) j 2 with dflt := -1, tgt := -1 } := node_new _
    have i2 := i1.join (a := p.n) (b := b) no (by rw [node_n]; omega) (by rw [node_n]; omega) h.b0 (.inr (.inr (.inr ⟨by rw [hnw]; show (4 : Int) ≠ 2; decide, by show 0 < (if p.n = p.n then need _ else _); rw [if_pos rfl]; unfold need; rw [if_neg (by show ¬ (4 : Int) = 2; decide)]; decide⟩))) (.inl rfl)
    have hoa : (p.node (Nd.work (bs (topics (wrap64 (m + j)))) j 2)).nodes[a]! = p.nodes[a]! := node_old _ hla
    have hob : (p.node (Nd.work (bs (topics (wrap64 (m + j)))) j 2)).nodes[b]! = p.nodes[b]! := node_old _ hlb
    obtain ⟨k1, k2, k3, k4⟩ := last _ p.n (fun i => (i = p.n ∨ I i) ∧ i ≠ b) (i2.mono (fun i _ => by
        by_cases he : i = p.n
        · subst he; have e1 : p.n ≠ a := by omega
          have e2 : p.n ≠ b := by omega
          simp [e1, e2, need, Nd.work]
        · simp [he]) (fun _ _ hh => hh)) (fun i _ hh => by
        rcases hh with ⟨hh | hh, h4⟩
        · exact hh
        · exact absurd (h.inb i hh) h4) (by rw [join_n, node_n]; omega) (by rw [join_n, node_n]; omega) (by omega) hoa hob rfl c hcc (open_ ≠ 6 ∧ j = 0 ∧ 0 < nmb (m.tdiv 11) 4) (fun hh => hh.1)
    refine ⟨k1, by rw [k2, join_n, node_n]; omega, by rw [k2, join_n, node_n]; omega, by rw [k2, k3, join_n, node_n, join_m, node_m]; omega, k4⟩
  · simp only [hm, if_false]
    obtain ⟨k1, k2, k3, k4⟩ := last p b I h.inv (fun i _ hh => h.inb i hh) (Nat.le_refl _) hlb h.b0 rfl rfl rfl c hcc (open_ ≠ 6 ∧ j = 0 ∧ 0 < nmb (m.tdiv 11) 4) (fun hh => hh.1)
    exact ⟨k1, by rw [k2]; omega, by rw [k2]; omega, by rw [k2, k3]; omega, k4⟩
end
end Pr
end Go.Proofs.YtjababmmcejgdaaGreatDoor
namespace Go.Proofs.YtjababmmcejgdaaGreatDoor
open Go.RowKit

namespace Pr
theorem nmb_tmod (n b : Int) (hb : 0 < b) : nmb n b = if n.tmod b < 0 then n.tmod b + b else n.tmod b := by
  have e1 : n.tmod b < b := Int.tmod_lt_of_pos _ hb
  have e2 : -b < n.tmod b := by
    have := Int.lt_tmod_of_pos n hb
    omega
  have e3 : n = n.tmod b + b * n.tdiv b := by have := Int.tmod_add_mul_tdiv n b; omega
  have e4 : n % b = (n.tmod b) % b := by
    conv => lhs; rw [e3]
    exact Int.add_mul_emod_self_left _ _ _
  unfold nmb
  rw [e4]
  split
  · rw [← Int.add_emod_right]
    exact Int.emod_eq_of_lt (by omega) (by omega)
  · exact Int.emod_eq_of_lt (by omega) (by omega)
theorem nmb_nat (n b : Int) (hb : 0 < b) : ∃ k : Nat, nmb n b = k ∧ (k : Int) < b := by
  have h1 := Int.emod_nonneg n (show b ≠ 0 by omega)
  have h2 := Int.emod_lt_of_pos n hb
  exact ⟨(nmb n b).toNat, by unfold nmb; omega, by unfold nmb; omega⟩
set_option maxHeartbeats 400000 in
theorem mnumber_any (n b : Int) (w : World) (hb : 0 < b) (_h1 : -9223372036854775808 ≤ n) (_h2 : n ≤ 9223372036854775807) (h3 : b ≤ 4611686018427387904) :
    Calls Tryz.prog 21 #[.int .i64 n, .int .i64 b] w fun e w' => e = .returned (.int .i64 (nmb n b)) ∧ w = w' := by
  have hb0 : (b == 0) = false := by simp; omega
  have hv := nmb_tmod n b hb
  have e1 : n.tmod b < b := Int.tmod_lt_of_pos _ hb
  have e2 : -b < n.tmod b := by
    have := Int.lt_tmod_of_pos n hb
    omega
  by_cases hr : n.tmod b < 0
  · rw [if_pos hr] at hv
    rw [hv]
    clear hv
    go_enter Tryz.func21, Tryz.ntmps21
    go_wp2
    go_ret
    exact ⟨ret_int (by omega), rfl⟩
  · rw [if_neg hr] at hv
    rw [hv]
    clear hv
    go_enter Tryz.func21, Tryz.ntmps21
    go_wp2
    go_ret
    exact ⟨ret_int (by omega), rfl⟩
set_option maxHeartbeats 800000 in
theorem mtopics_any (n : Int) (w : World) (h1 : -9223372036854775808 ≤ n) (h2 : n ≤ 9223372036854775807) :
    Calls Tryz.prog 52 #[.int .i64 n] w fun e w' => e = .returned (.string (bs (topics n))) ∧ Below w.heap.size w w' := by
  have HNU := Lib.hid (fun W => mnumber_any n 3 W (by decide) h1 h2 (by decide))
  unfold topics
  obtain ⟨k, hk, hk3⟩ := nmb_nat n 3 (by decide)
  rw [hk] at HNU ⊢
  rw [Int.toNat_natCast]
  have HB := Lib.hid ((Below.refl w.heap.size w).alloc (Nat.le_refl _) (.cells (topicL.map fun s => Value.string ⟨s.toArray⟩).toArray 9))
  have hh := heap_alloc_new w (.cells (topicL.map fun s => Value.string ⟨s.toArray⟩).toArray 9)
  have c1 : (w.alloc (.cells (topicL.map fun s => Value.string ⟨s.toArray⟩).toArray 9)).cell? ⟨w.heap.size, k, none⟩ = some (.string ⟨(topicL[k]!).toArray⟩) := lit_texts hh (by show k < 3; omega)
  unfold bs
  generalize (⟨(topicL[k]!).toArray⟩ : ByteArray) = T at c1 ⊢
  have hk0 : (0 : Int) ≤ (k : Int) := by omega
  clear hh h1 h2 hk
  go_enter Tryz.func52, Tryz.ntmps52
  go_upto_region 2 with (fail)
  have e : topicL.map (fun s => Value.string ⟨s.toArray⟩) = [.string ⟨#[112, 97, 121]⟩, .string ⟨#[115, 104, 105, 112]⟩, .string ⟨#[97, 115, 107, 45, 49]⟩] := rfl
  rw [e] at HB c1
  generalize w.alloc _ = wz at *
  go_wp2_with fail
  refine (HNU.out _).mono ?_
  rintro e w2 ⟨rfl, rfl⟩
  go_wp2
  go_ret
  exact ⟨rfl, HB.out⟩
set_option maxHeartbeats 800000 in
theorem mconds_any (n : Int) (w : World) (h1 : -9223372036854775808 ≤ n) (h2 : n ≤ 9223372036854775807) :
    Calls Tryz.prog 53 #[.int .i64 n] w fun e w' => e = .returned (.string (bs (conds n))) ∧ Below w.heap.size w w' := by
  have HNU := Lib.hid (fun W => mnumber_any n 12 W (by decide) h1 h2 (by decide))
  unfold conds
  obtain ⟨k, hk, hk3⟩ := nmb_nat n 12 (by decide)
  rw [hk] at HNU ⊢
  rw [Int.toNat_natCast]
  have HB := Lib.hid ((Below.refl w.heap.size w).alloc (Nat.le_refl _) (.cells (condL.map fun s => Value.string ⟨s.toArray⟩).toArray 9))
  have hh := heap_alloc_new w (.cells (condL.map fun s => Value.string ⟨s.toArray⟩).toArray 9)
  have c1 : (w.alloc (.cells (condL.map fun s => Value.string ⟨s.toArray⟩).toArray 9)).cell? ⟨w.heap.size, k, none⟩ = some (.string ⟨(condL[k]!).toArray⟩) := lit_texts hh (by show k < 12; omega)
  unfold bs
  generalize (⟨(condL[k]!).toArray⟩ : ByteArray) = T at c1 ⊢
  have hk0 : (0 : Int) ≤ (k : Int) := by omega
  clear hh h1 h2 hk
  go_enter Tryz.func53, Tryz.ntmps53
  go_upto_region 2 with (fail)
  simp only [condL, List.map_cons, List.map_nil] at HB c1
  generalize w.alloc _ = wz at *
  go_wp2_with fail
  refine (HNU.out _).mono ?_
  rintro e w2 ⟨rfl, rfl⟩
  go_wp2
  go_ret
  exact ⟨rfl, HB.out⟩
end Pr
end Go.Proofs.YtjababmmcejgdaaGreatDoor
