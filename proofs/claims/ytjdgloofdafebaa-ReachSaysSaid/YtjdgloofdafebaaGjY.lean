/- Mathematics of processes: fields that are set; a Work, a choice, a fork, a loop behind a node. -/
import Derived.Test.YtjdgloofdafebaaGiY
namespace Go.Proofs.Ytjdgloofdafebaa
open Go.RowKit

namespace Pr
section
variable {p : P} {o : Nat → Nat} {I : Nat → Prop} {k : Nat} {f : Nd → Nd}
theorem set_n : (p.set k f).n = p.n := by simp [P.set, P.n]
theorem set_at (hk : k < p.n) : (p.set k f).nodes[k]! = f (p.nodes[k]!) := by
  have hk' : k < p.nodes.length := hk
  simp [P.set, hk']
theorem set_other {i : Nat} (h : i ≠ k) : (p.set k f).nodes[i]! = p.nodes[i]! := by
  simp [P.set, List.getElem!_eq_getElem?_getD, Ne.symm h]
theorem Inv.set (h : Inv p o I) (hk : k < p.n) (hkd : (f (p.nodes[k]!)).kind = (p.nodes[k]!).kind) (hf : FieldOk (f (p.nodes[k]!))) (v : Nat) (hout : OutOk (p.set k f) k v) :
    Inv (p.set k f) (fun i => if i = k then v else o i) I := by
  have hkind : ∀ i : Nat, ((p.set k f).nodes[i]!).kind = (p.nodes[i]!).kind := by
    intro i
    by_cases he : i = k
    · subst he; rw [set_at hk]; exact hkd
    · rw [set_other he]
  refine ⟨by rw [set_n]; exact h.pos, ?_, ?_, ?_, ?_, ?_⟩
  · intro i hi; rw [set_n] at hi; rw [hkind]; exact h.start i hi
  · intro g hg
    obtain ⟨⟨a, b, h1, h2, h3, h4, h5⟩, h6⟩ := h.flow g hg
    exact ⟨⟨a, b, h1, h2, by rw [set_n]; exact h3, by rw [set_n]; exact h4, h5⟩, by rw [hkind]; exact h6⟩
  · intro i hi
    rw [set_n] at hi
    by_cases he : i = k
    · subst he; rw [set_at hk]; exact hf
    · rw [set_other he]; exact h.field i hi
  · intro i h0 hi hn; rw [set_n] at hi; exact h.ins i h0 hi hn
  · intro i hi
    rw [set_n] at hi
    by_cases he : i = k
    · subst he; rw [if_pos rfl]; exact hout
    · rw [if_neg he]
      have h1 := h.outs i hi
      refine ⟨?_, ?_, ?_, ?_, ?_, ?_, ?_⟩ <;> rw [set_other he]
      · exact h1.start
      · exact h1.fin
      · exact h1.wk0
      · exact h1.wk1
      · exact h1.gate
      · exact h1.dflt
      · exact h1.tgt
theorem Inv.dflt (h : Inv p o I) {j : Nat} (hk : k < p.n) (hg : (p.nodes[k]!).kind = 5 ∨ (p.nodes[k]!).kind = 7) (hj : j < p.m) (hfr : (p.flows[j]!).frm = (k : Int)) :
    Inv (p.set k fun x => { x with dflt := j }) o I := by
  have hfk := h.field k hk
  have hok := h.outs k hk
  have := h.set (k := k) (f := fun x => { x with dflt := j }) hk rfl ⟨hfk.kind, hfk.wk, hfk.nowk, hfk.code, hfk.caught⟩ (o k) (by
    refine ⟨?_, ?_, ?_, ?_, ?_, ?_, ?_⟩ <;> rw [set_at hk]
    · exact hok.start
    · exact hok.fin
    · exact hok.wk0
    · exact hok.wk1
    · exact hok.gate
    · exact .inr ⟨hg, j, hj, rfl, hfr⟩
    · exact hok.tgt)
  exact this.mono (fun i _ => by by_cases he : i = k <;> simp [he]) (fun _ _ h => h)
def txC : ByteArray := bs [99, 97, 117, 103, 104, 116]
theorem txC_ne : txC ≠ no := by decide
theorem Inv.caught (h : Inv p o I) {e : Nat} (hk : k < p.n) (hkd : (p.nodes[k]!).kind = 4) (hc : (p.nodes[k]!).caught = no) (ho : o k = 1) (he : e < p.n) (he0 : 0 < e) :
    Inv ((p.join k e no).set k fun x => { x with caught := txC, tgt := p.m }) o (fun i => I i ∧ i ≠ e) := by
  have hcO := (h.outs k hk).wk0 hkd hc
  have h1 := h.join (a := k) (b := e) no hk he he0 (.inr (.inr (.inr ⟨by rw [hkd]; decide, by omega⟩))) (.inl rfl)
  have hfk := h.field k hk
  have hok := h.outs k hk
  have hkJ : k < (p.join k e no).n := hk
  have hnd : (p.join k e no).nodes[k]! = p.nodes[k]! := rfl
  have := h1.set (k := k) (f := fun x => { x with caught := txC, tgt := p.m }) hkJ rfl (by rw [hnd]; exact ⟨hfk.kind, hfk.wk, hfk.nowk, hfk.code, .inr ⟨hkd, rfl⟩⟩) 1 (by
    have hcn : cO ((p.join k e no).set k fun x => { x with caught := txC, tgt := p.m }) k = 1 := by
      show cO (p.join k e no) k = 1
      rw [join_cO, if_pos rfl]; omega
    refine ⟨?_, ?_, ?_, ?_, ?_, ?_, ?_⟩ <;> rw [set_at hkJ, hnd]
    · intro hh; have hh : (p.nodes[k]!).kind = 1 := hh; omega
    · intro hh; have hh : (p.nodes[k]!).kind = 2 := hh; omega
    · intro _ hh; exact absurd hh txC_ne
    · intro _ _; exact ⟨by rw [hcn], p.m, by show p.m < (p.join k e no).m; rw [join_m]; omega, rfl, by show ((p.join k e no).flows[p.m]!).frm = _; rw [join_new]⟩
    · intro hh; have hh : (p.nodes[k]!).kind = 5 ∨ (p.nodes[k]!).kind = 6 ∨ (p.nodes[k]!).kind = 7 := hh; omega
    · rcases hok.dflt with h2 | ⟨h2, _⟩
      · exact .inl h2
      · omega
    · intro hh; exact absurd hh txC_ne)
  exact this.mono (fun i _ => by by_cases he : i = k <;> simp [he, ho]) (fun _ _ h => h)
end
/-- All is as it may be but that the last one owes a flow. -/
structure St (p : P) (at_ : Nat) : Prop where
  inv : Inv p (fun i => if i = at_ then 1 else 0) (fun _ => False)
  lt : at_ < p.n
  kind : (p.nodes[at_]!).kind ≠ 2
theorem nm_topic (m : Int) : nm (bs (topics m)) = true := by
  unfold topics
  have h : (nmb m 3).toNat < 3 := by unfold nmb; omega
  have : ∀ k, k < 3 → nm (bs topicL[k]!) = true := by decide +kernel
  exact this _ h
theorem field_work {t : ByteArray} {pr r : Int} (ht : nm t = true) (hp : within pr 0 9 = true) (hr : within r 1 9 = true) : FieldOk (Nd.work t pr r) :=
  ⟨.inr (.inr (.inl rfl)), fun _ => ⟨ht, hp, hr⟩, fun h => absurd rfl h, rfl, .inl rfl⟩
theorem field_plain {k : Int} (h : k = 2 ∨ k = 5 ∨ k = 6 ∨ k = 7) : FieldOk (Nd.plain k) :=
  ⟨by show k = 1 ∨ k = 2 ∨ k = 4 ∨ k = 5 ∨ k = 6 ∨ k = 7; omega, fun hh => by have hh : k = 4 := hh; omega, fun _ => ⟨rfl, rfl, rfl⟩, rfl, .inl rfl⟩
theorem nmb_within (x : Int) : within (nmb x 10) 0 9 = true := by
  unfold within nmb
  rw [Bool.and_eq_true, decide_eq_true_eq, decide_eq_true_eq]
  omega
theorem nmb_retr (x : Int) : within (1 + nmb x 3) 1 9 = true := by
  unfold within nmb
  rw [Bool.and_eq_true, decide_eq_true_eq, decide_eq_true_eq]
  omega
section
variable {p : P} {at_ : Nat}
/-- A fresh node behind the last one. -/
theorem St.next (h : St p at_) (x : Nd) (hx : FieldOk x) (h1 : x.kind ≠ 1) (h2 : x.kind ≠ 2) (hc : x.caught = no) : St ((p.node x).join at_ p.n no) p.n := by
  have hp := h.inv.pos
  have hl := h.lt
  have i1 := h.inv.node x hx h1 hc
  have hold : (p.node x).nodes[at_]! = p.nodes[at_]! := node_old x hl
  have i2 := i1.join (a := at_) (b := p.n) no (by rw [node_n]; omega) (by rw [node_n]; omega) hp (.inr (.inr (.inr ⟨by rw [hold]; exact h.kind, by show 0 < (if at_ = p.n then need x else if at_ = at_ then 1 else 0); rw [if_neg (Nat.ne_of_lt hl), if_pos rfl]; decide⟩))) (.inl rfl)
  refine ⟨i2.mono ?_ ?_, by show p.n < (p.node x).n; rw [node_n]; omega, ?_⟩
  · intro i _
    by_cases h3 : i = at_
    · subst h3; simp [Nat.ne_of_lt hl]
    · by_cases h4 : i = p.n
      · subst h4; simp [h3, need, h2]
      · simp [h3, h4]
  · rintro i _ ⟨h3 | h3, h4⟩
    · exact h4 h3
    · exact h3
  · show ((p.node x).nodes[p.n]!).kind ≠ 2
    rw [node_new]
    exact h2
end
end Pr
end Go.Proofs.Ytjdgloofdafebaa
