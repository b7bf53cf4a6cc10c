/- Mathematics of processes: pieces in a row, and that such a process may be. -/
import Derived.Test.YtjdgloofdafebaaGjY
namespace Go.Proofs.Ytjdgloofdafebaa
open Go.RowKit

namespace Pr
/-- From p to q: nodes that were there keep their Kind; few more of nodes, of flows. -/
structure Up (p q : P) (k : Nat) : Prop where
  n0 : p.n ≤ q.n
  n1 : q.n ≤ p.n + k
  m : q.m + 2 * p.n ≤ p.m + 2 * q.n
  name : q.name = p.name
section
variable {p : P} {at_ : Nat}
theorem join_n {a b : Int} {c : ByteArray} : (p.join a b c).n = p.n := rfl
theorem node_m {x : Nd} : (p.node x).m = p.m := rfl
theorem set_m {k : Nat} {f : Nd → Nd} : (p.set k f).m = p.m := rfl
theorem set_join_set (k : Nat) (f g : Nd → Nd) (a b : Int) (c : ByteArray) : ((p.set k f).join a b c).set k g = (p.join a b c).set k (g ∘ f) := by
  unfold P.set P.join
  simp only [List.modify_modify_eq]
theorem work_st (h : St p at_) (m : Int) : St (work p at_ m).1 (work p at_ m).2 ∧ Up p (work p at_ m).1 2 := by
  have hl := h.lt
  have hW : FieldOk (Nd.work (bs (topics m)) (nmb (m.tdiv 3) 10) (1 + nmb (m.tdiv 7) 3)) := field_work (nm_topic m) (nmb_within _) (nmb_retr _)
  have s1 := h.next _ hW (by show (4 : Int) ≠ 1; decide) (by show (4 : Int) ≠ 2; decide) rfl
  unfold work
  by_cases hm : nmb (m.tdiv 5) 4 = 0
  · simp only [hm, if_true]
    rw [set_join_set]
    generalize hp1 : (p.node (Nd.work (bs (topics m)) (nmb (m.tdiv 3) 10) (1 + nmb (m.tdiv 7) 3))).join at_ p.n no = p1 at *
    have n1 : p1.n = p.n + 1 := by rw [← hp1, join_n, node_n]
    have m1 : p1.m = p.m + 1 := by rw [← hp1, join_m, node_m]
    have hk : p1.nodes[p.n]! = { (Nd.work (bs (topics m)) (nmb (m.tdiv 3) 10) (1 + nmb (m.tdiv 7) 3)) with dflt := -1, tgt := -1 } := by rw [← hp1]; exact node_new _
    have i2 := s1.inv.node (Nd.plain 2) (field_plain (.inl rfl)) (by show (2 : Int) ≠ 1; decide) rfl
    have hk2 : (p1.node (Nd.plain 2)).nodes[p.n]! = p1.nodes[p.n]! := node_old _ (by omega)
    have i3 := i2.caught (k := p.n) (e := p1.n) (by rw [node_n]; omega) (by rw [hk2, hk]; rfl) (by rw [hk2, hk]; rfl) (by simp; omega) (by rw [node_n]; omega) (by omega)
    have hkd : (((p1.node (Nd.plain 2)).join p.n p1.n no).set p.n ((fun x => { x with tgt := (p1.node (Nd.plain 2)).m }) ∘ fun x => { x with caught := txC })).nodes[p.n]!.kind = 4 := by
      rw [set_at (by rw [join_n, node_n]; omega)]
      show ((p1.node (Nd.plain 2)).nodes[p.n]!).kind = 4
      rw [hk2, hk]; rfl
    refine ⟨⟨i3.mono ?_ ?_, ?_, ?_⟩, ?_⟩
    · intro i _
      by_cases he : i = p1.n
      · subst he; simp [need, Nd.plain, n1]
      · simp [he]
    · rintro i _ ⟨h3 | h3, h4⟩
      · exact h4 h3
      · exact h3
    · rw [set_n, join_n, node_n]; omega
    · intro hh
      have : (4 : Int) = 2 := hkd.symm.trans hh
      omega
    · refine ⟨?_, ?_, ?_, ?_⟩
      · rw [set_n, join_n, node_n]; omega
      · rw [set_n, join_n, node_n]; omega
      · rw [set_n, set_m, join_n, node_n, join_m, node_m]; omega
      · rw [← hp1]; rfl
  · simp only [hm, if_false]
    exact ⟨s1, by rw [join_n, node_n]; omega, by rw [join_n, node_n]; omega, by rw [join_n, node_n, join_m, node_m]; omega, rfl⟩
/-- A gateway's ways under way. -/
structure Wy (p : P) (a b : Nat) (open_ : Int) (oa : Nat) (I : Nat → Prop) : Prop where
  inv : Inv p (fun i => if i = a then oa else if i = b then 1 else 0) I
  inb : ∀ i, I i → i = b
  la : a < p.n
  lb : b < p.n
  b0 : 0 < b
  ne : a ≠ b
  ka : (p.nodes[a]!).kind = open_
  kb : (p.nodes[b]!).kind ≠ 2
theorem Wy.way {a b : Nat} {open_ : Int} {oa : Nat} {I : Nat → Prop} (h : Wy p a b open_ oa I) (ho : open_ = 5 ∨ open_ = 6 ∨ open_ = 7) (m : Int) (j : Nat) (hj : j ≤ 9) :
    Wy (way a b m open_ j p) a b open_ (oa - 1) (fun _ => False) ∧ p.n ≤ (way a b m open_ j p).n ∧ (way a b m open_ j p).n ≤ p.n + 1 ∧ (way a b m open_ j p).m + p.n ≤ p.m + (way a b m open_ j p).n + 1 ∧ (way a b m open_ j p).name = p.name := by
  have hla := h.la
  have hlb := h.lb
  have hne := h.ne
  have hka : (p.nodes[a]!).kind = 5 ∨ (p.nodes[a]!).kind = 6 ∨ (p.nodes[a]!).kind = 7 := by rw [h.ka]; exact ho
  have hc : ∀ c, c = (if open_ = 6 then no else bs (conds (wrap64 (m.tdiv 3 + j)))) → c = no ∨ (open_ ≠ 6 ∧ ∃ k : Int, c = bs (conds k)) := by
    rintro c rfl
    by_cases h6 : open_ = 6
    · rw [if_pos h6]; exact .inl rfl
    · rw [if_neg h6]; exact .inr ⟨h6, _, rfl⟩
  -- the last step: a way, and perhaps the one that is taken as a rule
  have last : ∀ (q : P) (t : Nat) (I' : Nat → Prop), Inv q (fun i => if i = a then oa else if i = b then 1 else 0) I' → (∀ i, i < q.n → I' i → i = t) → p.n ≤ q.n → t < q.n → 0 < t → q.nodes[a]! = p.nodes[a]! → q.nodes[b]! = p.nodes[b]! → q.name = p.name →
      ∀ c, (c = no ∨ (open_ ≠ 6 ∧ ∃ k : Int, c = bs (conds k))) → ∀ (d : Prop) [Decidable d], (d → open_ ≠ 6) →
      Wy (if d then (q.join a t c).set a (fun x => { x with dflt := q.m }) else q.join a t c) a b open_ (oa - 1) (fun _ => False) ∧
        (if d then (q.join a t c).set a (fun x => { x with dflt := q.m }) else q.join a t c).n = q.n ∧ (if d then (q.join a t c).set a (fun x => { x with dflt := q.m }) else q.join a t c).m = q.m + 1 ∧
        (if d then (q.join a t c).set a (fun x => { x with dflt := q.m }) else q.join a t c).name = p.name := by
    intro q t I' hi hI hn ht h0 ha hb hnm c hcc d _ hd
    have hcc' : c = no ∨ (((q.nodes[a]!).kind = 5 ∨ (q.nodes[a]!).kind = 7) ∧ ∃ k : Int, c = bs (conds k)) := by
      rcases hcc with h1 | ⟨h1, h2⟩
      · exact .inl h1
      · exact .inr ⟨by rw [ha, h.ka]; omega, h2⟩
    have i3 := hi.join (a := a) (b := t) c (by omega) ht h0 (by rw [ha]; rcases hka with h1 | h1 | h1; exact .inl h1; exact .inr (.inl h1); exact .inr (.inr (.inl h1))) hcc'
    have i4 : Inv (q.join a t c) (fun i => if i = a then oa - 1 else if i = b then 1 else 0) (fun _ => False) := i3.mono (fun i _ => by by_cases he : i = a <;> simp [he]) (fun i hi' hh => hh.2 (hI i hi' hh.1))
    have hkJ : ((q.join a t c).nodes[a]!).kind = open_ := by show (q.nodes[a]!).kind = open_; rw [ha]; exact h.ka
    have hbJ : ((q.join a t c).nodes[b]!) = p.nodes[b]! := hb
    by_cases hdd : d
    · simp only [hdd, if_true]
      have i5 := i4.dflt (k := a) (j := q.m) (by rw [join_n]; omega) (by rw [hkJ]; have := hd hdd; omega) (by rw [join_m]; omega) (by rw [join_new])
      refine ⟨⟨i5, fun _ hh => hh.elim, by rw [set_n, join_n]; omega, by rw [set_n, join_n]; omega, h.b0, hne, ?_, ?_⟩, by rw [set_n, join_n], by rw [set_m, join_m], hnm⟩
      · rw [set_at (by rw [join_n]; omega)]; exact hkJ
      · rw [set_other (Ne.symm hne), hbJ]; exact h.kb
    · simp only [hdd, if_false]
      exact ⟨⟨i4, fun _ hh => hh.elim, by rw [join_n]; omega, by rw [join_n]; omega, h.b0, hne, hkJ, by rw [hbJ]; exact h.kb⟩, by rw [join_n], by rw [join_m], hnm⟩
  unfold Pr.way
  have hcc := hc _ rfl
  generalize (if open_ = 6 then no else bs (conds (wrap64 (m.tdiv 3 + j)))) = c at *
  by_cases hm : nmb (m / 2 ^ j) 2 = 0
  · simp only [hm, if_true]
    have hW : FieldOk (Nd.work (bs (topics (wrap64 (m + j)))) j 2) := field_work (nm_topic _) (by unfold within; rw [Bool.and_eq_true, decide_eq_true_eq, decide_eq_true_eq]; omega) rfl
    have i1 := h.inv.node _ hW (by show (4 : Int) ≠ 1; decide) rfl
    have hnw : (p.node (Nd.work (bs (topics (wrap64 (m + j)))) j 2)).nodes[p.n]! = { Nd.work (bs (topics (wrap64 (m + j)))) j 2 with dflt := -1, tgt := -1 } := node_new _
    have i2 := i1.join (a := p.n) (b := b) no (by rw [node_n]; omega) (by rw [node_n]; omega) h.b0 (.inr (.inr (.inr ⟨by rw [hnw]; show (4 : Int) ≠ 2; decide, by show 0 < (if p.n = p.n then need _ else _); rw [if_pos rfl]; unfold need; rw [if_neg (by show ¬ (4 : Int) = 2; decide)]; decide⟩))) (.inl rfl)
    have hoa : (p.node (Nd.work (bs (topics (wrap64 (m + j)))) j 2)).nodes[a]! = p.nodes[a]! := node_old _ hla
    have hob : (p.node (Nd.work (bs (topics (wrap64 (m + j)))) j 2)).nodes[b]! = p.nodes[b]! := node_old _ hlb
    obtain ⟨k1, k2, k3, k4⟩ := last _ p.n (fun i => (i = p.n ∨ I i) ∧ i ≠ b) (i2.mono (fun i _ => by
        by_cases he : i = p.n
        · subst he; have e1 : p.n ≠ a := by omega
          have e2 : p.n ≠ b := by omega
          simp [e1, e2, need, Nd.work]
        · simp [he]) (fun _ _ hh => hh)) (fun i _ hh => by
        rcases hh with ⟨hh | hh, h4⟩
        · exact hh
        · exact absurd (h.inb i hh) h4) (by rw [join_n, node_n]; omega) (by rw [join_n, node_n]; omega) (by omega) hoa hob rfl c hcc (open_ ≠ 6 ∧ j = 0 ∧ 0 < nmb (m.tdiv 11) 4) (fun hh => hh.1)
    refine ⟨k1, by rw [k2, join_n, node_n]; omega, by rw [k2, join_n, node_n]; omega, by rw [k2, k3, join_n, node_n, join_m, node_m]; omega, k4⟩
  · simp only [hm, if_false]
    obtain ⟨k1, k2, k3, k4⟩ := last p b I h.inv (fun i _ hh => h.inb i hh) (Nat.le_refl _) hlb h.b0 rfl rfl rfl c hcc (open_ ≠ 6 ∧ j = 0 ∧ 0 < nmb (m.tdiv 11) 4) (fun hh => hh.1)
    exact ⟨k1, by rw [k2]; omega, by rw [k2]; omega, by rw [k2, k3]; omega, k4⟩
end
end Pr
end Go.Proofs.Ytjdgloofdafebaa
