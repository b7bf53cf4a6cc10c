/- Mathematics of processes: those out of few numbers may be. -/
import Derived.Test.YtjdgloofdafebaaGlY
namespace Go.Proofs.Ytjdgloofdafebaa
open Go.RowKit

namespace Pr
section
variable {p : P} {at_ : Nat}
theorem ways_st {a b : Nat} {open_ : Int} {oa : Nat} {I : Nat → Prop} (h : Wy p a b open_ oa I) (ho : open_ = 5 ∨ open_ = 6 ∨ open_ = 7) (m : Int) : ∀ j, 0 < j → j ≤ 9 →
    Wy (ways a b m open_ j p) a b open_ (oa - j) (fun _ => False) ∧ p.n ≤ (ways a b m open_ j p).n ∧ (ways a b m open_ j p).n ≤ p.n + j ∧ (ways a b m open_ j p).m + p.n ≤ p.m + (ways a b m open_ j p).n + j ∧ (ways a b m open_ j p).name = p.name
  | 0, h0, _ => absurd h0 (Nat.lt_irrefl 0)
  | 1, _, _ => by
    obtain ⟨k1, k2, k3, k4, k5⟩ := h.way ho m 0 (by decide)
    exact ⟨k1, k2, k3, k4, k5⟩
  | j + 2, _, h9 => by
    obtain ⟨k1, k2, k3, k4, k5⟩ := ways_st h ho m (j + 1) (by omega) (by omega)
    obtain ⟨l1, l2, l3, l4, l5⟩ := k1.way ho m (j + 1) (by omega)
    have hw : ways a b m open_ (j + 2) p = way a b m open_ (j + 1) (ways a b m open_ (j + 1) p) := rfl
    rw [hw]
    clear hw
    generalize ways a b m open_ (j + 1) p = q at *
    refine ⟨?_, ?_, ?_, ?_, ?_⟩
    · rwa [show oa - (j + 2) = oa - (j + 1) - 1 from by omega]
    · omega
    · omega
    · omega
    · exact l5.trans k5
theorem parts_st (h : St p at_) (m open_ shut : Int) (ho : open_ = 5 ∨ open_ = 6 ∨ open_ = 7) (hs : shut = 5 ∨ shut = 6 ∨ shut = 7) : St (parts p at_ m open_ shut).1 (parts p at_ m open_ shut).2 ∧ Up p (parts p at_ m open_ shut).1 5 := by
  have hl := h.lt
  have s1 := h.next (Nd.plain open_) (field_plain (by omega)) (by show open_ ≠ 1; omega) (by show open_ ≠ 2; omega) rfl
  unfold parts
  have hka : (((p.node (Nd.plain open_)).join at_ p.n no).nodes[p.n]!).kind = open_ := by
    show ((p.node (Nd.plain open_)).nodes[p.n]!).kind = open_
    rw [node_new]; rfl
  have n1 : ((p.node (Nd.plain open_)).join at_ p.n no).n = p.n + 1 := by rw [join_n, node_n]
  have m1 : ((p.node (Nd.plain open_)).join at_ p.n no).m = p.m + 1 := by rw [join_m, node_m]
  have nm1 : ((p.node (Nd.plain open_)).join at_ p.n no).name = p.name := rfl
  simp only []
  generalize (p.node (Nd.plain open_)).join at_ p.n no = p1 at *
  have i2 := s1.inv.node (Nd.plain shut) (field_plain (by omega)) (by show shut ≠ 1; omega) rfl
  have hw : Wy (p1.node (Nd.plain shut)) p.n (p.n + 1) open_ 1 (fun i => i = p1.n ∨ False) := by
    refine ⟨i2.mono ?_ (fun _ _ h => h), ?_, by rw [node_n]; omega, by rw [node_n]; omega, by omega, by omega, ?_, ?_⟩
    · intro i _
      have hnd : need (Nd.plain shut) = 1 := by unfold need; rw [if_neg (by show ¬ shut = 2; omega)]
      by_cases he : i = p.n + 1
      · subst he; simp [n1, hnd]
      · simp [he, n1]
    · intro i hi; rcases hi with hi | hi
      · omega
      · exact hi.elim
    · rw [node_old _ (by omega)]; exact hka
    · rw [← n1, node_new]; show shut ≠ 2; omega
  have hn : 2 ≤ (2 + nmb m 2).toNat ∧ (2 + nmb m 2).toNat ≤ 3 := by unfold nmb; omega
  obtain ⟨k1, k2, k3, k4, k5⟩ := ways_st hw ho m (2 + nmb m 2).toNat (by omega) (by omega)
  rw [node_n, node_m] at k4
  rw [node_n] at k2 k3
  generalize ways p.n (p.n + 1) m open_ (2 + nmb m 2).toNat (p1.node (Nd.plain shut)) = q at *
  refine ⟨⟨k1.inv.mono ?_ (fun _ _ h => h), k1.lb, k1.kb⟩, by omega, by omega, by omega, k5.trans nm1⟩
  intro i _
  by_cases he : i = p.n
  · subst he; simp; omega
  · simp [he]
theorem loop_st (h : St p at_) (m : Int) : St (loop p at_ m).1 (loop p at_ m).2 ∧ Up p (loop p at_ m).1 3 := by
  have hl := h.lt
  have s1 := h.next (Nd.plain 5) (field_plain (.inr (.inl rfl))) (by show (5 : Int) ≠ 1; decide) (by show (5 : Int) ≠ 2; decide) rfl
  unfold loop
  have hka : (((p.node (Nd.plain 5)).join at_ p.n no).nodes[p.n]!).kind = 5 := by
    show ((p.node (Nd.plain 5)).nodes[p.n]!).kind = 5
    rw [node_new]; rfl
  have n1 : ((p.node (Nd.plain 5)).join at_ p.n no).n = p.n + 1 := by rw [join_n, node_n]
  have m1 : ((p.node (Nd.plain 5)).join at_ p.n no).m = p.m + 1 := by rw [join_m, node_m]
  have nm1 : ((p.node (Nd.plain 5)).join at_ p.n no).name = p.name := rfl
  simp only []
  generalize (p.node (Nd.plain 5)).join at_ p.n no = p1 at *
  have hW : FieldOk (Nd.work (bs (topics m)) 0 1) := field_work (nm_topic m) rfl rfl
  have i2 := s1.inv.node _ hW (by show (4 : Int) ≠ 1; decide) rfl
  have w2 : (p1.node (Nd.work (bs (topics m)) 0 1)).nodes[p.n + 1]! = { Nd.work (bs (topics m)) 0 1 with dflt := -1, tgt := -1 } := by rw [← n1]; exact node_new _
  have a2 : ((p1.node (Nd.work (bs (topics m)) 0 1)).nodes[p.n]!).kind = 5 := by rw [node_old _ (by omega)]; exact hka
  have n2 : (p1.node (Nd.work (bs (topics m)) 0 1)).n = p.n + 2 := by rw [node_n]; omega
  have m2 : (p1.node (Nd.work (bs (topics m)) 0 1)).m = p.m + 1 := by rw [node_m]; exact m1
  have nm2 : (p1.node (Nd.work (bs (topics m)) 0 1)).name = p.name := nm1
  have hnW : need (Nd.work (bs (topics m)) 0 1) = 1 := by unfold need; rw [if_neg (by show ¬ (4 : Int) = 2; decide)]
  rw [hnW] at i2
  generalize p1.node (Nd.work (bs (topics m)) 0 1) = p2 at *
  have i3 := i2.node (Nd.plain 5) (field_plain (.inr (.inl rfl))) (by show (5 : Int) ≠ 1; decide) rfl
  have w3 : ((p2.node (Nd.plain 5)).nodes[p.n + 1]!).kind = 4 := by rw [node_old _ (by omega), w2]; rfl
  have a3 : ((p2.node (Nd.plain 5)).nodes[p.n]!).kind = 5 := by rw [node_old _ (by omega)]; exact a2
  have b3 : ((p2.node (Nd.plain 5)).nodes[p.n + 2]!).kind = 5 := by rw [← n2, node_new]; rfl
  have n3 : (p2.node (Nd.plain 5)).n = p.n + 3 := by rw [node_n]; omega
  have m3 : (p2.node (Nd.plain 5)).m = p.m + 1 := by rw [node_m]; exact m2
  have nm3 : (p2.node (Nd.plain 5)).name = p.name := nm2
  have hn5 : need (Nd.plain 5) = 1 := by unfold need; rw [if_neg (by show ¬ (5 : Int) = 2; decide)]
  rw [hn5, n1, n2] at i3
  generalize p2.node (Nd.plain 5) = p3 at *
  have i4 := i3.join (a := p.n) (b := p.n + 1) (bs (conds (wrap64 (3 + m)))) (by omega) (by omega) (by omega) (.inl a3) (.inr ⟨.inl a3, _, rfl⟩)
  have i5 := i4.join (a := p.n + 1) (b := p.n) no (by rw [join_n]; omega) (by rw [join_n]; omega) (by omega) (.inr (.inr (.inr ⟨by show (p3.nodes[p.n + 1]!).kind ≠ 2; rw [w3]; decide, by simp⟩))) (.inl rfl)
  have a5 : ((((p3.join p.n (p.n + 1 : Nat) (bs (conds (wrap64 (3 + m))))).join (p.n + 1 : Nat) p.n no).nodes[p.n]!).kind) = 5 := a3
  have b5 : ((((p3.join p.n (p.n + 1 : Nat) (bs (conds (wrap64 (3 + m))))).join (p.n + 1 : Nat) p.n no).nodes[p.n + 2]!).kind) = 5 := b3
  have n5 : ((p3.join p.n (p.n + 1 : Nat) (bs (conds (wrap64 (3 + m))))).join (p.n + 1 : Nat) p.n no).n = p.n + 3 := n3
  have m5 : ((p3.join p.n (p.n + 1 : Nat) (bs (conds (wrap64 (3 + m))))).join (p.n + 1 : Nat) p.n no).m = p.m + 3 := by rw [join_m, join_m]; omega
  have nm5 : ((p3.join p.n (p.n + 1 : Nat) (bs (conds (wrap64 (3 + m))))).join (p.n + 1 : Nat) p.n no).name = p.name := nm3
  generalize (p3.join p.n (p.n + 1 : Nat) (bs (conds (wrap64 (3 + m))))).join (p.n + 1 : Nat) p.n no = p5 at *
  have i6 := i5.join (a := p.n) (b := p.n + 2) no (by omega) (by omega) (by omega) (.inl a5) (.inl rfl)
  have i7 := i6.dflt (k := p.n) (j := p5.m) (by rw [join_n]; omega) (.inl a5) (by rw [join_m]; omega) (by rw [join_new])
  refine ⟨⟨i7.mono ?_ ?_, ?_, ?_⟩, ?_, ?_, ?_, nm5⟩
  · intro i _
    by_cases h1 : i = p.n
    · subst h1; simp
    · by_cases h2 : i = p.n + 1
      · subst h2; simp
      · by_cases h3 : i = p.n + 2
        · subst h3; simp
        · simp [h1, h2, h3]
  · rintro i _ ⟨⟨⟨h1 | h1 | h1, h2⟩, h3⟩, h4⟩
    · exact h4 h1
    · exact h2 h1
    · exact h1
  · rw [set_n, join_n]; omega
  · rw [set_other (by omega)]
    show (p5.nodes[p.n + 2]!).kind ≠ 2
    rw [b5]; decide
  · rw [set_n, join_n]; omega
  · rw [set_n, join_n]; omega
  · rw [set_n, set_m, join_n, join_m]; omega
theorem piece_st (h : St p at_) (rings : Bool) (kd m : Int) : St (piece rings kd m p at_).1 (piece rings kd m p at_).2 ∧ Up p (piece rings kd m p at_).1 5 := by
  have hw : ∀ {q : P} {k : Nat}, Up p q k → k ≤ 5 → Up p q 5 := fun h hk => ⟨h.n0, Nat.le_trans h.n1 (by omega), h.m, h.name⟩
  unfold piece
  simp only []
  split
  · exact ⟨(work_st h m).1, hw (work_st h m).2 (by decide)⟩
  split
  · exact parts_st h m 5 5 (by decide) (by decide)
  split
  · exact parts_st h m 6 6 (by decide) (by decide)
  split
  · exact parts_st h m 7 7 (by decide) (by decide)
  split
  · exact ⟨(loop_st h m).1, hw (loop_st h m).2 (by decide)⟩
  · exact ⟨(work_st h m).1, hw (work_st h m).2 (by decide)⟩
theorem start_st : St ⟨bs [112], [Nd.plain 1], []⟩ 0 := by
  refine ⟨⟨by decide, ?_, ?_, ?_, ?_, ?_⟩, by decide, by decide⟩
  · intro i hi
    obtain rfl : i = 0 := by have hi : i < 1 := hi; omega
    exact ⟨fun _ => rfl, fun _ => rfl⟩
  · intro f hf; cases hf
  · intro i hi
    obtain rfl : i = 0 := by have hi : i < 1 := hi; omega
    exact ⟨.inl rfl, fun h => absurd h (by decide), fun _ => ⟨rfl, rfl, rfl⟩, rfl, .inl rfl⟩
  · intro i h0 hi; have hi : i < 1 := hi; omega
  · intro i hi
    obtain rfl : i = 0 := by have hi : i < 1 := hi; omega
    refine ⟨fun _ => rfl, fun h => absurd h (by decide), fun h => absurd h (by decide), fun h => absurd h (by decide), fun h => absurd h (by decide), .inl rfl, fun _ => rfl⟩
theorem pieces_st (rings : Bool) (kinds more : List Int) : ∀ i, St (pieces rings kinds more i).1 (pieces rings kinds more i).2 ∧ (pieces rings kinds more i).1.n ≤ 26 ∧ (pieces rings kinds more i).1.m + 2 ≤ 2 * (pieces rings kinds more i).1.n ∧ (pieces rings kinds more i).1.name = bs [112]
  | 0 => ⟨start_st, by show 1 ≤ 26; decide, by show 0 + 2 ≤ 2 * 1; decide, rfl⟩
  | i + 1 => by
    obtain ⟨h1, h2, h3, h4⟩ := pieces_st rings kinds more i
    unfold pieces
    simp only []
    split
    · rename_i hlt
      obtain ⟨k1, k2⟩ := piece_st h1 rings kinds[i]! (pick more i)
      have := k2.n1
      have := k2.m
      exact ⟨k1, by omega, by omega, k2.name.trans h4⟩
    · exact ⟨h1, h2, h3, h4⟩
/-- Nothing is owed. -/
theorem good_inv (kinds more : List Int) (rings : Bool) : Inv (good kinds more rings) (fun _ => 0) (fun _ => False) ∧ 2 ≤ (good kinds more rings).n ∧ (good kinds more rings).n ≤ 27 ∧ (good kinds more rings).m ≤ 52 ∧ (good kinds more rings).name = bs [112] := by
  obtain ⟨h1, h2, h3, h4⟩ := pieces_st rings kinds more kinds.length
  unfold good
  generalize pieces rings kinds more kinds.length = r at *
  obtain ⟨q, at_⟩ := r
  dsimp only at *
  have hl := h1.lt
  have i1 := h1.inv.node (Nd.plain 2) (field_plain (.inl rfl)) (by show (2 : Int) ≠ 1; decide) rfl
  have hold : (q.node (Nd.plain 2)).nodes[at_]! = q.nodes[at_]! := node_old _ hl
  have i2 := i1.join (a := at_) (b := q.n) no (by rw [node_n]; omega) (by rw [node_n]; omega) h1.inv.pos (.inr (.inr (.inr ⟨by rw [hold]; exact h1.kind, by show 0 < (if at_ = q.n then need _ else if at_ = at_ then 1 else 0); rw [if_neg (Nat.ne_of_lt hl), if_pos rfl]; decide⟩))) (.inl rfl)
  refine ⟨i2.mono ?_ ?_, ?_, ?_, ?_, h4⟩
  · intro i _
    by_cases he : i = at_
    · subst he; simp [need, Nd.plain]; split <;> rfl
    · by_cases h5 : i = q.n
      · subst h5; simp [he, need, Nd.plain]
      · simp [he, h5]
  · rintro i _ ⟨h5 | h5, h6⟩
    · exact h6 h5
    · exact h5
  · have := h1.inv.pos; rw [join_n, node_n]; omega
  · rw [join_n, node_n]; omega
  · rw [join_m, node_m]; omega
end
end Pr
end Go.Proofs.Ytjdgloofdafebaa
