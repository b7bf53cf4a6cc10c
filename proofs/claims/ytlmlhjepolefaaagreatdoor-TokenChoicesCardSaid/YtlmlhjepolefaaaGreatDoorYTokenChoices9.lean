/- Mathematics of processes: those out of few numbers may be. Mathematics of processes: what is owed nothing is fine. Rows of structs of one's own: what is appended; a cell that is written; beside others. -/
import Derived.Test.YtlmlhjepolefaaaGreatDoorYTokenChoices8
import Derived.Test.YtlmlhjepolefaaaGreatDoorYTokenChoices14
import Derived.Maps.AppendAt
namespace Go.Proofs.YtlmlhjepolefaaaGreatDoor
open Go.RowKit

namespace Pr
section
variable {p : P} {at_ : Nat}
theorem ways_st {a b : Nat} {open_ : Int} {oa : Nat} {I : Nat → Prop} (h : Wy p a b open_ oa I) (ho : open_ = 5 ∨ open_ = 6 ∨ open_ = 7) (m : Int) : ∀ j, 0 < j → j ≤ 9 →
    Wy (ways a b m open_ j p) a b open_ (oa - j) (fun _ => False) ∧ p.n ≤ (ways a b m open_ j p).n ∧ (ways a b m open_ j p).n ≤ p.n + j ∧ (ways a b m open_ j p).m + p.n ≤ p.m + (ways a b m open_ j p).n + j ∧ (ways a b m open_ j p).name = p.name
  | 0, h0, _ => absurd h0 (Nat.lt_irrefl 0)
  | 1, _, _ => by
    obtain ⟨k1, k2, k3, k4, k5⟩ := h.way ho m 0 (by decide)
    exact ⟨k1, k2, k3, k4, k5⟩
  | j + 2, _, h9 => by
    obtain ⟨k1, k2, k3, k4, k5⟩ := ways_st h ho m (j + 1) (by omega) (by omega)
    obtain ⟨l1, l2, l3, l4, l5⟩ := k1.way ho m (j + 1) (by omega)
    have hw : ways a b m open_ (j + 2) p = way a b m open_ (j + 1) (ways a b m open_ (j + 1) p) := rfl
    rw [hw]
    clear hw
    generalize ways a b m open_ (j + 1) p = q at *
    refine ⟨?_, ?_, ?_, ?_, ?_⟩
    · rwa [show oa - (j + 2) = oa - (j + 1) - 1 from by omega]
    · omega
    · omega
    · omega
    · exact l5.trans k5
theorem parts_st (h : St p at_) (m open_ shut : Int) (ho : open_ = 5 ∨ open_ = 6 ∨ open_ = 7) (hs : shut = 5 ∨ shut = 6 ∨ shut = 7) : St (parts p at_ m open_ shut).1 (parts p at_ m open_ shut).2 ∧ Up p (parts p at_ m open_ shut).1 5 := by
  have hl := h.lt
  have s1 := h.next (Nd.plain open_) (field_plain (by omega)) (by show open_ ≠ 1; omega) (by show open_ ≠ 2; omega) rfl
  unfold parts
  have hka : (((p.node (Nd.plain open_)).join at_ p.n no).nodes[p.n]!).kind = open_ := by
    show ((p.node (Nd.plain open_)).nodes[p.n]!).kind = open_
    rw [node_new]; rfl
  have n1 : ((p.node (Nd.plain open_)).join at_ p.n no).n = p.n + 1 := by rw [join_n, node_n]
  have m1 : ((p.node (Nd.plain open_)).join at_ p.n no).m = p.m + 1 := by rw [join_m, node_m]
  have nm1 : ((p.node (Nd.plain open_)).join at_ p.n no).name = p.name := rfl
  simp only []
  generalize (p.node (Nd.plain open_)).join at_ p.n no = p1 at *
  have i2 := s1.inv.node (Nd.plain shut) (field_plain (by omega)) (by show shut ≠ 1; omega) rfl
  have hw : Wy (p1.node (Nd.plain shut)) p.n (p.n + 1) open_ 1 (fun i => i = p1.n ∨ False) := by
    refine ⟨i2.mono ?_ (fun _ _ h => h), ?_, by rw [node_n]; omega, by rw [node_n]; omega, by omega, by omega, ?_, ?_⟩
    · intro i _
      have hnd : need (Nd.plain shut) = 1 := by unfold need; rw [if_neg (by show ¬ shut = 2; omega)]
      by_cases he : i = p.n + 1
      · subst he; simp [n1, hnd]
      · simp [he, n1]
    · intro i hi; rcases hi with hi | hi
      · omega
      · exact hi.elim
    · rw [node_old _ (by omega)]; exact hka
    · rw [← n1, node_new]; show shut ≠ 2; omega
  have hn : 2 ≤ (2 + nmb m 2).toNat ∧ (2 + nmb m 2).toNat ≤ 3 := by unfold nmb; omega
  obtain ⟨k1, k2, k3, k4, k5⟩ := ways_st hw ho m (2 + nmb m 2).toNat (by omega) (by omega)
  rw [node_n, node_m] at k4
  rw [node_n] at k2 k3
  generalize ways p.n (p.n + 1) m open_ (2 + nmb m 2).toNat (p1.node (Nd.plain shut)) = q at *
  refine ⟨⟨k1.inv.mono ?_ (fun _ _ h => h), k1.lb, k1.kb⟩, by omega, by omega, by omega, k5.trans nm1⟩
  intro i _
  by_cases he : i = p.n
  · subst he; simp; omega
  · simp [he]
theorem loop_st (h : St p at_) (m : Int) : St (loop p at_ m).1 (loop p at_ m).2 ∧ Up p (loop p at_ m).1 3 := by
  have hl := h.lt
  have s1 := h.next (Nd.plain 5) (field_plain (.inr (.inl rfl))) (by show (5 : Int) ≠ 1; decide) (by show (5 : Int) ≠ 2; decide) rfl
  unfold loop
  have hka : (((p.node (Nd.plain 5)).join at_ p.n no).nodes[p.n]!).kind = 5 := by
    show ((p.node (Nd.plain 5)).nodes[p.n]!).kind = 5
    rw [node_new]; rfl
  have n1 : ((p.node (Nd.plain 5)).join at_ p.n no).n = p.n + 1 := by rw [join_n, node_n]
  have m1 : ((p.node (Nd.plain 5)).join at_ p.n no).m = p.m + 1 := by rw [join_m, node_m]
  have nm1 : ((p.node (Nd.plain 5)).join at_ p.n no).name = p.name := rfl
  simp only []
  generalize (p.node (Nd.plain 5)).join at_ p.n no = p1 at *
  have hW : FieldOk (Nd.work (bs (topics m)) 0 1) := field_work (nm_topic m) rfl rfl
  have i2 := s1.inv.node _ hW (by show (4 : Int) ≠ 1; decide) rfl
  have w2 : (p1.node (Nd.work (bs (topics m)) 0 1)).nodes[p.n + 1]! = { Nd.work (bs (topics m)) 0 1 with dflt := -1, tgt := -1 } := by rw [← n1]; exact node_new _
  have a2 : ((p1.node (Nd.work (bs (topics m)) 0 1)).nodes[p.n]!).kind = 5 := by rw [node_old _ (by omega)]; exact hka
  have n2 : (p1.node (Nd.work (bs (topics m)) 0 1)).n = p.n + 2 := by rw [node_n]; omega
  have m2 : (p1.node (Nd.work (bs (topics m)) 0 1)).m = p.m + 1 := by rw [node_m]; exact m1
  have nm2 : (p1.node (Nd.work (bs (topics m)) 0 1)).name = p.name := nm1
  have hnW : need (Nd.work (bs (topics m)) 0 1) = 1 := by unfold need; rw [if_neg (by show ¬ (4 : Int) = 2; decide)]
  rw [hnW] at i2
  generalize p1.node (Nd.work (bs (topics m)) 0 1) = p2 at *
  have i3 := i2.node (Nd.plain 5) (field_plain (.inr (.inl rfl))) (by show (5 : Int) ≠ 1; decide) rfl
  have w3 : ((p2.node (Nd.plain 5)).nodes[p.n + 1]!).kind = 4 := by rw [node_old _ (by omega), w2]; rfl
  have a3 : ((p2.node (Nd.plain 5)).nodes[p.n]!).kind = 5 := by rw [node_old _ (by omega)]; exact a2
  have b3 : ((p2.node (Nd.plain 5)).nodes[p.n + 2]!).kind = 5 := by rw [← n2, node_new]; rfl
  have n3 : (p2.node (Nd.plain 5)).n = p.n + 3 := by rw [node_n]; omega
  have m3 : (p2.node (Nd.plain 5)).m = p.m + 1 := by rw [node_m]; exact m2
  have nm3 : (p2.node (Nd.plain 5)).name = p.name := nm2
  have hn5 : need (Nd.plain 5) = 1 := by unfold need; rw [if_neg (by show ¬ (5 : Int) = 2; decide)]
  rw [hn5, n1, n2] at i3
  generalize p2.node (Nd.plain 5) = p3 at *
  have i4 := i3.join (a := p.n) (b := p.n + 1) (bs (conds (wrap64 (3 + m)))) (by omega) (by omega) (by omega) (.inl a3) (.inr ⟨.inl a3, _, rfl⟩)
  have i5 := i4.join (a := p.n + 1) (b := p.n) no (by rw [join_n]; omega) (by rw [join_n]; omega) (by omega) (.inr (.inr (.inr ⟨by show (p3.nodes[p.n + 1]!).kind ≠ 2; rw [w3]; decide, by simp⟩))) (.inl rfl)
  have a5 : ((((p3.join p.n (p.n + 1 : Nat) (bs (conds (wrap64 (3 + m))))).join (p.n + 1 : Nat) p.n no).nodes[p.n]!).kind) = 5 := a3
  have b5 : ((((p3.join p.n (p.n + 1 : Nat) (bs (conds (wrap64 (3 + m))))).join (p.n + 1 : Nat) p.n no).nodes[p.n + 2]!).kind) = 5 := b3
  have n5 : ((p3.join p.n (p.n + 1 : Nat) (bs (conds (wrap64 (3 + m))))).join (p.n + 1 : Nat) p.n no).n = p.n + 3 := n3
  have m5 : ((p3.join p.n (p.n + 1 : Nat) (bs (conds (wrap64 (3 + m))))).join (p.n + 1 : Nat) p.n no).m = p.m + 3 := by rw [join_m, join_m]; omega
  have nm5 : ((p3.join p.n (p.n + 1 : Nat) (bs (conds (wrap64 (3 + m))))).join (p.n + 1 : Nat) p.n no).name = p.name := nm3
  generalize (p3.join p.n (p.n + 1 : Nat) (bs (conds (wrap64 (3 + m))))).join (p.n + 1 : Nat) p.n no = p5 at *
  have i6 := i5.join (a := p.n) (b := p.n + 2) no (by omega) (by omega) (by omega) (.inl a5) (.inl rfl)
  have i7 := i6.dflt (k := p.n) (j := p5.m) (by rw [join_n]; omega) (.inl a5) (by rw [join_m]; omega) (by rw [join_new])
  refine ⟨⟨i7.mono ?_ ?_, ?_, ?_⟩, ?_, ?_, ?_, nm5⟩
  · intro i _
    by_cases h1 : i = p.n
    · subst h1; simp
    · by_cases h2 : i = p.n + 1
      · subst h2; simp
      · by_cases h3 : i = p.n + 2
        · subst h3; simp
        · simp [h1, h2, h3]
  · rintro i _ ⟨⟨⟨h1 | h1 | h1, h2⟩, h3⟩, h4⟩
    · exact h4 h1
    · exact h2 h1
    · exact h1
  · rw [set_n, join_n]; omega
  · rw [set_other (by omega)]
    show (p5.nodes[p.n + 2]!).kind ≠ 2
    rw [b5]; decide
  · rw [set_n, join_n]; omega
  · rw [set_n, join_n]; omega
  · rw [set_n, set_m, join_n, join_m]; omega
theorem piece_st (h : St p at_) (rings : Bool) (kd m : Int) : St (piece rings kd m p at_).1 (piece rings kd m p at_).2 ∧ Up p (piece rings kd m p at_).1 5 := by
  have hw : ∀ {q : P} {k : Nat}, Up p q k → k ≤ 5 → Up p q 5 := fun h hk => ⟨h.n0, Nat.le_trans h.n1 (by omega), h.m, h.name⟩
  unfold piece
  simp only []
  split
  · exact ⟨(work_st h m).1, hw (work_st h m).2 (by decide)⟩
  split
  · exact parts_st h m 5 5 (by decide) (by decide)
  split
  · exact parts_st h m 6 6 (by decide) (by decide)
  split
  · exact parts_st h m 7 7 (by decide) (by decide)
  split
  · exact ⟨(loop_st h m).1, hw (loop_st h m).2 (by decide)⟩
  · exact ⟨(work_st h m).1, hw (work_st h m).2 (by decide)⟩
theorem start_st : St ⟨bs [112], [Nd.plain 1], []⟩ 0 := by
  refine ⟨⟨by decide, ?_, ?_, ?_, ?_, ?_⟩, by decide, by decide⟩
  · intro i hi
    obtain rfl : i = 0 := by have hi : i < 1 := hi; omega
    exact ⟨fun _ => rfl, fun _ => rfl⟩
  · intro f hf; cases hf
  · intro i hi
    obtain rfl : i = 0 := by have hi : i < 1 := hi; omega
    exact ⟨.inl rfl, fun h => absurd h (by decide), fun _ => ⟨rfl, rfl, rfl⟩, rfl, .inl rfl⟩
  · intro i h0 hi; have hi : i < 1 := hi; omega
  · intro i hi
    obtain rfl : i = 0 := by have hi : i < 1 := hi; omega
    refine ⟨fun _ => rfl, fun h => absurd h (by decide), fun h => absurd h (by decide), fun h => absurd h (by decide), fun h => absurd h (by decide), .inl rfl, fun _ => rfl⟩
theorem pieces_st (rings : Bool) (kinds more : List Int) : ∀ i, St (pieces rings kinds more i).1 (pieces rings kinds more i).2 ∧ (pieces rings kinds more i).1.n ≤ 26 ∧ (pieces rings kinds more i).1.m + 2 ≤ 2 * (pieces rings kinds more i).1.n ∧ (pieces rings kinds more i).1.name = bs [112]
  | 0 => ⟨start_st, by show 1 ≤ 26; decide, by show 0 + 2 ≤ 2 * 1; decide, rfl⟩
  | i + 1 => by
    obtain ⟨h1, h2, h3, h4⟩ := pieces_st rings kinds more i
    unfold pieces
    simp only []
    split
    · rename_i hlt
      obtain ⟨k1, k2⟩ := piece_st h1 rings kinds[i]! (pick more i)
      have := k2.n1
      have := k2.m
      exact ⟨k1, by omega, by omega, k2.name.trans h4⟩
    · exact ⟨h1, h2, h3, h4⟩
/-- Nothing is owed. -/
theorem good_inv (kinds more : List Int) (rings : Bool) : Inv (good kinds more rings) (fun _ => 0) (fun _ => False) ∧ 2 ≤ (good kinds more rings).n ∧ (good kinds more rings).n ≤ 27 ∧ (good kinds more rings).m ≤ 52 ∧ (good kinds more rings).name = bs [112] := by
  obtain ⟨h1, h2, h3, h4⟩ := pieces_st rings kinds more kinds.length
  unfold good
  generalize pieces rings kinds more kinds.length = r at *
  obtain ⟨q, at_⟩ := r
  dsimp only at *
  have hl := h1.lt
  have i1 := h1.inv.node (Nd.plain 2) (field_plain (.inl rfl)) (by show (2 : Int) ≠ 1; decide) rfl
  have hold : (q.node (Nd.plain 2)).nodes[at_]! = q.nodes[at_]! := node_old _ hl
  have i2 := i1.join (a := at_) (b := q.n) no (by rw [node_n]; omega) (by rw [node_n]; omega) h1.inv.pos (.inr (.inr (.inr ⟨by rw [hold]; exact h1.kind, by show 0 < (if at_ = q.n then need _ else if at_ = at_ then 1 else 0); rw [if_neg (Nat.ne_of_lt hl), if_pos rfl]; decide⟩))) (.inl rfl)
  refine ⟨i2.mono ?_ ?_, ?_, ?_, ?_, h4⟩
  · intro i _
    by_cases he : i = at_
    · subst he; simp [need, Nd.plain]; split <;> rfl
    · by_cases h5 : i = q.n
      · subst h5; simp [he, need, Nd.plain]
      · simp [he, h5]
  · rintro i _ ⟨h5 | h5, h6⟩
    · exact h6 h5
    · exact h5
  · have := h1.inv.pos; rw [join_n, node_n]; omega
  · rw [join_n, node_n]; omega
  · rw [join_m, node_m]; omega
end
end Pr
end Go.Proofs.YtlmlhjepolefaaaGreatDoor
namespace Go.Proofs.YtlmlhjepolefaaaGreatDoor
open Go.RowKit

namespace Pr
theorem cond_ok (k : Int) : ((bs (conds k)).size = 0 ∨ condBad (bs (conds k)) = 0) ∧ (bs (conds k)).size ≤ 80 := by
  unfold conds
  have h : (nmb k 12).toNat < 12 := by unfold nmb; omega
  have : ∀ j : Nat, j < 12 → ((bs condL[j]!).size = 0 ∨ condBad (bs condL[j]!) = 0) ∧ (bs condL[j]!).size ≤ 80 := by decide +kernel
  exact this _ h
theorem fl_mem {p : P} {j : Nat} (h : j < p.m) : p.flows[j]! ∈ p.flows := by
  have h' : j < p.flows.length := h
  rw [getElem!_pos p.flows j h']
  exact List.getElem_mem h'
theorem flow_fine {p : P} {f : Fl} (h : FlowOk p f) : flowBad p f = 0 := by
  obtain ⟨⟨a, b, h1, h2, h3, h4, h5⟩, h6⟩ := h
  unfold flowBad
  have hw : (within f.frm 0 (p.n - 1) && within f.til 0 (p.n - 1)) = true := by
    unfold within
    simp only [Bool.and_eq_true, decide_eq_true_eq]
    omega
  rw [hw, if_neg (by decide)]
  rcases h6 with h6 | ⟨h6, k, h7⟩
  · rw [h6, if_pos (by decide)]
  · by_cases h0 : f.cond.size = 0
    · rw [if_pos h0]
    · rw [if_neg h0, if_neg (by omega), h7]
      exact (cond_ok k).1.resolve_left (by rw [← h7]; exact h0)
theorem into_first {p : P} (h : ∀ f ∈ p.flows, FlowOk p f) : cI p 0 = 0 := by
  unfold cI
  rw [List.countP_eq_zero]
  intro f hf
  obtain ⟨a, b, h1, h2, h3, h4, h5⟩ := (h f hf).ends
  rw [h2]
  simp
  omega
theorem no_size : no.size = 0 := rfl
theorem txC_size : txC.size = 6 := rfl
theorem shape_fine {p : P} (h : Inv p (fun _ => 0) (fun _ => False)) {i : Nat} (hi : i < p.n) : shaped p i = true := by
  have hf := h.field i hi
  obtain ⟨o1, o2, o3, o4, o5, _, _⟩ := h.outs i hi
  have hs := h.start i hi
  unfold shaped
  simp only [ins_len, outs_len]
  generalize (p.nodes[i]!) = x at *
  by_cases h1 : x.kind = 1
  · have h0 := hs.1 h1
    subst h0
    have := o1 h1
    rw [into_first h.flow]
    simp [h1]
    omega
  · have h0 : i ≠ 0 := fun e => h1 (hs.2 e)
    have hin := h.ins i (by omega) hi (fun e => e)
    have e1 : (x.kind == 1) = false := by rw [beq_eq_false_iff_ne]; exact h1
    have e2 : (i == 0) = false := by rw [beq_eq_false_iff_ne]; exact h0
    rw [e1, e2, if_neg (by decide), if_neg h1]
    by_cases h2 : x.kind = 2 ∨ x.kind = 3
    · rw [if_pos h2]
      have h2' : x.kind = 2 := by rcases hf.kind with e | e | e | e | e | e <;> omega
      have := o2 h2'
      simp [hin, this]
    · rw [if_neg h2]
      by_cases h4 : x.kind = 4
      · rw [if_pos h4]
        rcases hf.caught with hc | ⟨_, hc⟩
        · have := o3 h4 hc
          have hb : cO p i = 1 := by omega
          rw [hc, no_size, hb]
          simp [hin]
        · have hne : x.caught ≠ no := by rw [hc]; exact txC_ne
          have := (o4 h4 hne).1
          have hb : cO p i = 2 := by omega
          have hsz : x.caught.size = 6 := by rw [hc]; rfl
          rw [hsz, hb]
          simp [hin]
      · rw [if_neg h4]
        have h5 : x.kind = 5 ∨ x.kind = 6 ∨ x.kind = 7 := by rcases hf.kind with e | e | e | e | e | e <;> omega
        rw [if_pos h5]
        have := o5 h5
        simp [hin]
        omega
theorem nm_txC : nm txC = true := by decide +kernel
theorem node_fine {p : P} (h : Inv p (fun _ => 0) (fun _ => False)) {i : Nat} (hi : i < p.n) : nodeBad p i = 0 := by
  have hf := h.field i hi
  have ho := h.outs i hi
  unfold nodeBad
  rw [shape_fine h hi]
  have hD : (p.nodes[i]!).dflt ≠ -1 → ((p.nodes[i]!).kind = 5 ∨ (p.nodes[i]!).kind = 7) ∧ has (outsL p i) (p.nodes[i]!).dflt = true := by
    intro hne
    rcases ho.dflt with e | ⟨hk, j, hj, e, hfr⟩
    · exact absurd e hne
    · exact ⟨hk, by rw [e]; exact has_of hj hfr⟩
  have hT : (p.nodes[i]!).caught ≠ no → has (outsL p i) (p.nodes[i]!).tgt = true := by
    intro hne
    have hk4 : (p.nodes[i]!).kind = 4 := by
      rcases hf.caught with e | ⟨e, _⟩
      · exact absurd e hne
      · exact e
    obtain ⟨_, j, hj, e, hfr⟩ := ho.wk1 hk4 hne
    rw [e]; exact has_of hj hfr
  have hto := ho.tgt
  simp only []
  generalize has (outsL p i) (p.nodes[i]!).dflt = bd at *
  generalize has (outsL p i) (p.nodes[i]!).tgt = bt at *
  generalize (p.nodes[i]!) = x at *
  clear ho
  have c3 : (x.kind == 3) = false := by rw [beq_eq_false_iff_ne]; rcases hf.kind with e | e | e | e | e | e <;> omega
  have hcs : x.code.size = 0 := by rw [hf.code]; rfl
  by_cases h4 : x.kind = 4
  · have e4 : (x.kind == 4) = true := by rw [beq_iff_eq]; exact h4
    obtain ⟨w1, w2, w3⟩ := hf.wk h4
    have hdf : x.dflt = -1 := by
      by_cases e : x.dflt = -1
      · exact e
      · have := (hD e).1; omega
    have e5 : (x.dflt == -1) = true := by rw [beq_iff_eq]; exact hdf
    rw [if_neg (by decide)]
    rcases hf.caught with hc | ⟨_, hc⟩
    · have et : (x.tgt == -1) = true := by rw [beq_iff_eq]; exact hto hc
      have hsz : x.caught.size = 0 := by rw [hc]; rfl
      simp [e4, w1, w2, w3, c3, hcs, hsz, e5, et]
    · have hne : x.caught ≠ no := by rw [hc]; exact txC_ne
      have hsz : x.caught.size = 6 := by rw [hc]; rfl
      have hnm : nm x.caught = true := by rw [hc]; exact nm_txC
      have := hT hne
      simp [e4, w1, w2, w3, c3, hcs, hsz, e5, hnm, this]
  · have e4 : (x.kind == 4) = false := by rw [beq_eq_false_iff_ne]; exact h4
    obtain ⟨w1, w2, w3⟩ := hf.nowk h4
    have hts : x.topic.size = 0 := by rw [w1]; rfl
    have hc : x.caught = no := by
      rcases hf.caught with e | ⟨e, _⟩
      · exact e
      · exact absurd e h4
    have hsz : x.caught.size = 0 := by rw [hc]; rfl
    have et : (x.tgt == -1) = true := by rw [beq_iff_eq]; exact hto hc
    rw [if_neg (by decide)]
    by_cases hdf : x.dflt = -1
    · have e5 : (x.dflt == -1) = true := by rw [beq_iff_eq]; exact hdf
      simp [e4, hts, w2, w3, c3, hcs, hsz, e5, et]
    · obtain ⟨hk, hb⟩ := hD hdf
      have eg : (x.kind == 5 || x.kind == 7) = true := by rw [Bool.or_eq_true, beq_iff_eq, beq_iff_eq]; exact hk
      simp [e4, hts, w2, w3, c3, hcs, hsz, et, eg, hb]
theorem check_of {p : P} (h : Inv p (fun _ => 0) (fun _ => False)) (h2 : 2 ≤ p.n) (h30 : p.n ≤ 30) (h60 : p.m ≤ 60) (hn : nm p.name = true) : check p = (0, none) := by
  unfold check
  rw [hn, if_neg (by decide)]
  have hw : (within p.n 2 30 && decide (p.m ≤ 60)) = true := by
    unfold within
    simp only [Bool.and_eq_true, decide_eq_true_eq]
    omega
  rw [hw, if_neg (by decide)]
  have f1 : (List.range p.m).find? (fun j => !(flowBad p p.flows[j]! == 0)) = none := by
    rw [List.find?_eq_none]
    intro j hj
    rw [flow_fine (h.flow _ (fl_mem (List.mem_range.1 hj)))]
    decide
  have f2 : (List.range p.n).find? (fun i => !(nodeBad p i == 0)) = none := by
    rw [List.find?_eq_none]
    intro i hi
    rw [node_fine h (List.mem_range.1 hi)]
    decide
  rw [f1]
  simp only []
  rw [f2]
theorem nm_p : nm (bs [112]) = true := by decide +kernel
theorem check_good (kinds more : List Int) (rings : Bool) : check (good kinds more rings) = (0, none) := by
  obtain ⟨h1, h2, h3, h4, h5⟩ := good_inv kinds more rings
  exact check_of h1 h2 (by omega) (by omega) (by rw [h5]; exact nm_p)
end Pr
end Go.Proofs.YtlmlhjepolefaaaGreatDoor
namespace Go.Proofs.YtlmlhjepolefaaaGreatDoor
open Go.RowKit

section
variable {α : Type} {κ : Cs α} {w w' : World} {base n c : Nat} {e : TypeId} {A : Option Addr} {l : List α}
theorem OwnK.block (h : OwnK κ w base e A n c l) {a : Addr} (ha : A = some a) : base ≤ a.block ∧ a.block < w.heap.size := by
  rcases h.2.2 with ⟨hv, h0⟩ | ⟨g, cap, cur, hv, hg, hh, _⟩
  · injection hv with h1; subst h1; cases ha
  · injection hv with h1
    subst h1
    obtain rfl := Option.some.inj ha
    exact ⟨hg, blk_lt hh⟩
/-- Kept, where what changes is another block. -/
theorem OwnK.kept (h : OwnK κ w base e A n c l) {row : Option Nat} (hg : w.grownBy w' row) (hne : ∀ a, A = some a → row ≠ some a.block) : OwnK κ w' base e A n c l :=
  ⟨h.1, World.ownsRow.kept h.2 hg (by
    rcases h.2.2 with ⟨hv, h0⟩ | ⟨g, cap, cur, hv, _⟩
    · injection hv with h1; subst h1; exact .inl rfl
    · injection hv with h1
      subst h1
      exact .inr (fun e => hne _ rfl e.symm))⟩
/-- Where an append goes: its block, or a new one. -/
theorem grew_block {A' : Option Addr} {n' c' : Nat} (h : Grew w w' (.slice A n c) (.slice A' n' c')) {κ' : Cs α} {l' : List α} {base' : Nat} (ho : OwnK κ' w' base' e A' n' c' l') {a' : Addr} (ha : A' = some a') :
    (∃ a, A = some a ∧ a.block = a'.block) ∨ w.heap.size ≤ a'.block := by
  have key : (Value.slice A' n' c').ownBlock = some a'.block := by
    rcases ho.2.2 with ⟨hv, h0⟩ | ⟨g, cap, cur, hv, _⟩
    · injection hv with h1; subst h1; cases ha
    · injection hv with h1; subst h1; obtain rfl := Option.some.inj ha; rfl
  rcases h.block _ key with h1 | h1
  · refine .inl ?_
    cases A with
    | none => cases h1
    | some a =>
      exact ⟨a, rfl, Option.some.inj h1⟩
  · exact .inr h1
end
section
variable {α : Type} {κ : Cs α} {P : Program}
theorem step_append_k {ops : Array Oper} {o : Oper} {a : Act} {K : Act → World → Prop} {Q : Exit → Act → World → Prop} {E : Prop} (hgd : o.guard = none) (s x : Operand) (t e : TypeId) (i : TypeInfo) (z : Value) (bytes : Nat)
    (ht : P.underlying t = some (.slice e)) (hi : P.info? e = some i) (hz : i.zero = some z) (hsize : i.size = κ.k) (hby : i.bytes = bytes) (hzs : z.cells.size = κ.k)
    (ho : o.op = .call { callee := .builtin .append, args := #[s, x], argTypes := #[t, t] })
    (w : World) (base B : Nat) (A : Option Addr) (n c : Nat) (l : List α) (ad : Addr) (v : α) (hs : a.eval s = .slice A n c) (hown : OwnK κ w base e A n c l)
    (hx : a.eval x = .slice (some ad) 1 1) (hr : KRow κ w B (some ad) 1 [v]) (hn : n ≤ 1000000) (hb : bytes ≤ 1000) (hbase : base ≤ w.heap.size)
    (h : ∀ A' c' w', OwnK κ w' base e A' (n + 1) c' (l ++ [v]) → Grew w w' (.slice A n c) (.slice A' (n + 1) c') → K (a.put o.dst (.slice A' (n + 1) c')) w') :
    if Region.wanted o (yielded ops a.tmps) = true then Oper.wp P o a w K Q else E := by
  have hw : Region.wanted o (yielded ops a.tmps) = true := by simp [Region.wanted, hgd]
  rw [if_pos hw]
  obtain ⟨b, off, he, _, hc⟩ := hr.2 (by omega)
  obtain rfl := Option.some.inj he
  have hbb : (n + 1) * bytes ≤ 140737488355328 := Nat.le_trans (Nat.mul_le_mul (Nat.succ_le_succ hn) hb) (by decide)
  obtain ⟨v', w', hrun, h1, h2, _, h3⟩ := Go.run_append_own_at (P := P) (w := w) base t o.type e i z κ.k bytes ht hi hz hsize hby hzs hown.1 (.slice A n c) n (l.flatMap κ.cs) hown.2 ⟨b, off, none⟩ 1 1 ([v].flatMap κ.cs) hr.1 (fun j u hu => (congrArg w.cell? (addr_add b off j)).trans (hc j u hu)) (Cs.flat_one κ [v]) (by unfold maxLen; omega) hbb hbase
  obtain ⟨A', c', rfl, _⟩ := own_form h1
  unfold Oper.wp execOp
  simp only [ho, resolve, invoke, builtin, Sem.run_bind, Sem.run_pure, Result.andThen_ok, List.map_toArray, List.map_cons, List.map_nil, hs, hx, hrun]
  refine h A' c' w' ⟨hown.1, by rw [List.flatMap_append]; exact h1⟩ ⟨h2, fun g hg => ?_⟩
  rcases h3 with h3 | h3
  · exact .inl (h3.symm.trans hg)
  · rw [h3] at hg
    obtain rfl := Option.some.inj hg
    exact .inr (Nat.le_refl _)
theorem append_k {ops : Array Oper} {rest : List Oper} {o : Oper} {a : Act} {Q : Exit → Act → World → Prop} (hgd : o.guard = none) (s x : Operand) (t e : TypeId) (i : TypeInfo) (z : Value) (bytes : Nat)
    (ht : P.underlying t = some (.slice e)) (hi : P.info? e = some i) (hz : i.zero = some z) (hsize : i.size = κ.k) (hby : i.bytes = bytes) (hzs : z.cells.size = κ.k)
    (ho : o.op = .call { callee := .builtin .append, args := #[s, x], argTypes := #[t, t] })
    (w : World) (base B : Nat) (A : Option Addr) (n c : Nat) (l : List α) (ad : Addr) (v : α) (hs : a.eval s = .slice A n c) (hown : OwnK κ w base e A n c l)
    (hx : a.eval x = .slice (some ad) 1 1) (hr : KRow κ w B (some ad) 1 [v]) (hn : n ≤ 1000000) (hb : bytes ≤ 1000) (hbase : base ≤ w.heap.size)
    (h : ∀ A' c' w', OwnK κ w' base e A' (n + 1) c' (l ++ [v]) → Grew w w' (.slice A n c) (.slice A' (n + 1) c') → wpList P ops Q rest (a.put o.dst (.slice A' (n + 1) c')) w') :
    wpList P ops Q (o :: rest) a w := by
  have hbb : (n + 1) * bytes ≤ 140737488355328 := Nat.le_trans (Nat.mul_le_mul (Nat.succ_le_succ hn) hb) (by decide)
  refine append_row hgd s x t ho e i z κ.k bytes ht hi hz hsize hby hzs hown.1 base _ n (l.flatMap κ.cs) hs hown.2 B (some ad) 1 1 ([v].flatMap κ.cs) hx (fun h => by cases h) hr (Cs.flat_one κ [v]) (by unfold maxLen; omega) hbb hbase fun v' w' h1 h2 h3 => ?_
  obtain ⟨A', c', rfl, _⟩ := own_form h1
  refine h A' c' w' ⟨hown.1, by rw [List.flatMap_append]; exact h1⟩ ⟨h2, fun g hg => ?_⟩
  rcases h3 with h3 | h3
  · exact .inl (h3.symm.trans hg)
  · rw [h3] at hg
    obtain rfl := Option.some.inj hg
    exact .inr (Nat.le_refl _)
end
end Go.Proofs.YtlmlhjepolefaaaGreatDoor
