/- Mathematics of processes: what is owed nothing is fine. -/
import Derived.Test.YtjdgloofdafebaaGoY
namespace Go.Proofs.Ytjdgloofdafebaa
open Go.RowKit

namespace Pr
theorem cond_ok (k : Int) : ((bs (conds k)).size = 0 ∨ condBad (bs (conds k)) = 0) ∧ (bs (conds k)).size ≤ 80 := by
  unfold conds
  have h : (nmb k 12).toNat < 12 := by unfold nmb; omega
  have : ∀ j : Nat, j < 12 → ((bs condL[j]!).size = 0 ∨ condBad (bs condL[j]!) = 0) ∧ (bs condL[j]!).size ≤ 80 := by decide +kernel
  exact this _ h
theorem fl_mem {p : P} {j : Nat} (h : j < p.m) : p.flows[j]! ∈ p.flows := by
  have h' : j < p.flows.length := h
  rw [getElem!_pos p.flows j h']
  exact List.getElem_mem h'
theorem flow_fine {p : P} {f : Fl} (h : FlowOk p f) : flowBad p f = 0 := by
  obtain ⟨⟨a, b, h1, h2, h3, h4, h5⟩, h6⟩ := h
  unfold flowBad
  have hw : (within f.frm 0 (p.n - 1) && within f.til 0 (p.n - 1)) = true := by
    unfold within
    simp only [Bool.and_eq_true, decide_eq_true_eq]
    omega
  rw [hw, if_neg (by decide)]
  rcases h6 with h6 | ⟨h6, k, h7⟩
  · rw [h6, if_pos (by decide)]
  · by_cases h0 : f.cond.size = 0
    · rw [if_pos h0]
    · rw [if_neg h0, if_neg (by omega), h7]
      exact (cond_ok k).1.resolve_left (by rw [← h7]; exact h0)
theorem into_first {p : P} (h : ∀ f ∈ p.flows, FlowOk p f) : cI p 0 = 0 := by
  unfold cI
  rw [List.countP_eq_zero]
  intro f hf
  obtain ⟨a, b, h1, h2, h3, h4, h5⟩ := (h f hf).ends
  rw [h2]
  simp
  omega
theorem no_size : no.size = 0 := rfl
theorem txC_size : txC.size = 6 := rfl
theorem shape_fine {p : P} (h : Inv p (fun _ => 0) (fun _ => False)) {i : Nat} (hi : i < p.n) : shaped p i = true := by
  have hf := h.field i hi
  obtain ⟨o1, o2, o3, o4, o5, _, _⟩ := h.outs i hi
  have hs := h.start i hi
  unfold shaped
  simp only [ins_len, outs_len]
  generalize (p.nodes[i]!) = x at *
  by_cases h1 : x.kind = 1
  · have h0 := hs.1 h1
    subst h0
    have := o1 h1
    rw [into_first h.flow]
    simp [h1]
    omega
  · have h0 : i ≠ 0 := fun e => h1 (hs.2 e)
    have hin := h.ins i (by omega) hi (fun e => e)
    have e1 : (x.kind == 1) = false := by rw [beq_eq_false_iff_ne]; exact h1
    have e2 : (i == 0) = false := by rw [beq_eq_false_iff_ne]; exact h0
    rw [e1, e2, if_neg (by decide), if_neg h1]
    by_cases h2 : x.kind = 2 ∨ x.kind = 3
    · rw [if_pos h2]
      have h2' : x.kind = 2 := by rcases hf.kind with e | e | e | e | e | e <;> omega
      have := o2 h2'
      simp [hin, this]
    · rw [if_neg h2]
      by_cases h4 : x.kind = 4
      · rw [if_pos h4]
        rcases hf.caught with hc | ⟨_, hc⟩
        · have := o3 h4 hc
          have hb : cO p i = 1 := by omega
          rw [hc, no_size, hb]
          simp [hin]
        · have hne : x.caught ≠ no := by rw [hc]; exact txC_ne
          have := (o4 h4 hne).1
          have hb : cO p i = 2 := by omega
          have hsz : x.caught.size = 6 := by rw [hc]; rfl
          rw [hsz, hb]
          simp [hin]
      · rw [if_neg h4]
        have h5 : x.kind = 5 ∨ x.kind = 6 ∨ x.kind = 7 := by rcases hf.kind with e | e | e | e | e | e <;> omega
        rw [if_pos h5]
        have := o5 h5
        simp [hin]
        omega
theorem nm_txC : nm txC = true := by decide +kernel
theorem node_fine {p : P} (h : Inv p (fun _ => 0) (fun _ => False)) {i : Nat} (hi : i < p.n) : nodeBad p i = 0 := by
  have hf := h.field i hi
  have ho := h.outs i hi
  unfold nodeBad
  rw [shape_fine h hi]
  have hD : (p.nodes[i]!).dflt ≠ -1 → ((p.nodes[i]!).kind = 5 ∨ (p.nodes[i]!).kind = 7) ∧ has (outsL p i) (p.nodes[i]!).dflt = true := by
    intro hne
    rcases ho.dflt with e | ⟨hk, j, hj, e, hfr⟩
    · exact absurd e hne
    · exact ⟨hk, by rw [e]; exact has_of hj hfr⟩
  have hT : (p.nodes[i]!).caught ≠ no → has (outsL p i) (p.nodes[i]!).tgt = true := by
    intro hne
    have hk4 : (p.nodes[i]!).kind = 4 := by
      rcases hf.caught with e | ⟨e, _⟩
      · exact absurd e hne
      · exact e
    obtain ⟨_, j, hj, e, hfr⟩ := ho.wk1 hk4 hne
    rw [e]; exact has_of hj hfr
  have hto := ho.tgt
  simp only []
  generalize has (outsL p i) (p.nodes[i]!).dflt = bd at *
  generalize has (outsL p i) (p.nodes[i]!).tgt = bt at *
  generalize (p.nodes[i]!) = x at *
  clear ho
  have c3 : (x.kind == 3) = false := by rw [beq_eq_false_iff_ne]; rcases hf.kind with e | e | e | e | e | e <;> omega
  have hcs : x.code.size = 0 := by rw [hf.code]; rfl
  by_cases h4 : x.kind = 4
  · have e4 : (x.kind == 4) = true := by rw [beq_iff_eq]; exact h4
    obtain ⟨w1, w2, w3⟩ := hf.wk h4
    have hdf : x.dflt = -1 := by
      by_cases e : x.dflt = -1
      · exact e
      · have := (hD e).1; omega
    have e5 : (x.dflt == -1) = true := by rw [beq_iff_eq]; exact hdf
    rw [if_neg (by decide)]
    rcases hf.caught with hc | ⟨_, hc⟩
    · have et : (x.tgt == -1) = true := by rw [beq_iff_eq]; exact hto hc
      have hsz : x.caught.size = 0 := by rw [hc]; rfl
      simp [e4, w1, w2, w3, c3, hcs, hsz, e5, et]
    · have hne : x.caught ≠ no := by rw [hc]; exact txC_ne
      have hsz : x.caught.size = 6 := by rw [hc]; rfl
      have hnm : nm x.caught = true := by rw [hc]; exact nm_txC
      have := hT hne
      simp [e4, w1, w2, w3, c3, hcs, hsz, e5, hnm, this]
  · have e4 : (x.kind == 4) = false := by rw [beq_eq_false_iff_ne]; exact h4
    obtain ⟨w1, w2, w3⟩ := hf.nowk h4
    have hts : x.topic.size = 0 := by rw [w1]; rfl
    have hc : x.caught = no := by
      rcases hf.caught with e | ⟨e, _⟩
      · exact e
      · exact absurd e h4
    have hsz : x.caught.size = 0 := by rw [hc]; rfl
    have et : (x.tgt == -1) = true := by rw [beq_iff_eq]; exact hto hc
    rw [if_neg (by decide)]
    by_cases hdf : x.dflt = -1
    · have e5 : (x.dflt == -1) = true := by rw [beq_iff_eq]; exact hdf
      simp [e4, hts, w2, w3, c3, hcs, hsz, e5, et]
    · obtain ⟨hk, hb⟩ := hD hdf
      have eg : (x.kind == 5 || x.kind == 7) = true := by rw [Bool.or_eq_true, beq_iff_eq, beq_iff_eq]; exact hk
      simp [e4, hts, w2, w3, c3, hcs, hsz, et, eg, hb]
theorem check_of {p : P} (h : Inv p (fun _ => 0) (fun _ => False)) (h2 : 2 ≤ p.n) (h30 : p.n ≤ 30) (h60 : p.m ≤ 60) (hn : nm p.name = true) : check p = (0, none) := by
  unfold check
  rw [hn, if_neg (by decide)]
  have hw : (within p.n 2 30 && decide (p.m ≤ 60)) = true := by
    unfold within
    simp only [Bool.and_eq_true, decide_eq_true_eq]
    omega
  rw [hw, if_neg (by decide)]
  have f1 : (List.range p.m).find? (fun j => !(flowBad p p.flows[j]! == 0)) = none := by
    rw [List.find?_eq_none]
    intro j hj
    rw [flow_fine (h.flow _ (fl_mem (List.mem_range.1 hj)))]
    decide
  have f2 : (List.range p.n).find? (fun i => !(nodeBad p i == 0)) = none := by
    rw [List.find?_eq_none]
    intro i hi
    rw [node_fine h (List.mem_range.1 hi)]
    decide
  rw [f1]
  simp only []
  rw [f2]
theorem nm_p : nm (bs [112]) = true := by decide +kernel
theorem check_good (kinds more : List Int) (rings : Bool) : check (good kinds more rings) = (0, none) := by
  obtain ⟨h1, h2, h3, h4, h5⟩ := good_inv kinds more rings
  exact check_of h1 h2 (by omega) (by omega) (by rw [h5]; exact nm_p)
end Pr
end Go.Proofs.Ytjdgloofdafebaa
