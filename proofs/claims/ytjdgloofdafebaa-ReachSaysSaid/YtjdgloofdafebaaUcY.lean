/- Mathematics: nodes that nothing leads to are taken away, one by one; where each flow leads up all go. -/
import Derived.Test.YtjdgloofdafebaaYReachSays5
namespace Go.Proofs.Ytjdgloofdafebaa
open Go.RowKit

namespace Pr
theorem sub_len : ∀ (l G : List Nat), l.Nodup → (∀ x ∈ l, x ∈ G) → l.length ≤ G.length
  | [], _, _, _ => Nat.zero_le _
  | a :: l, G, h, hs => by
    obtain ⟨h1, h2⟩ := List.nodup_cons.1 h
    have ha : a ∈ G := hs a (by simp)
    have := sub_len l (G.erase a) h2 fun x hx => (List.mem_erase_of_ne (by rintro rfl; exact h1 hx)).2 (hs x (by simp [hx]))
    rw [List.length_erase_of_mem ha] at this
    have : 0 < G.length := List.length_pos_of_mem ha
    simp only [List.length_cons]
    omega
theorem set_range {α : Type} (n : Nat) (f : Nat → α) {i : Nat} (v : α) : ((List.range n).map f).set i v = (List.range n).map fun j => if j = i then v else f j := by
  apply List.ext_getElem
  · simp
  · intro k h1 h2
    simp only [List.length_set, List.length_map, List.length_range] at h1
    rw [List.getElem_set]
    by_cases e : i = k
    · subst e; simp
    · have e' : ¬ k = i := fun h => e h.symm
      simp [e, e']
/-- Where the first j flows lead from u; how many of them lead to v. -/
def nxN (p : P) (j u : Nat) : List Nat := ((p.flows.take j).filter fun f => f.frm == (u : Int)).map fun f => f.til.toNat
def wyN (p : P) (j v : Nat) : Nat := (p.flows.take j).countP fun f => f.til == (v : Int)
theorem take_succ (p : P) {j : Nat} (hj : j < p.m) : p.flows.take (j + 1) = p.flows.take j ++ [p.flows[j]!] := by
  have hj' : j < p.flows.length := hj
  rw [List.take_add_one, getElem!_pos p.flows j hj']
  simp [hj']
theorem nxN_succ (p : P) {j : Nat} (hj : j < p.m) (u : Nat) : nxN p (j + 1) u = if (p.flows[j]!).frm = u then nxN p j u ++ [(p.flows[j]!).til.toNat] else nxN p j u := by
  unfold nxN
  rw [take_succ p hj, List.filter_append, List.map_append, List.filter_cons]
  by_cases h : (p.flows[j]!).frm = u
  · rw [if_pos h, if_pos (by rw [h]; simp)]; rfl
  · rw [if_neg h, if_neg (by rw [beq_eq_false_iff_ne.2 h]; simp)]; simp
theorem wyN_succ (p : P) {j : Nat} (hj : j < p.m) (v : Nat) : wyN p (j + 1) v = if (p.flows[j]!).til = v then wyN p j v + 1 else wyN p j v := by
  unfold wyN
  rw [take_succ p hj, List.countP_append]
  generalize p.flows[j]! = f
  by_cases h : f.til = v
  · simp [h]
  · simp [h]
theorem wyN_le (p : P) : ∀ j v, wyN p j v ≤ j := fun j v => by
  unfold wyN
  exact Nat.le_trans List.countP_le_length (by rw [List.length_take]; omega)
/-- Where flows lead from u; how many lead to v. -/
def nx (p : P) (u : Nat) : List Nat := nxN p p.m u
theorem all_flows (p : P) : p.flows.take p.m = p.flows := List.take_of_length_le (Nat.le_refl _)
theorem nx_len (p : P) (u : Nat) : (nx p u).length ≤ p.m := by
  unfold nx nxN
  rw [List.length_map, all_flows]
  exact List.length_filter_le _ _
/-- What leads to v out of those on a list, at least. -/
def outOf (p : P) (G : List Nat) (v : Nat) : Nat := (G.map fun u => (nx p u).count v).sum
theorem nx_count (p : P) (u v : Nat) (h : ∀ f ∈ p.flows, 0 ≤ f.til) : (nx p u).count v = p.flows.countP fun f => f.frm == (u : Int) && f.til == (v : Int) := by
  unfold nx nxN
  rw [all_flows, List.count_eq_countP, List.countP_map, List.countP_filter]
  apply List.countP_congr
  intro f hf
  have := h f hf
  simp only [Function.comp, Bool.and_eq_true, beq_iff_eq]
  constructor
  · rintro ⟨h1, h2⟩; exact ⟨h2, by omega⟩
  · rintro ⟨h1, h2⟩; exact ⟨by omega, h1⟩
theorem outOf_ge (p : P) (v : Nat) (h : ∀ f ∈ p.flows, 0 ≤ f.til) : ∀ G : List Nat, (p.flows.countP fun f => G.any (fun u => f.frm == (u : Int)) && f.til == (v : Int)) ≤ outOf p G v
  | [] => by simp [outOf]
  | u :: G => by
    have ih := outOf_ge p v h G
    have e : outOf p (u :: G) v = (nx p u).count v + outOf p G v := by simp [outOf]
    rw [e, nx_count p u v h]
    refine Nat.le_trans ?_ (Nat.add_le_add_left ih _)
    generalize p.flows = l
    induction l with
    | nil => simp
    | cons f l ih2 =>
      simp only [List.countP_cons, List.any_cons]
      generalize (f.frm == (u : Int)) = x1 at *
      generalize (f.til == (v : Int)) = x2 at *
      generalize (G.any fun u => f.frm == (u : Int)) = x3 at *
      cases x1 <;> cases x2 <;> cases x3 <;> simp at ih2 ⊢ <;> omega
/-- Who is gone, in order; who leads where of those that stay; those dealt with: the first k, and t ways more. -/
structure Kh (p : P) (G : List Nat) (W : Nat → Int) (k t : Nat) : Prop where
  nodup : G.Nodup
  lt : ∀ v ∈ G, v < p.n
  zero : ∀ v, v < p.n → (v ∈ G ↔ W v ≤ 0)
  cnt : ∀ v, v < p.n → W v = (wyN p p.m v : Int) - (outOf p (G.take k) v : Int) - ((if h : k < G.length then ((nx p G[k]).take t).count v else 0 : Nat) : Int)
section
variable {p : P} {G : List Nat} {W : Nat → Int} {k t : Nat}
theorem Kh.len (h : Kh p G W k t) : G.length ≤ p.n := by
  have := sub_len G (List.range p.n) h.nodup fun x hx => List.mem_range.2 (h.lt x hx)
  simpa using this
theorem Kh.start (p : P) : Kh p ((List.range p.n).filter fun v => wyN p p.m v == 0) (fun v => (wyN p p.m v : Int)) 0 0 where
  nodup := List.Pairwise.filter _ List.nodup_range
  lt v hv := List.mem_range.1 (List.mem_filter.1 hv).1
  zero v hv := by
    rw [List.mem_filter, List.mem_range]
    simp only [beq_iff_eq]
    omega
  cnt v _ := by simp [outOf]
/-- One way more. -/
theorem Kh.step (h : Kh p G W k t) (hk : k < G.length) (ht : t < (nx p G[k]).length) (hv : (nx p G[k])[t] < p.n) :
    let v := (nx p G[k])[t]
    Kh p (if W v - 1 = 0 then G ++ [v] else G) (fun x => if x = v then W v - 1 else W x) k (t + 1) := by
  intro v
  have hz := h.zero v hv
  have hin : W v - 1 = 0 → v ∉ G := fun e hm => by have := hz.1 hm; omega
  have key : ∀ G' : List Nat, (∃ L, G' = G ++ L) → ∀ x, x < p.n → (fun x => if x = v then W v - 1 else W x) x = (wyN p p.m x : Int) - (outOf p (G'.take k) x : Int) - ((if h : k < G'.length then ((nx p G'[k]).take (t + 1)).count x else 0 : Nat) : Int) := by
    rintro G' ⟨L, rfl⟩ x hx
    have hk' : k < (G ++ L).length := by simp; omega
    have e1 : (G ++ L)[k] = G[k] := List.getElem_append_left hk
    have e2 : (G ++ L).take k = G.take k := List.take_append_of_le_length (Nat.le_of_lt hk)
    rw [dif_pos hk', e1, e2]
    have hc := h.cnt x hx
    rw [dif_pos hk] at hc
    have e3 : ((nx p G[k]).take (t + 1)).count x = ((nx p G[k]).take t).count x + if x = v then 1 else 0 := by
      rw [List.take_add_one, List.count_append, List.getElem?_eq_getElem ht]
      simp only [Option.toList_some, List.count_singleton]
      have : (v == x) = decide (x = v) := by
        by_cases e : x = v
        · subst e; simp
        · have : ¬ v = x := fun h => e h.symm
          simp [e, this]
      rw [this]
      by_cases e : x = v <;> simp [e]
    rw [e3]
    simp only []
    by_cases e : x = v
    · subst e
      simp only [if_true]
      omega
    · simp only [e, if_false]
      omega
  by_cases hw : W v - 1 = 0
  · rw [if_pos hw]
    refine ⟨?_, ?_, ?_, key _ ⟨[v], rfl⟩⟩
    · rw [List.nodup_append]
      refine ⟨h.nodup, by simp, ?_⟩
      intro a ha b hb
      rw [List.mem_singleton] at hb
      rintro rfl
      exact hin hw (hb ▸ ha)
    · intro x hx
      rw [List.mem_append, List.mem_singleton] at hx
      rcases hx with hx | rfl
      · exact h.lt x hx
      · exact hv
    · intro x hx
      rw [List.mem_append, List.mem_singleton]
      by_cases e : x = v
      · simp [e, hw]
      · simp [e, h.zero x hx]
  · rw [if_neg hw]
    refine ⟨h.nodup, h.lt, ?_, key _ ⟨[], by simp⟩⟩
    intro x hx
    by_cases e : x = v
    · simp only [e, if_true]
      constructor
      · intro hm; have := hz.1 hm; omega
      · intro hl; exact hz.2 (by omega)
    · simp [e, h.zero x hx]
theorem Kh.step2 (h : Kh p G W k t) {u v : Nat} (hu : G[k]? = some u) (ht : (nx p u)[t]? = some v) (hv : v < p.n) :
    Kh p (if W v - 1 = 0 then G ++ [v] else G) (fun x => if x = v then W v - 1 else W x) k (t + 1) := by
  obtain ⟨hk, rfl⟩ := List.getElem?_eq_some_iff.1 hu
  obtain ⟨ht', rfl⟩ := List.getElem?_eq_some_iff.1 ht
  exact h.step hk ht' hv
theorem outOf_le (p : P) (v : Nat) : ∀ G : List Nat, outOf p G v ≤ G.length * p.m
  | [] => by simp [outOf]
  | u :: G => by
    have ih := outOf_le p v G
    have e : outOf p (u :: G) v = (nx p u).count v + outOf p G v := by simp [outOf]
    have := nx_len p u
    have := List.count_le_length (a := v) (l := nx p u)
    rw [e, List.length_cons, Nat.succ_mul]
    omega
theorem Kh.bounds (h : Kh p G W k t) {v : Nat} (hv : v < p.n) (hn : p.n ≤ 100000) (hm : p.m ≤ 100000) : -10000100000 ≤ W v ∧ W v ≤ 100000 := by
  have hc := h.cnt v hv
  have h1 := outOf_le p v (G.take k)
  have h2 : (G.take k).length ≤ 100000 := by
    have := h.len
    rw [List.length_take]
    omega
  have h3 : (G.take k).length * p.m ≤ 100000 * 100000 := Nat.mul_le_mul h2 hm
  have h4 := wyN_le p p.m v
  have h5 : (if h : k < G.length then ((nx p G[k]).take t).count v else 0) ≤ 100000 := by
    split
    · rename_i hk
      have := List.count_le_length (a := v) (l := (nx p G[k]).take t)
      have := nx_len p G[k]
      rw [List.length_take] at *
      omega
    · omega
  omega
theorem nx_lt {r : Nat → Nat} (hr : Rk p r) (u : Nat) : ∀ v ∈ nx p u, v < p.n := by
  intro v hv
  unfold nx nxN at hv
  rw [all_flows] at hv
  obtain ⟨f, hf, rfl⟩ := List.mem_map.1 hv
  obtain ⟨a, b, _, h2, _, h4, _⟩ := hr f (List.mem_filter.1 hf).1
  rw [h2]
  simpa using h4
/-- One node is dealt with. -/
theorem Kh.next (h : Kh p G W k t) (hk : k < G.length) (ht : (nx p G[k]).length ≤ t) : Kh p G W (k + 1) 0 where
  nodup := h.nodup
  lt := h.lt
  zero := h.zero
  cnt v hv := by
    have := h.cnt v hv
    rw [dif_pos hk, List.take_of_length_le ht] at this
    have e : outOf p (G.take (k + 1)) v = outOf p (G.take k) v + (nx p G[k]).count v := by
      unfold outOf
      rw [List.take_add_one, List.map_append, List.sum_append, List.getElem?_eq_getElem hk]
      simp
    have e2 : ((if h : k + 1 < G.length then ((nx p G[k + 1]).take 0).count v else 0 : Nat) : Int) = 0 := by split <;> simp
    rw [e2, e, this]
    omega
/-- All are gone in the end. -/
theorem Kh.all (h : Kh p G W k 0) (hk : k = G.length) {r : Nat → Nat} (hr : Rk p r) : p.n ≤ G.length := by
  subst hk
  have hpos : ∀ f ∈ p.flows, 0 ≤ f.til := fun f hf => by
    obtain ⟨a, b, _, h2, _⟩ := hr f hf
    omega
  have key : ∀ d v, r v = d → v < p.n → v ∈ G := by
    intro d
    induction d using Nat.strongRecOn with
    | ind d ih =>
      rintro v rfl hv
      rw [h.zero v hv]
      have hc := h.cnt v hv
      rw [dif_neg (Nat.lt_irrefl _), List.take_length] at hc
      have hge := outOf_ge p v hpos G
      have e : wyN p p.m v = p.flows.countP fun f => G.any (fun u => f.frm == (u : Int)) && f.til == (v : Int) := by
        unfold wyN
        rw [all_flows]
        apply List.countP_congr
        intro f hf
        constructor
        · intro h1
          obtain ⟨a, b, ha, hb, han, hbn, hrk⟩ := hr f hf
          have hbv : b = v := by rw [beq_iff_eq, hb] at h1; omega
          subst hbv
          have := ih (r a) hrk a rfl han
          rw [Bool.and_eq_true, List.any_eq_true]
          exact ⟨⟨a, this, by rw [ha]; simp⟩, h1⟩
        · intro h1
          rw [Bool.and_eq_true] at h1
          exact h1.2
      rw [← e] at hge
      simp only [Int.natCast_zero] at hc
      omega
  have := sub_len (List.range p.n) G List.nodup_range fun x hx => key _ x rfl (List.mem_range.1 hx)
  simpa using this
end
end Pr
end Go.Proofs.Ytjdgloofdafebaa
