/- Mathematics: the topics of processes out of few numbers are three at most, each told once. -/
import Derived.Test.YtjababmmcejgdaaUc
import Derived.Test.YtjababmmcejgdaaUb
namespace Go.Proofs.Ytjababmmcejgdaa
open Go.RowKit

namespace Pr
theorem sub_lenB {α : Type} [BEq α] [LawfulBEq α] : ∀ (l G : List α), l.Nodup → (∀ x ∈ l, x ∈ G) → l.length ≤ G.length
  | [], _, _, _ => Nat.zero_le _
  | a :: l, G, h, hs => by
    obtain ⟨h1, h2⟩ := List.nodup_cons.1 h
    have ha : a ∈ G := hs a (by simp)
    have := sub_lenB l (G.erase a) h2 fun x hx => (List.mem_erase_of_ne (by rintro rfl; exact h1 hx)).2 (hs x (by simp [hx]))
    rw [List.length_erase_of_mem ha] at this
    have : 0 < G.length := List.length_pos_of_mem ha
    simp only [List.length_cons]
    omega
/-- Each node's topic is none, or one of the three. -/
def Tp (p : P) : Prop := ∀ x ∈ p.nodes, x.topic = no ∨ ∃ k : Int, x.topic = bs (topics k)
section
variable {p : P}
theorem Tp.node (h : Tp p) {x : Nd} (hx : x.topic = no ∨ ∃ k : Int, x.topic = bs (topics k)) : Tp (p.node x) := by
  intro y hy
  have hy' : y ∈ p.nodes ++ [{ x with dflt := -1, tgt := -1 }] := hy
  rw [List.mem_append, List.mem_singleton] at hy'
  rcases hy' with hy' | rfl
  · exact h y hy'
  · exact hx
theorem Tp.join (h : Tp p) (a b : Int) (c : ByteArray) : Tp (p.join a b c) := h
theorem Tp.set (h : Tp p) (k : Nat) (f : Nd → Nd) (hf : ∀ x, (f x).topic = x.topic) : Tp (p.set k f) := by
  intro y hy
  have hy' : y ∈ p.nodes.modify k f := hy
  obtain ⟨i, hi, rfl⟩ := List.getElem_of_mem hy'
  rw [List.getElem_modify]
  have hi' : i < p.nodes.length := by simpa using hi
  split
  · rw [hf]; exact h _ (List.getElem_mem hi')
  · exact h _ (List.getElem_mem hi')
theorem Tp.wk (h : Tp p) (k a b : Int) : Tp (p.node (Nd.work (bs (topics k)) a b)) := h.node (.inr ⟨k, rfl⟩)
theorem Tp.pl (h : Tp p) (k : Int) : Tp (p.node (Nd.plain k)) := h.node (.inl rfl)
theorem work_tp (h : Tp p) (at_ : Nat) (m : Int) : Tp (work p at_ m).1 := by
  unfold work
  simp only []
  split
  · exact ((((((h.wk _ _ _).join _ _ _).pl _).set _ _ fun _ => by rfl).join _ _ _).set _ _ fun _ => by rfl)
  · exact (h.wk _ _ _).join _ _ _
theorem way_tp (h : Tp p) (a b : Nat) (m open_ : Int) (i : Nat) : Tp (way a b m open_ i p) := by
  have hq : Tp (if nmb (m / 2 ^ i) 2 = 0 then (p.node (Nd.work (bs (topics (wrap64 (m + i)))) i 2)).join p.n b no else p) := by
    split
    · exact (h.wk _ _ _).join _ _ _
    · exact h
  unfold way
  simp only []
  split
  · exact (hq.join _ _ _).set _ _ fun _ => by rfl
  · exact hq.join _ _ _
theorem ways_tp (h : Tp p) (a b : Nat) (m open_ : Int) : ∀ i, Tp (ways a b m open_ i p)
  | 0 => h
  | i + 1 => way_tp (ways_tp h a b m open_ i) a b m open_ i
theorem parts_tp (h : Tp p) (at_ : Nat) (m open_ shut : Int) : Tp (parts p at_ m open_ shut).1 := by
  unfold parts
  simp only []
  exact ways_tp (((h.pl _).join _ _ _).pl _) _ _ _ _ _
theorem loop_tp (h : Tp p) (at_ : Nat) (m : Int) : Tp (loop p at_ m).1 := by
  unfold loop
  simp only []
  exact (((((((h.pl _).join _ _ _).wk _ _ _).pl _).join _ _ _).join _ _ _).join _ _ _).set _ _ fun _ => by rfl
theorem pieces_tp (rings : Bool) (kinds more : List Int) : ∀ i, Tp (pieces rings kinds more i).1
  | 0 => fun x hx => by
    have hx' : x ∈ [Nd.plain 1] := hx
    obtain rfl := List.mem_singleton.1 hx'
    exact .inl rfl
  | i + 1 => by
    have h := pieces_tp rings kinds more i
    unfold pieces
    simp only []
    split
    · unfold piece
      simp only []
      split
      · exact work_tp h _ _
      split
      · exact parts_tp h _ _ _ _
      split
      · exact parts_tp h _ _ _ _
      split
      · exact parts_tp h _ _ _ _
      split
      · exact loop_tp h _ _
      · exact work_tp h _ _
    · exact h
theorem good_tp (kinds more : List Int) (rings : Bool) : Tp (good kinds more rings) := by
  have h := pieces_tp rings kinds more kinds.length
  unfold good
  simp only []
  exact (h.pl _).join _ _ _
theorem topics_in (k : Int) : topics k ∈ topicL := by
  unfold topics
  have h : (nmb k 3).toNat < topicL.length := by unfold nmb; show _ < 3; omega
  rw [getElem!_pos topicL _ h]
  exact List.getElem_mem h
theorem tp_size (h : Tp p) : ∀ x ∈ p.nodes, x.topic.size ≤ maxLen := by
  intro x hx
  rcases h x hx with e | ⟨k, e⟩
  · rw [e]; decide
  · rw [e]
    have : ∀ l ∈ topicL, (bs l).size ≤ 5 := by decide
    have := this _ (topics_in k)
    unfold maxLen
    omega
end
/-- Each once. -/
theorem tpsN_nodup (p : P) : ∀ j, j ≤ p.n → ((tpsN p j).map fun t => t.data.toList).Nodup
  | 0, _ => by simp [tpsN]
  | j + 1, h => by
    have ih := tpsN_nodup p j (by omega)
    rw [tpsN_succ p (by omega)]
    unfold tpsF
    split
    · split
      · exact ih
      · rename_i hon
        rw [List.map_append, List.nodup_append]
        refine ⟨ih, by simp, ?_⟩
        intro a ha b hb
        obtain ⟨y, hy, rfl⟩ := List.mem_map.1 ha
        rw [List.map_singleton, List.mem_singleton] at hb
        subst hb
        intro e
        apply hon
        unfold onL
        rw [List.any_eq_true]
        exact ⟨y, hy, by rw [beq_iff_eq]; exact e⟩
    · exact ih
theorem tpsN_mem (p : P) : ∀ j, j ≤ p.n → ∀ t ∈ tpsN p j, ∃ x ∈ p.nodes, x.kind = 4 ∧ x.topic = t
  | 0, _, t, ht => by simp [tpsN] at ht
  | j + 1, h, t, ht => by
    have ih := tpsN_mem p j (by omega)
    have hj : j < p.nodes.length := h
    rw [tpsN_succ p (by omega)] at ht
    unfold tpsF at ht
    split at ht
    · rename_i h4
      split at ht
      · exact ih t ht
      · rw [List.mem_append, List.mem_singleton] at ht
        rcases ht with ht | rfl
        · exact ih t ht
        · refine ⟨_, ?_, h4, rfl⟩
          rw [getElem!_pos p.nodes j hj]
          exact List.getElem_mem hj
    · exact ih t ht
theorem nm_no : nm no = false := by decide +kernel
theorem good_few (kinds more : List Int) (rings : Bool) : (tpsN (good kinds more rings) (good kinds more rings).n).length ≤ 3 := by
  obtain ⟨h1, _⟩ := good_inv kinds more rings
  have ht := good_tp kinds more rings
  generalize good kinds more rings = p at *
  have h := sub_lenB ((tpsN p p.n).map fun t => t.data.toList) topicL (tpsN_nodup p p.n (Nat.le_refl _)) fun t hm => by
    obtain ⟨y, hy, rfl⟩ := List.mem_map.1 hm
    obtain ⟨x, hx, h4, rfl⟩ := tpsN_mem p p.n (Nat.le_refl _) y hy
    obtain ⟨i, hi, rfl⟩ := List.getElem_of_mem hx
    have hf := h1.field i hi
    have hi' : i < p.nodes.length := hi
    rw [getElem!_pos p.nodes i hi'] at hf
    rcases ht _ hx with e | ⟨k, e⟩
    · have := (hf.wk h4).1
      rw [e, nm_no] at this
      cases this
    · rw [e]
      have : (bs (topics k)).data.toList = topics k := rfl
      rw [this]
      exact topics_in k
  rw [List.length_map] at h
  exact h
end Pr
end Go.Proofs.Ytjababmmcejgdaa
