/- Package token: stepped. Mathematics of TokenMany: a fork of so many ways, tokens at its Work. -/
import Derived.Test.YtlmlhjepolefaaaGreatDoorZjY
import Derived.Test.YtlmlhjepolefaaaGreatDoorZkY
import Derived.Test.YtlmlhjepolefaaaGreatDoorYTokenWaits5
namespace Go.Proofs.YtlmlhjepolefaaaGreatDoor
open Go.RowKit

namespace Pr
theorem finish_lt {other : Int} {m : Nat} {acc : List Nat} (h : ∀ f ∈ acc, f < m) : ∀ f ∈ (finish other m acc).2, f < m := by
  unfold finish
  split
  · exact h
  · split
    · intro f hf
      simp only [List.mem_singleton] at hf
      omega
    · intro f hf; cases hf
theorem choose_lt {b : Bd} {other : Int} {most : Nat} : ∀ (l acc : List Nat), (∀ f ∈ l, f < b.p.m) → (∀ f ∈ acc, f < b.p.m) → ∀ f ∈ (choose b other most l acc).2, f < b.p.m
  | [], acc, _, h => finish_lt h
  | x :: l, acc, hl, h => by
    rw [choose]
    split
    · exact finish_lt h
    · split
      · exact choose_lt l acc (fun f hf => hl f (by simp [hf])) h
      · split
        · intro f hf; cases hf
        · refine choose_lt l _ (fun f hf => hl f (by simp [hf])) ?_
          intro f hf
          split at hf
          · rcases List.mem_append.1 hf with hf | hf
            · exact h f hf
            · simp only [List.mem_singleton] at hf
              subst hf
              exact hl _ (by simp)
          · exact h f hf
theorem finish_len (other : Int) (m : Nat) (acc : List Nat) : (finish other m acc).2.length ≤ acc.length + 1 := by
  unfold finish
  split
  · simp
  · split <;> simp
theorem choose_len {b : Bd} {other : Int} {most : Nat} : ∀ (l acc : List Nat), (choose b other most l acc).2.length ≤ l.length + acc.length + 1
  | [], acc => by have := finish_len other b.p.m acc; simp only [choose, List.length_nil]; omega
  | x :: l, acc => by
    rw [choose]
    split
    · have := finish_len other b.p.m acc; omega
    · split
      · have := choose_len (b := b) (other := other) (most := most) l acc; simp only [List.length_cons]; omega
      · split
        · simp
        · have := choose_len (b := b) (other := other) (most := most) l (if (opens b.vars b.p.flows[x]!.cond).2 = true then acc ++ [x] else acc)
          have hl : (if (opens b.vars b.p.flows[x]!.cond).2 = true then acc ++ [x] else acc).length ≤ acc.length + 1 := by split <;> simp
          simp only [List.length_cons]
          omega
theorem outWays_lt {b : Bd} {u f : Nat} (h : f ∈ (outWays b u).2) : f < b.p.m := by
  have ho : ∀ f ∈ outsB b.p u, f < b.p.m := fun f h => outsB_lt h
  unfold outWays at h
  dsimp only at h
  split at h
  · cases h
  · split at h
    · split at h
      · exact ho f h
      · exact choose_lt _ _ ho (fun f h => by cases h) f h
    · split at h
      · exact choose_lt _ _ ho (fun f h => by cases h) f h
      · exact ho f h
theorem outWays_len (b : Bd) (u : Nat) : (outWays b u).2.length ≤ b.p.m + 1 := by
  have ho := outsB_len b.p u
  unfold outWays
  dsimp only
  split
  · simp
  · split
    · split
      · simp only []; omega
      · have := choose_len (b := b) (other := b.p.nodes[u]!.dflt) (most := 1) (outsB b.p u) []; simp at this ⊢; omega
    · split
      · have := choose_len (b := b) (other := b.p.nodes[u]!.dflt) (most := (outsB b.p u).length) (outsB b.p u) []; simp at this ⊢; omega
      · simp only []; omega
def BdV.zero : BdV := ⟨⟨#[]⟩, none, 0, 0, none, 0, 0, none, 0, 0, none, 0, 0, 0⟩
def SteppedOut (E : Int → Option Addr) (b : Bd) (i u : Nat) (w : World) (e : Ending) (w' : World) : Prop :=
  (∃ (y : BdV) (ev : Value), e = .returned (.tuple #[y.val, ev]) ∧ SeenBy E ev (outWays b u).1 ∧ ((outWays b u).1 = 0 → BdOwn w' w.heap.size y (moved b (goes b i u) (outWays b u).2))) ∧ Below w.heap.size w w'
end Pr
end Go.Proofs.YtlmlhjepolefaaaGreatDoor
namespace Go.Proofs.YtlmlhjepolefaaaGreatDoor
open Go.RowKit

namespace Pr
def nodesM : List Nd := [Nd.plain 1, Nd.plain 6, Nd.work (bs [116]) 0 1, Nd.plain 2]
def flowsM (v : Nat) : List Fl := [⟨0, 1, no⟩, ⟨2, 3, no⟩] ++ List.replicate v ⟨1, 2, no⟩
def pM (v : Nat) : P := ⟨bs [112], nodesM, flowsM v⟩
def bM (v : Nat) : Nat → Bd
  | 0 => (⟨pM v, [], [], 1⟩ : Bd).put [⟨0, 1, 0, false⟩]
  | j + 1 => (bM v j).put [⟨0, 2, 2, false⟩]
theorem flowsM_snoc (v : Nat) : flowsM (v + 1) = flowsM v ++ [⟨1, 2, no⟩] := by
  unfold flowsM
  rw [List.replicate_succ', ← List.append_assoc]
theorem flowsM_len (v : Nat) : (flowsM v).length = v + 2 := by
  unfold flowsM
  simp
def tksM (j : Nat) : List Tk := ⟨1, 1, 0, false⟩ :: (List.range j).map fun (i : Nat) => ⟨(i : Int) + 2, 2, 2, false⟩
theorem bM_eq (v : Nat) : ∀ j, bM v j = ⟨pM v, [], tksM j, (j : Int) + 2⟩
  | 0 => rfl
  | j + 1 => by
    rw [bM, bM_eq v j]
    unfold Bd.put
    have h1 : tksM j ++ numb ((j : Int) + 2) [⟨0, 2, 2, false⟩] = tksM (j + 1) := by
      unfold tksM
      rw [List.range_succ, List.map_append, numb, numb]
      rfl
    have h2 : (j : Int) + 2 + (([⟨0, 2, 2, false⟩] : List Tk).length : Int) = ((j + 1 : Nat) : Int) + 2 := by
      simp only [List.length_singleton]
      omega
    dsimp only
    rw [h1, h2]
theorem tksM_len (j : Nat) : (tksM j).length = j + 1 := by
  unfold tksM
  simp
theorem tksM_asc (j : Nat) : Asc (tksM j) := by
  unfold Asc tksM
  rw [List.pairwise_cons]
  refine ⟨fun t ht => ?_, ?_⟩
  · obtain ⟨i, _, rfl⟩ := List.mem_map.1 ht
    show (1 : Int) < (i : Int) + 2
    omega
  · rw [List.pairwise_map]
    refine List.Pairwise.imp ?_ (List.pairwise_lt_range (n := j))
    intro a c h
    show (a : Int) + 2 < (c : Int) + 2
    omega
theorem insM : ∀ v, v < 10 → insB (pM v) 1 = [0] := by decide +kernel
theorem outsM : ∀ v, v < 10 → outsB (pM v) 1 = (List.range v).map (· + 2) := by decide +kernel
theorem pM_n (v : Nat) : (pM v).n = 4 := rfl
theorem pM_m (v : Nat) : (pM v).m = v + 2 := flowsM_len v
theorem rdyM (v j : Nat) (hv : v < 10) : Rdy (bM v j) (0 : Nat) := by
  rw [bM_eq]
  refine ⟨0, rfl, by show 0 < (tksM j).length; rw [tksM_len]; omega, rfl, 1, rfl, by show 1 < (pM v).n; rw [pM_n]; decide, by show (6 : Int) ≠ 4; decide, fun _ h => ?_, fun h => ?_⟩
  · have h : 2 ≤ (insB (pM v) ((1 : Nat) : Int)).length := h
    rw [show ((1 : Nat) : Int) = 1 from rfl, insM v hv] at h
    exact absurd h (by decide)
  · have h : (6 : Int) = 7 := h
    exact absurd h (by decide)
theorem left_tail (t : Tk) (l : List Tk) (G : Nat → Bool) (h0 : G 0 = true) (h1 : ∀ k, k < l.length → G (k + 1) = false) : left (t :: l) G = l := by
  unfold left
  rw [List.length_cons, List.range_succ_eq_map, List.filter_cons, h0]
  simp only [Bool.not_true, Bool.false_eq_true, if_false, List.filter_map, List.map_map]
  have hf : (List.range l.length).filter ((fun k => !G k) ∘ Nat.succ) = List.range l.length := by
    rw [List.filter_eq_self]
    intro k hk
    simp [h1 k (List.mem_range.1 hk)]
  rw [hf]
  apply List.ext_getElem
  · simp
  · intro k h2 h3
    simp
    rw [List.getElem?_eq_getElem h3]
    rfl
theorem goesM (v j : Nat) (hv : v < 10) (k : Nat) : goes (bM v j) 0 1 k = decide (k = 0) := by
  have h : goes (bM v j) 0 1 k = ((insB (bM v j).p ((1 : Nat) : Int)).map fun (f : Nat) => fst (atB ((1 : Nat) : Int) (f : Int)) (bM v j).toks).contains (k : Int) := by
    rw [bM_eq]; rfl
  rw [h, bM_eq]
  dsimp only
  rw [show ((1 : Nat) : Int) = 1 from rfl, insM v hv]
  have hf : fst (atB 1 ((0 : Nat) : Int)) (tksM j) = 0 := by
    refine fst_hit (k := 0) (by rw [tksM_len]; omega) rfl (fun i hi => absurd hi (Nat.not_lt_zero i))
  rw [List.map_cons, List.map_nil, hf]
  by_cases e : k = 0
  · subst e; rfl
  · have : ([0] : List Int).contains (k : Int) = false := by
      rw [Bool.eq_false_iff]
      intro h
      simp at h
      exact e (by omega)
    rw [this, decide_eq_false e]
theorem leftM (v j : Nat) (hv : v < 10) : left (bM v j).toks (goes (bM v j) 0 1) = (tksM j).tail := by
  rw [bM_eq] 
  show left (tksM j) (goes ⟨pM v, [], tksM j, (j : Int) + 2⟩ 0 1) = _
  rw [← bM_eq v j]
  refine left_tail _ _ _ (by rw [goesM v j hv]; rfl) (fun k _ => by rw [goesM v j hv]; simp)
theorem outWaysM (v j : Nat) (hv : v < 10) : outWays (bM v j) 1 = (0, (List.range v).map (· + 2)) := by
  have h : outWays (bM v j) 1 = (0, outsB (bM v j).p ((1 : Nat) : Int)) := by
    rw [bM_eq]; rfl
  rw [h, bM_eq]
  dsimp only
  rw [show ((1 : Nat) : Int) = 1 from rfl, outsM v hv]
def mvM (v j : Nat) : Bd := moved (bM v j) (goes (bM v j) 0 1) ((List.range v).map (· + 2))
theorem mvM_len (v j : Nat) (hv : v < 10) : (mvM v j).toks.length = j + v := by
  unfold mvM moved Bd.put
  dsimp only
  rw [List.length_append, numb_len, leftM v j hv]
  unfold come tksM
  simp
theorem mvM_next (v j : Nat) : (mvM v j).next = (j : Int) + 2 + v := by
  unfold mvM moved Bd.put
  dsimp only
  rw [bM_eq]
  unfold come
  simp
theorem bstepM (v j : Nat) (hv : v < 10) : bstep (bM v j) 0 = if 40 < j + v then (stuckAt (bM v j) 0, false, no, 104) else (mvM v j, true, no, 0) := by
  have h0 : (bM v j).toks[0]!.node.toNat = 1 := by rw [bM_eq]; rfl
  have hk : (bM v j).p.nodes[1]!.kind = 6 := by rw [bM_eq]; rfl
  unfold bstep
  dsimp only
  rw [h0, outWaysM v j hv, hk]
  dsimp only
  have hm : moved (bM v j) (goes (bM v j) 0 1) ((List.range v).map (· + 2)) = mvM v j := rfl
  rw [hm, mvM_len v j hv]
  by_cases h : 40 < j + v
  · simp [h]
  · simp [h]
theorem stuckM (v j : Nat) : (stuckAt (bM v j) 0).toks.length = j + 1 ∧ (stuckAt (bM v j) 0).toks[0]!.stuck = true := by
  rw [bM_eq]
  refine ⟨?_, rfl⟩
  unfold stuckAt
  dsimp only
  rw [List.length_modify, tksM_len]
theorem noCond {l : List Fl} (h : ∀ x ∈ l, x.cond = no) (f : Nat) : l[f]!.cond = no := by
  by_cases hf : f < l.length
  · rw [getElem!_pos l f hf]
    exact h _ (List.getElem_mem hf)
  · rw [getElem!_neg l f hf]
    rfl
theorem condM (v f : Nat) : (flowsM v)[f]!.cond = no := by
  refine noCond (fun x hx => ?_) f
  unfold flowsM at hx
  rcases List.mem_append.1 hx with hx | hx
  · rcases List.mem_cons.1 hx with rfl | hx
    · rfl
    · obtain rfl := List.mem_singleton.1 hx
      rfl
  · rw [(List.mem_replicate.1 hx).2]
end Pr
end Go.Proofs.YtlmlhjepolefaaaGreatDoor
