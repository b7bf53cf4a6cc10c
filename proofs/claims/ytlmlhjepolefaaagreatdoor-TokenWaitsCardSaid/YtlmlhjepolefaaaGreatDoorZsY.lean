/- Mathematics of TokenWaits: an inclusive fork, Works, an inclusive join. -/
import Derived.Test.YtlmlhjepolefaaaGreatDoorYTokenWaits15
import Derived.Test.YtlmlhjepolefaaaGreatDoorZgY
namespace Go.Proofs.YtlmlhjepolefaaaGreatDoor
open Go.RowKit

namespace Pr
def wkW : Nd := Nd.work (bs [116]) 0 1
def nodesW0 (j : Nat) : List Nd := [Nd.plain 1, Nd.plain 7] ++ List.replicate j wkW
def nodesW (v : Nat) : List Nd := nodesW0 v ++ [Nd.plain 7, Nd.plain 2]
def flowsW0 (j : Nat) : List Fl := [⟨0, 1, no⟩] ++ (List.range j).map fun (i : Nat) => ⟨1, 2 + (i : Int), no⟩
def flowsW1 (v j : Nat) : List Fl := flowsW0 v ++ (List.range j).map fun (i : Nat) => ⟨2 + (i : Int), (v : Int) + 2, no⟩
def flowsW (v : Nat) : List Fl := flowsW1 v v ++ [⟨(v : Int) + 2, (v : Int) + 2 + 1, no⟩]
def pW (v : Nat) : P := ⟨bs [112], nodesW v, flowsW v⟩
def bW (v : Nat) (T S : Nat → Bool) : Nat → Bd
  | 0 => ⟨pW v, [], [], 1⟩
  | j + 1 => if T j = true then (bW v T S j).put [⟨0, (v : Int) + 2, (v : Int) + 1 + j, false⟩] else if S j = true then (bW v T S j).put [⟨0, 2 + (j : Int), 1 + (j : Int), false⟩] else bW v T S j
theorem nodesW0_snoc (j : Nat) : nodesW0 (j + 1) = nodesW0 j ++ [wkW] := by
  unfold nodesW0
  rw [List.replicate_succ', ← List.append_assoc]
theorem flowsW0_snoc (j : Nat) : flowsW0 (j + 1) = flowsW0 j ++ [⟨1, 2 + (j : Int), no⟩] := by
  unfold flowsW0
  rw [List.range_succ, List.map_append, ← List.append_assoc]
  rfl
theorem flowsW1_snoc (v j : Nat) : flowsW1 v (j + 1) = flowsW1 v j ++ [⟨2 + (j : Int), (v : Int) + 2, no⟩] := by
  unfold flowsW1
  rw [List.range_succ, List.map_append, ← List.append_assoc]
  rfl
theorem flowsW1_zero (v : Nat) : flowsW1 v 0 = flowsW0 v := by
  unfold flowsW1
  simp
theorem nodesW0_len (j : Nat) : (nodesW0 j).length = j + 2 := by
  unfold nodesW0
  simp
theorem nodesW_len (v : Nat) : (nodesW v).length = v + 4 := by
  unfold nodesW
  simp [nodesW0_len]
theorem flowsW0_len (j : Nat) : (flowsW0 j).length = j + 1 := by
  unfold flowsW0
  simp
theorem flowsW1_len (v j : Nat) : (flowsW1 v j).length = v + 1 + j := by
  unfold flowsW1
  simp [flowsW0_len]
theorem flowsW_len (v : Nat) : (flowsW v).length = 2 * v + 2 := by
  unfold flowsW
  simp [flowsW1_len]
  omega
theorem pW_n (v : Nat) : (pW v).n = v + 4 := nodesW_len v
theorem pW_m (v : Nat) : (pW v).m = 2 * v + 2 := flowsW_len v
/-- What is said of each token: where it stands. -/
theorem bW_p (v : Nat) (T S : Nat → Bool) : ∀ j, (bW v T S j).p = pW v ∧ (bW v T S j).vars = [] ∧ (bW v T S j).next = ((bW v T S j).toks.length : Int) + 1
  | 0 => ⟨rfl, rfl, rfl⟩
  | j + 1 => by
    obtain ⟨h1, h2, h3⟩ := bW_p v T S j
    rw [bW]
    split
    · exact ⟨h1, h2, by unfold Bd.put; dsimp only; rw [h3, List.length_append, numb_len]; simp⟩
    split
    · exact ⟨h1, h2, by unfold Bd.put; dsimp only; rw [h3, List.length_append, numb_len]; simp⟩
    · exact ⟨h1, h2, h3⟩
theorem bW_len (v : Nat) (T S : Nat → Bool) : ∀ j, (bW v T S j).toks.length ≤ j
  | 0 => Nat.le_refl _
  | j + 1 => by
    have h := bW_len v T S j
    rw [bW]
    split
    · unfold Bd.put; dsimp only; rw [List.length_append, numb_len]; simp; exact h
    split
    · unfold Bd.put; dsimp only; rw [List.length_append, numb_len]; simp; exact h
    · omega
theorem asc_snoc {l : List Tk} {t : Tk} (h : Asc l) (ht : ∀ x ∈ l, x.id < t.id) : Asc (l ++ [t]) := by
  unfold Asc
  rw [List.pairwise_append]
  exact ⟨h, List.pairwise_singleton _ _, fun a ha b hb => by obtain rfl := List.mem_singleton.1 hb; exact ht a ha⟩
theorem bW_asc (v : Nat) (T S : Nat → Bool) : ∀ j, Asc (bW v T S j).toks ∧ ∀ x ∈ (bW v T S j).toks, x.id < (bW v T S j).next
  | 0 => ⟨List.Pairwise.nil, fun x hx => nomatch hx⟩
  | j + 1 => by
    obtain ⟨h1, h2⟩ := bW_asc v T S j
    have key : ∀ t : Tk, Asc ((bW v T S j).put [t]).toks ∧ ∀ x ∈ ((bW v T S j).put [t]).toks, x.id < ((bW v T S j).put [t]).next := fun t => by
      unfold Bd.put
      dsimp only
      rw [numb, numb]
      refine ⟨asc_snoc h1 h2, fun x hx => ?_⟩
      rcases List.mem_append.1 hx with hx | hx
      · have := h2 x hx
        simp only [List.length_singleton]
        omega
      · obtain rfl := List.mem_singleton.1 hx
        simp only [List.length_singleton]
        omega
    rw [bW]
    split
    · exact key _
    split
    · exact key _
    · exact ⟨h1, h2⟩
/-- Each token stands at the join, or at a Work; it is not stuck. -/
theorem bW_at (v : Nat) (T S : Nat → Bool) : ∀ j, ∀ x ∈ (bW v T S j).toks, x.stuck = false ∧ (x.node = (v : Int) + 2 ∨ ∃ i, i < j ∧ T i = false ∧ S i = true ∧ x.node = (i : Int) + 2)
  | 0 => fun x hx => nomatch hx
  | j + 1 => by
    have h := bW_at v T S j
    have h' : ∀ x ∈ (bW v T S j).toks, x.stuck = false ∧ (x.node = (v : Int) + 2 ∨ ∃ i, i < j + 1 ∧ T i = false ∧ S i = true ∧ x.node = (i : Int) + 2) := fun x hx => by
      obtain ⟨h1, h2⟩ := h x hx
      exact ⟨h1, h2.imp id fun ⟨i, h3, h4⟩ => ⟨i, by omega, h4⟩⟩
    rw [bW]
    split
    · intro x hx
      unfold Bd.put at hx
      dsimp only at hx
      rcases List.mem_append.1 hx with hx | hx
      · exact h' x hx
      · obtain rfl := List.mem_singleton.1 hx
        exact ⟨rfl, .inl rfl⟩
    split
    · rename_i hT hS
      intro x hx
      unfold Bd.put at hx
      dsimp only at hx
      rcases List.mem_append.1 hx with hx | hx
      · exact h' x hx
      · obtain rfl := List.mem_singleton.1 hx
        exact ⟨rfl, .inr ⟨j, by omega, by simpa using hT, hS, by show 2 + (j : Int) = (j : Int) + 2; omega⟩⟩
    · exact h'
/-- How many came, how many wait. -/
def cmW (T : Nat → Bool) (j : Nat) : Nat := ((List.range j).filter T).length
def wtW (T S : Nat → Bool) (j : Nat) : Nat := ((List.range j).filter fun i => !T i && S i).length
theorem cmW_succ (T : Nat → Bool) (j : Nat) : cmW T (j + 1) = cmW T j + (if T j = true then 1 else 0) := by
  unfold cmW
  rw [List.range_succ, List.filter_append, List.length_append]
  cases h : T j <;> simp [h]
theorem wtW_succ (T S : Nat → Bool) (j : Nat) : wtW T S (j + 1) = wtW T S j + (if T j = true then 0 else if S j = true then 1 else 0) := by
  unfold wtW
  rw [List.range_succ, List.filter_append, List.length_append]
  cases h : T j <;> cases h2 : S j <;> simp [h, h2]
theorem cmW_le (T : Nat → Bool) (j : Nat) : cmW T j ≤ j := by
  unfold cmW
  exact Nat.le_trans (List.length_filter_le _ _) (by rw [List.length_range]; exact Nat.le_refl _)
theorem wtW_le (T S : Nat → Bool) (j : Nat) : wtW T S j ≤ j := by
  unfold wtW
  exact Nat.le_trans (List.length_filter_le _ _) (by rw [List.length_range]; exact Nat.le_refl _)
/-- Where some came, one stands at the join. -/
theorem bW_came (v : Nat) (T S : Nat → Bool) : ∀ j, 0 < cmW T j → ∃ x ∈ (bW v T S j).toks, x.node = (v : Int) + 2
  | 0 => fun h => absurd h (by unfold cmW; simp)
  | j + 1 => fun h => by
    rw [bW]
    by_cases hT : T j = true
    · rw [if_pos hT]
      refine ⟨⟨(bW v T S j).next, (v : Int) + 2, (v : Int) + 1 + j, false⟩, ?_, rfl⟩
      unfold Bd.put
      exact List.mem_append.2 (.inr (List.mem_singleton.2 rfl))
    · rw [cmW_succ, if_neg hT] at h
      obtain ⟨x, hx, hn⟩ := bW_came v T S j (by omega)
      rw [if_neg hT]
      split
      · exact ⟨x, by unfold Bd.put; exact List.mem_append.2 (.inl hx), hn⟩
      · exact ⟨x, hx, hn⟩
/-- Where some wait, one stands at a Work. -/
theorem bW_wait (v : Nat) (T S : Nat → Bool) : ∀ j, 0 < wtW T S j → ∃ x ∈ (bW v T S j).toks, ∃ i, i < j ∧ x.node = (i : Int) + 2
  | 0 => fun h => absurd h (by unfold wtW; simp)
  | j + 1 => fun h => by
    rw [bW]
    by_cases hT : T j = true
    · rw [if_pos hT]
      rw [wtW_succ, if_pos hT] at h
      obtain ⟨x, hx, i, hi, hn⟩ := bW_wait v T S j (by omega)
      exact ⟨x, by unfold Bd.put; exact List.mem_append.2 (.inl hx), i, by omega, hn⟩
    · rw [if_neg hT]
      by_cases hS : S j = true
      · rw [if_pos hS]
        refine ⟨⟨(bW v T S j).next, 2 + (j : Int), 1 + (j : Int), false⟩, ?_, j, by omega, by show 2 + (j : Int) = (j : Int) + 2; omega⟩
        unfold Bd.put
        exact List.mem_append.2 (.inr (List.mem_singleton.2 rfl))
      · rw [if_neg hS]
        rw [wtW_succ, if_neg hT, if_neg hS] at h
        obtain ⟨x, hx, i, hi, hn⟩ := bW_wait v T S j (by omega)
        exact ⟨x, hx, i, by omega, hn⟩
theorem wtW_none {T S : Nat → Bool} {j : Nat} (h : wtW T S j = 0) : ∀ i, i < j → T i = false → S i = true → False := by
  intro i hi hT hS
  unfold wtW at h
  have h2 : i ∈ (List.range j).filter fun i => !T i && S i := List.mem_filter.2 ⟨List.mem_range.2 hi, by simp [hT, hS]⟩
  have := List.length_pos_of_mem h2
  omega
theorem insW : ∀ v, v < 5 → 2 ≤ v → insB (pW v) ((v + 2 : Nat) : Int) = (List.range v).map (· + (v + 1)) := by decide +kernel
theorem outsW : ∀ v, v < 5 → 2 ≤ v → outsB (pW v) ((v + 2 : Nat) : Int) = [2 * v + 1] := by decide +kernel
theorem nodeW {v : Nat} (hv : v < 5) (hv2 : 2 ≤ v) : (pW v).nodes[v + 2]! = Nd.plain 7 := by
  rcases (show v = 2 ∨ v = 3 ∨ v = 4 by omega) with rfl | rfl | rfl <;> rfl
theorem flowW {v : Nat} (hv : v < 5) (hv2 : 2 ≤ v) : (pW v).flows[2 * v + 1]! = ⟨(v : Int) + 2, (v : Int) + 3, no⟩ := by
  rcases (show v = 2 ∨ v = 3 ∨ v = 4 by omega) with rfl | rfl | rfl <;> rfl
theorem bckW : ∀ v, v < 5 → 2 ≤ v → ∀ i, i < v → i + 2 ∈ bck (pW v).n (pW v).flows (pW v).m (v + 2) := by decide +kernel
theorem comesW {v i : Nat} (hv : v < 5) (hv2 : 2 ≤ v) (hi : i < v) : Comes (pW v).n (bck (pW v).n (pW v).flows (pW v).m) ((v + 2 : Nat) : Int) (i + 2) :=
  ⟨v + 2, rfl, by rw [pW_n]; omega, .one (bckW v hv hv2 i hi)⟩
theorem moreW {v : Nat} (hv : v < 5) (hv2 : 2 ≤ v) (T S : Nat → Bool) : ¬ More (bW v T S v) ((v + 2 : Nat) : Int) ↔ wtW T S v = 0 := by
  obtain ⟨hp, _, _⟩ := bW_p v T S v
  constructor
  · intro hm
    rcases Nat.eq_zero_or_pos (wtW T S v) with h | h
    · exact h
    · obtain ⟨x, hx, i, hi, hn⟩ := bW_wait v T S v h
      refine absurd ⟨x, hx, by omega, i + 2, by omega, ?_, ?_⟩ hm
      · rw [hp, pW_n]; omega
      · rw [hp]; exact comesW hv hv2 hi
  · rintro h ⟨x, hx, hne, _⟩
    rcases (bW_at v T S v x hx).2 with h1 | ⟨i, hi, hT, hS, _⟩
    · exact hne (by omega)
    · exact wtW_none h i hi hT hS
theorem rdyW {v : Nat} (hv : v < 5) (hv2 : 2 ≤ v) (T S : Nat → Bool) {k : Nat} (hk : k < (bW v T S v).toks.length) (hf : fst (atN ((v + 2 : Nat) : Int)) (bW v T S v).toks = (k : Int)) : Rdy (bW v T S v) (k : Int) ↔ wtW T S v = 0 := by
  obtain ⟨hp, _, _⟩ := bW_p v T S v
  have hm : (bW v T S v).toks[k]! ∈ (bW v T S v).toks := by rw [getElem!_pos _ k hk]; exact List.getElem_mem hk
  have hs := (bW_at v T S v _ hm).1
  have hn : (bW v T S v).toks[k]!.node = ((v + 2 : Nat) : Int) := by
    rcases fst_cases (atN ((v + 2 : Nat) : Int)) (bW v T S v).toks with ⟨h1, _⟩ | ⟨k', h1, _, hq, _⟩
    · omega
    · obtain rfl : k' = k := by omega
      unfold atN at hq
      simpa using hq
  rw [rdy_u hk hs hn (by rw [hp, pW_n]; omega), hp, insW v hv hv2, nodeW hv hv2, hf, moreW hv hv2]
  constructor
  · rintro ⟨_, _, h⟩
    exact (h rfl (by simpa using hv2)).2
  · intro h
    exact ⟨by decide, fun h => absurd h (by decide), fun _ _ => ⟨rfl, h⟩⟩
theorem left_all {l : List Tk} {G : Nat → Bool} (h : ∀ k, k < l.length → G k = true) : left l G = [] := by
  unfold left
  rw [List.map_eq_nil_iff, List.filter_eq_nil_iff]
  intro k hk
  rw [h k (List.mem_range.1 hk)]
  decide
theorem outWaysW {v : Nat} (hv : v < 5) (hv2 : 2 ≤ v) (b : Bd) (hp : b.p = pW v) : outWays b (v + 2) = (0, [2 * v + 1]) := by
  have hk : b.p.nodes[v + 2]! = Nd.plain 7 := by rw [hp]; exact nodeW hv hv2
  have ho : outsB b.p ((v + 2 : Nat) : Int) = [2 * v + 1] := by rw [hp]; exact outsW v hv hv2
  have hf : b.p.flows[2 * v + 1]! = ⟨(v : Int) + 2, (v : Int) + 3, no⟩ := by rw [hp]; exact flowW hv hv2
  have hop : opens b.vars no = (0, true) := by
    unfold opens
    rw [if_pos (show no.size = 0 from rfl)]
  unfold outWays
  dsimp only
  rw [hk, ho]
  show choose b (-1) 1 [2 * v + 1] [] = _
  rw [choose, if_neg (by decide), if_neg (by omega), hf, hop, if_neg (by decide), if_pos rfl, choose]
  rfl
def rW (v : Nat) (b : Bd) : Bd := ⟨b.p, b.vars, [⟨b.next, (v : Int) + 3, 2 * (v : Int) + 1, false⟩], b.next + 1⟩
theorem bstepW {v : Nat} (hv : v < 5) (hv2 : 2 ≤ v) (T S : Nat → Bool) {k : Nat} (hf : fst (atN ((v + 2 : Nat) : Int)) (bW v T S v).toks = (k : Int)) (hw : wtW T S v = 0) :
    bstep (bW v T S v) k = (rW v (bW v T S v), true, no, 0) := by
  obtain ⟨hp, _, _⟩ := bW_p v T S v
  have hn : (bW v T S v).toks[k]!.node = ((v + 2 : Nat) : Int) := by
    rcases fst_cases (atN ((v + 2 : Nat) : Int)) (bW v T S v).toks with ⟨h1, _⟩ | ⟨k', h1, _, hq, _⟩
    · omega
    · obtain rfl : k' = k := by omega
      unfold atN at hq
      simpa using hq
  have hkd : (bW v T S v).p.nodes[v + 2]! = Nd.plain 7 := by rw [hp]; exact nodeW hv hv2
  have hfl : (bW v T S v).p.flows[2 * v + 1]! = ⟨(v : Int) + 2, (v : Int) + 3, no⟩ := by rw [hp]; exact flowW hv hv2
  have hgo : ∀ i, i < (bW v T S v).toks.length → goes (bW v T S v) k (v + 2) i = true := fun i hi => by
    have hm : (bW v T S v).toks[i]! ∈ (bW v T S v).toks := by rw [getElem!_pos _ i hi]; exact List.getElem_mem hi
    unfold goes
    dsimp only
    rw [hkd]
    show ((bW v T S v).toks[i]!.node == ((v + 2 : Nat) : Int)) = true
    rw [beq_iff_eq]
    rcases (bW_at v T S v _ hm).2 with h1 | ⟨i', hi', hT, hS, _⟩
    · rw [h1]; omega
    · exact (wtW_none hw i' hi' hT hS).elim
  have hmv : moved (bW v T S v) (goes (bW v T S v) k (v + 2)) [2 * v + 1] = rW v (bW v T S v) := by
    unfold moved
    rw [left_all hgo]
    unfold come Bd.put rW
    dsimp only
    rw [List.map_cons, List.map_nil, hfl, numb, numb, List.nil_append, List.length_singleton]
    congr 1
  unfold bstep
  dsimp only
  rw [hn, Int.toNat_natCast, outWaysW hv hv2 _ hp]
  dsimp only
  rw [hmv, hkd]
  rfl
end Pr
end Go.Proofs.YtlmlhjepolefaaaGreatDoor
