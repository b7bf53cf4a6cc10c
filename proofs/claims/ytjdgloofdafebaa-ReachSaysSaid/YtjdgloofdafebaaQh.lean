/- Plain mathematics of a heap in a list: what stands above is no greater. It names no program. -/
namespace Go.Proofs.Ytjdgloofdafebaa.Rc

def swap (l : List Nat) (i j : Nat) : List Nat := (l.set i l[j]!).set j l[i]!
section
variable {l : List Nat} {i j k : Nat}
theorem swap_len (l : List Nat) (i j : Nat) : (swap l i j).length = l.length := by unfold swap; rw [List.length_set, List.length_set]
theorem get_set (l : List Nat) (i k : Nat) (x : Nat) (hk : k < l.length) : (l.set i x)[k]! = if k = i then x else l[k]! := by
  rw [getElem!_pos (l.set i x) k (by rw [List.length_set]; exact hk), getElem!_pos l k hk, List.getElem_set]
  by_cases e : i = k
  · subst e; simp
  · rw [if_neg e, if_neg (fun e2 => e e2.symm)]
theorem swap_get (hk : k < l.length) : (swap l i j)[k]! = if k = j then l[i]! else if k = i then l[j]! else l[k]! := by
  unfold swap
  rw [get_set _ _ _ _ (by rw [List.length_set]; exact hk), get_set _ _ _ _ hk]
theorem swap_perm (hi : i < l.length) (hj : j < l.length) : (swap l i j).Perm l := by
  unfold swap
  rw [getElem!_pos l i hi, getElem!_pos l j hj]
  exact List.set_set_perm hi hj
/-- What stands above is no greater, all the way. -/
def Hp (l : List Nat) : Prop := ∀ k, 0 < k → k < l.length → l[(k - 1) / 2]! ≤ l[k]!
/-- The same, but for what stands above j. -/
def Up (l : List Nat) (j : Nat) : Prop := (∀ k, 0 < k → k < l.length → k ≠ j → l[(k - 1) / 2]! ≤ l[k]!) ∧ ∀ k, 0 < k → k < l.length → (k - 1) / 2 = j → 0 < j → l[(j - 1) / 2]! ≤ l[k]!
/-- The same of the first n, but for what stands beneath i. -/
def Dn (l : List Nat) (n i : Nat) : Prop := (∀ k, 0 < k → k < n → (k - 1) / 2 ≠ i → l[(k - 1) / 2]! ≤ l[k]!) ∧ ∀ k, 0 < k → k < n → (k - 1) / 2 = i → 0 < i → l[(i - 1) / 2]! ≤ l[k]!
theorem Hp.least (h : Hp l) : ∀ k, k < l.length → l[0]! ≤ l[k]! := by
  intro k
  induction k using Nat.strongRecOn with
  | ind k ih =>
    intro hk
    by_cases e : k = 0
    · subst e; exact Nat.le_refl _
    · exact Nat.le_trans (ih ((k - 1) / 2) (by omega) (by omega)) (h k (by omega) hk)
theorem Up.start {x : Nat} (h : Hp l) : Up (l ++ [x]) l.length := by
  have hg : ∀ k, k < l.length → (l ++ [x])[k]! = l[k]! := fun k hk => by
    rw [getElem!_pos (l ++ [x]) k (by rw [List.length_append]; omega), getElem!_pos l k hk, List.getElem_append_left hk]
  refine ⟨fun k hk hl hne => ?_, fun k hk hl he h0 => ?_⟩
  · rw [List.length_append, List.length_singleton] at hl
    rw [hg k (by omega), hg _ (by omega)]
    exact h k hk (by omega)
  · rw [List.length_append, List.length_singleton] at hl
    omega
theorem Up.fin (h : Up l j) (hj : j = 0 ∨ l[(j - 1) / 2]! ≤ l[j]!) : Hp l := by
  intro k h0 hk
  by_cases e : k = j
  · subst e
    rcases hj with hj | hj
    · omega
    · exact hj
  · exact h.1 k h0 hk e
theorem Up.step (h : Up l j) (hj : j < l.length) (h0 : 0 < j) (hlt : l[j]! < l[(j - 1) / 2]!) : Up (swap l ((j - 1) / 2) j) ((j - 1) / 2) := by
  have hp : (j - 1) / 2 < j := by omega
  refine ⟨fun k hk hl hne => ?_, fun k hk hl he hp0 => ?_⟩
  · rw [swap_len] at hl
    rw [swap_get hl, swap_get (show (k - 1) / 2 < l.length by omega)]
    by_cases e1 : k = j
    · subst e1
      rw [if_pos rfl, if_neg (by omega), if_pos rfl]
      omega
    · rw [if_neg e1, if_neg hne]
      by_cases e2 : (k - 1) / 2 = j
      · rw [if_pos e2]
        exact h.2 k hk hl e2 h0
      · rw [if_neg e2]
        by_cases e3 : (k - 1) / 2 = (j - 1) / 2
        · rw [if_pos e3]
          have := h.1 k hk hl e1
          rw [e3] at this
          omega
        · rw [if_neg e3]
          exact h.1 k hk hl e1
  · rw [swap_len] at hl
    rw [swap_get hl, swap_get (show ((j - 1) / 2 - 1) / 2 < l.length by omega)]
    have h1 := h.1 ((j - 1) / 2) hp0 (by omega) (by omega)
    rw [if_neg (show ¬ ((j - 1) / 2 - 1) / 2 = j by omega), if_neg (show ¬ ((j - 1) / 2 - 1) / 2 = (j - 1) / 2 by omega)]
    by_cases e1 : k = j
    · rw [if_pos e1]; exact h1
    · rw [if_neg e1, if_neg (by omega)]
      have := h.1 k hk hl e1
      rw [he] at this
      omega
variable {n : Nat}
theorem Dn.start (h : Hp l) (hn : n < l.length) : Dn (swap l 0 n) n 0 := by
  refine ⟨fun k hk hl hne => ?_, fun k _ _ _ h0 => absurd h0 (Nat.lt_irrefl _)⟩
  rw [swap_get (by omega), swap_get (by omega), if_neg (show ¬ (k - 1) / 2 = n by omega), if_neg (show ¬ (k - 1) / 2 = 0 from hne), if_neg (show ¬ k = n by omega), if_neg (show ¬ k = 0 by omega)]
  exact h k hk (by omega)
/-- Nothing beneath is less. -/
theorem Dn.fin (h : Dn l n i) (hc : ∀ k, 0 < k → k < n → (k - 1) / 2 = i → l[i]! ≤ l[k]!) : ∀ k, 0 < k → k < n → l[(k - 1) / 2]! ≤ l[k]! := by
  intro k h0 hk
  by_cases e : (k - 1) / 2 = i
  · rw [e]; exact hc k h0 hk e
  · exact h.1 k h0 hk e
theorem Dn.step (h : Dn l n i) (hn : n ≤ l.length) (hj : j < n) (h0 : 0 < j) (hp : (j - 1) / 2 = i) (hlt : l[j]! < l[i]!) (hm : ∀ k, 0 < k → k < n → (k - 1) / 2 = i → l[j]! ≤ l[k]!) : Dn (swap l i j) n j := by
  have hij : i < j := by omega
  refine ⟨fun k hk hl hne => ?_, fun k hk hl he _ => ?_⟩
  · rw [swap_get (by omega), swap_get (by omega), if_neg hne]
    by_cases e1 : k = j
    · subst e1
      rw [if_pos rfl, if_pos hp]
      omega
    · rw [if_neg e1]
      by_cases e2 : k = i
      · subst e2
        rw [if_neg (by omega), if_pos rfl]
        exact h.2 j h0 hj hp hk
      · rw [if_neg e2]
        by_cases e3 : (k - 1) / 2 = i
        · rw [if_pos e3]; exact hm k hk hl e3
        · rw [if_neg e3]; exact h.1 k hk hl e3
  · rw [swap_get (by omega), swap_get (by omega), if_neg (by omega), if_pos hp, if_neg (by omega), if_neg (by omega)]
    have := h.1 k hk hl (by omega)
    rw [he] at this
    exact this
/-- Behind the walk down: the first n are a heap, and the last one is what stood first. -/
theorem Hp.cut (h : ∀ k, 0 < k → k < n → l[(k - 1) / 2]! ≤ l[k]!) (hn : n ≤ l.length) : Hp (l.take n) := by
  have hg : ∀ k, k < n → (l.take n)[k]! = l[k]! := fun k hk => by
    rw [getElem!_pos (l.take n) k (by rw [List.length_take]; omega), getElem!_pos l k (by omega), List.getElem_take]
  intro k h0 hk
  rw [List.length_take] at hk
  rw [hg k (by omega), hg _ (by omega)]
  exact h k h0 (by omega)
theorem last_perm (hl : l.length = n + 1) : l.Perm (l[n]! :: l.take n) := by
  have h1 : l = l.take n ++ [l[n]!] := by
    have h2 : l.take (n + 1) = l := List.take_of_length_le (by omega)
    rw [List.take_add_one, List.getElem?_eq_getElem (by omega)] at h2
    rw [getElem!_pos l n (by omega)]
    exact h2.symm
  have h3 : (l.take n ++ [l[n]!]).Perm (l[n]! :: l.take n) := List.perm_append_comm
  rw [← h1] at h3
  exact h3
end
end Go.Proofs.Ytjdgloofdafebaa.Rc
