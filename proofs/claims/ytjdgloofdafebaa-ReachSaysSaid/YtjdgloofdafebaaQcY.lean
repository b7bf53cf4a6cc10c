/- Plain mathematics of package reach: the longest way, along an order. It names no program. -/
import Derived.Test.YtjdgloofdafebaaQbY
namespace Go.Proofs.Ytjdgloofdafebaa.Rc

def put (F : Nat → Nat) (x y : Nat) : Nat → Nat := fun v => if v = x then y else F v
theorem put_at (F : Nat → Nat) (x y : Nat) : put F x y x = y := if_pos rfl
theorem put_ne (F : Nat → Nat) {x v : Nat} (y : Nat) (h : v ≠ x) : put F x y v = F v := if_neg h
/-- What leads on from v: each is as far as v and one, at least. -/
def relax (v : Nat) : List Nat → (Nat → Nat) → Nat → Nat
  | [], F => F
  | x :: r, F => relax v r (put F x (max (F x) (F v + 1)))
/-- Along an order. -/
def lgF (L : Nat → List Nat) : List Nat → Nat → (Nat → Nat) → Nat
  | [], m, _ => m
  | v :: r, m, F => lgF L r (max m (F v)) (relax v (L v) F)
def lg (L : Nat → List Nat) (out : List Nat) : Nat := lgF L out 0 fun _ => 0
/-- The same, the most taken at each step (the document's). -/
def relaxM (v : Nat) : List Nat → Nat → (Nat → Nat) → Nat
  | [], m, _ => m
  | x :: r, m, F => relaxM v r (max m (max (F x) (F v + 1))) (put F x (max (F x) (F v + 1)))
def lgM (L : Nat → List Nat) : List Nat → Nat → (Nat → Nat) → Nat
  | [], m, _ => m
  | v :: r, m, F => lgM L r (relaxM v (L v) m F) (relax v (L v) F)
section
variable {n : Nat} {L : Nat → List Nat} {v : Nat}
theorem relax_other : ∀ (l : List Nat) (F : Nat → Nat) {x : Nat}, x ∉ l → relax v l F x = F x
  | [], _, _, _ => rfl
  | y :: l, F, x, h => by
    rw [List.mem_cons, not_or] at h
    show relax v l _ x = _
    rw [relax_other l _ h.2, put_ne F _ h.1]
theorem relax_up : ∀ (l : List Nat) (F : Nat → Nat) (x : Nat), F x ≤ relax v l F x
  | [], _, _ => Nat.le_refl _
  | y :: l, F, x => by
    refine Nat.le_trans ?_ (relax_up l _ x)
    by_cases e : x = y
    · subst e; rw [put_at]; exact Nat.le_max_left _ _
    · rw [put_ne F _ e]; exact Nat.le_refl _
theorem relax_ge : ∀ (l : List Nat) (F : Nat → Nat) {x : Nat}, x ∈ l → F v + 1 ≤ relax v l F x
  | [], _, _, h => by cases h
  | y :: l, F, x, h => by
    show _ ≤ relax v l _ x
    by_cases e : x = y
    · subst e
      refine Nat.le_trans ?_ (relax_up l _ x)
      rw [put_at]; exact Nat.le_max_right _ _
    · have hx : x ∈ l := by
        cases h with
        | head => exact absurd rfl e
        | tail _ h => exact h
      have := relax_ge l (put F y (max (F y) (F v + 1))) hx
      refine Nat.le_trans ?_ this
      by_cases e2 : v = y
      · subst e2; rw [put_at]; omega
      · rw [put_ne F _ e2]; exact Nat.le_refl _
theorem relax_le {r : Nat → Nat} : ∀ (l : List Nat) (F : Nat → Nat), (∀ x, F x ≤ r x) → (∀ x ∈ l, r v < r x) → ∀ x, relax v l F x ≤ r x
  | [], _, h, _ => h
  | y :: l, F, h, hl => by
    refine relax_le l _ (fun x => ?_) (fun x hx => hl x (List.mem_cons_of_mem _ hx))
    by_cases e : x = y
    · subst e
      rw [put_at]
      have h1 := h x
      have h2 := h v
      have h3 := hl x List.mem_cons_self
      omega
    · rw [put_ne F _ e]; exact h x
/-- The values all the way. -/
def fars (L : Nat → List Nat) : List Nat → (Nat → Nat) → Nat → Nat
  | [], F => F
  | v :: r, F => fars L r (relax v (L v) F)
theorem fars_up : ∀ (o : List Nat) (F : Nat → Nat) (x : Nat), F x ≤ fars L o F x
  | [], _, _ => Nat.le_refl _
  | v :: r, F, x => Nat.le_trans (relax_up (L v) F x) (fars_up r _ x)
theorem fars_other : ∀ (o : List Nat) (F : Nat → Nat) {x : Nat}, (∀ u ∈ o, x ∉ L u) → fars L o F x = F x
  | [], _, _, _ => rfl
  | v :: r, F, x, h => by
    show fars L r _ x = _
    rw [fars_other r _ (fun u hu => h u (List.mem_cons_of_mem _ hu)), relax_other _ _ (h v List.mem_cons_self)]
theorem fars_le {r : Nat → Nat} : ∀ (o : List Nat) (F : Nat → Nat), (∀ x, F x ≤ r x) → (∀ u ∈ o, ∀ x ∈ L u, r u < r x) → ∀ x, fars L o F x ≤ r x
  | [], _, h, _ => h
  | v :: o, F, h, hl => fars_le o _ (relax_le (L v) F h (hl v List.mem_cons_self)) (fun u hu => hl u (List.mem_cons_of_mem _ hu))
theorem fars_ge : ∀ (o : List Nat) (F : Nat → Nat) {u x : Nat}, u ∈ o → x ∈ L u → 1 ≤ fars L o F x
  | [], _, _, _, h, _ => by cases h
  | v :: o, F, u, x, h, hx => by
    show 1 ≤ fars L o _ x
    by_cases e : u = v
    · subst e
      have := relax_ge (v := u) (L u) F hx
      exact Nat.le_trans (by omega) (fars_up o _ x)
    · refine fars_ge o _ ?_ hx
      cases h with
      | head => exact absurd rfl e
      | tail _ h => exact h
/-- No step leads back along an order. -/
theorem Top.ahead {out : List Nat} (h : Top n L out) {o r : List Nat} (he : out = o ++ r) {v x : Nat} (hv : v ∈ r) (hx : x ∈ L v) : x ∉ o := by
  intro hxo
  have hvn : v < n := h.lt v (by rw [he]; exact List.mem_append_right _ hv)
  obtain ⟨k, hk⟩ := List.getElem?_of_mem hxo
  have hkl : k < o.length := by
    rcases Nat.lt_or_ge k o.length with h1 | h1
    · exact h1
    · rw [List.getElem?_eq_none h1] at hk; cases hk
  have h1 := h.lead k x (by rw [he, List.getElem?_append_left hkl]; exact hk) v hvn hx
  rw [he, List.take_append_of_le_length (by omega)] at h1
  have hn := h.nod
  rw [he, List.nodup_append] at hn
  exact hn.2.2 v (List.mem_of_mem_take h1) v hv rfl
/-- What the program's is: the greatest of all values. -/
theorem lgF_max {out : List Nat} (h : Top n L out) : ∀ (r o : List Nat) (m : Nat) (F : Nat → Nat), out = o ++ r → (∀ v ∈ o, F v ≤ m) → (m = 0 ∨ ∃ v ∈ o, F v = m) →
    (∀ v ∈ out, fars L r F v ≤ lgF L r m F) ∧ (lgF L r m F = 0 ∨ ∃ v ∈ out, fars L r F v = lgF L r m F)
  | [], o, m, F, he, h1, h2 => by
    rw [List.append_nil] at he
    subst he
    exact ⟨h1, h2⟩
  | v :: r, o, m, F, he, h1, h2 => by
    have he2 : out = (o ++ [v]) ++ r := by rw [he]; simp
    have hkeep : ∀ y ∈ o ++ [v], relax v (L v) F y = F y := fun y hy => relax_other _ _ fun hy2 => by
      rcases List.mem_append.1 hy with h3 | h3
      · exact h.ahead he (List.mem_cons_self) hy2 h3
      · have h4 := List.mem_singleton.1 h3
        subst h4
        -- a step to itself: it would stand ahead of itself
        obtain ⟨k, hk⟩ := List.getElem?_of_mem (show y ∈ out by rw [he]; exact List.mem_append_right _ List.mem_cons_self)
        have h5 := h.lead k y hk y (h.lt y (by rw [he]; exact List.mem_append_right _ List.mem_cons_self)) hy2
        obtain ⟨j, hj⟩ := List.getElem?_of_mem h5
        have hjk : j < k := by
          rcases Nat.lt_or_ge j k with h6 | h6
          · exact h6
          · rw [List.getElem?_eq_none (by rw [List.length_take]; omega)] at hj; cases hj
        rw [List.getElem?_take_of_lt hjk] at hj
        obtain ⟨hk1, hk2⟩ := List.getElem?_eq_some_iff.1 hk
        obtain ⟨hj1, hj2⟩ := List.getElem?_eq_some_iff.1 hj
        have hinj := List.pairwise_iff_getElem.1 h.nod j k hj1 hk1 hjk
        exact hinj (hj2.trans hk2.symm)
    refine lgF_max h r (o ++ [v]) (max m (F v)) _ he2 (fun y hy => ?_) ?_
    · rw [hkeep y hy]
      rcases List.mem_append.1 hy with h3 | h3
      · have := h1 y h3; omega
      · rw [List.mem_singleton.1 h3]; omega
    · rcases Nat.le_total m (F v) with hm | hm
      · right
        exact ⟨v, List.mem_append_right _ (List.mem_singleton.2 rfl), by rw [hkeep v (List.mem_append_right _ (List.mem_singleton.2 rfl))]; omega⟩
      · rcases h2 with h2 | ⟨y, hy, hf⟩
        · left; omega
        · right
          exact ⟨y, List.mem_append_left _ hy, by rw [hkeep y (List.mem_append_left _ hy)]; omega⟩
theorem relaxM_max : ∀ (l : List Nat) (m : Nat) (F : Nat → Nat), (∀ x, F x ≤ m) → (m = 0 ∨ ∃ x, (x < n) ∧ F x = m) → (∀ x ∈ l, x < n) →
    (∀ x, relax v l F x ≤ relaxM v l m F) ∧ (relaxM v l m F = 0 ∨ ∃ x, x < n ∧ relax v l F x = relaxM v l m F)
  | [], m, F, h1, h2, _ => ⟨h1, h2⟩
  | y :: l, m, F, h1, h2, h3 => by
    refine relaxM_max l _ _ (fun x => ?_) ?_ (fun x hx => h3 x (List.mem_cons_of_mem _ hx))
    · by_cases e : x = y
      · subst e; rw [put_at]; exact Nat.le_max_right _ _
      · rw [put_ne F _ e]; exact Nat.le_trans (h1 x) (Nat.le_max_left _ _)
    · rcases Nat.le_total m (max (F y) (F v + 1)) with hm | hm
      · right
        exact ⟨y, h3 y List.mem_cons_self, by rw [put_at]; omega⟩
      · rcases h2 with h2 | ⟨x, hx, hf⟩
        · left; omega
        · right
          by_cases e : x = y
          · subst e
            refine ⟨x, hx, ?_⟩
            rw [put_at]
            have := h1 x
            omega
          · exact ⟨x, hx, by rw [put_ne F _ e, hf]; omega⟩
theorem lgM_max (hL : ∀ u x, x ∈ L u → x < n) : ∀ (o : List Nat) (m : Nat) (F : Nat → Nat), (∀ x, F x ≤ m) → (m = 0 ∨ ∃ x, x < n ∧ F x = m) →
    (∀ x, fars L o F x ≤ lgM L o m F) ∧ (lgM L o m F = 0 ∨ ∃ x, x < n ∧ fars L o F x = lgM L o m F)
  | [], _, _, h1, h2 => ⟨h1, h2⟩
  | v :: o, m, F, h1, h2 => by
    obtain ⟨h3, h4⟩ := relaxM_max (n := n) (v := v) (L v) m F h1 h2 (hL v)
    exact lgM_max hL o _ _ h3 h4
/-- The two are one. -/
theorem lg_same {out : List Nat} (h : Top n L out) (hl : out.length = n) (hL : ∀ u x, x ∈ L u → x < n) : lgM L out 0 (fun _ => 0) = lg L out := by
  obtain ⟨a1, a2⟩ := lgF_max h out [] 0 (fun _ => 0) rfl (fun v hv => by cases hv) (.inl rfl)
  obtain ⟨b1, b2⟩ := lgM_max hL out 0 (fun _ => 0) (fun _ => Nat.le_refl _) (.inl rfl)
  show _ = lgF L out 0 _
  apply Nat.le_antisymm
  · rcases b2 with b2 | ⟨x, hx, hb⟩
    · omega
    · rw [← hb]; exact a1 x (h.all hl hx)
  · rcases a2 with a2 | ⟨x, hx, ha⟩
    · omega
    · rw [← ha]; exact b1 x
theorem lg_le {out : List Nat} (h : Top n L out) {r : Nat → Nat} (hr : ∀ u v, u < n → v ∈ L u → r u < r v) {b : Nat} (hb : ∀ v, v < n → r v ≤ b) : lg L out ≤ b := by
  obtain ⟨a1, a2⟩ := lgF_max h out [] 0 (fun _ => 0) rfl (fun v hv => by cases hv) (.inl rfl)
  show lgF L out 0 _ ≤ b
  rcases a2 with a2 | ⟨x, hx, ha⟩
  · omega
  · rw [← ha]
    exact Nat.le_trans (fars_le out (fun _ => 0) (fun _ => Nat.zero_le _) (fun u hu x hx => hr u x (h.lt u hu) hx) x) (hb x (h.lt x hx))
theorem lg_ge {out : List Nat} (h : Top n L out) (hl : out.length = n) (hL : ∀ u x, x ∈ L u → x < n) {u x : Nat} (hu : u < n) (hx : x ∈ L u) : 1 ≤ lg L out := by
  obtain ⟨a1, _⟩ := lgF_max h out [] 0 (fun _ => 0) rfl (fun v hv => by cases hv) (.inl rfl)
  exact Nat.le_trans (fars_ge out (fun _ => 0) (h.all hl hu) hx) (a1 x (h.all hl (hL u x hx)))
end
end Go.Proofs.Ytjdgloofdafebaa.Rc
