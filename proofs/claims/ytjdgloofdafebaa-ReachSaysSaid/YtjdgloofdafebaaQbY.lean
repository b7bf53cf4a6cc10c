/- Plain mathematics of package reach: an order, one by one the least that could come next. It names no program. -/
import Derived.Test.YtjdgloofdafebaaYReachSays3
namespace Go.Proofs.Ytjdgloofdafebaa.Rc

/-- How many ways to v come from those that have not come. -/
def pendL (L : Nat → List Nat) (out : List Nat) (v : Nat) (l : List Nat) : Nat := (l.map fun u => if u ∈ out then 0 else (L u).count v).sum
def pend (n : Nat) (L : Nat → List Nat) (out : List Nat) (v : Nat) : Nat := pendL L out v (List.range n)
theorem pendL_other {L : Nat → List Nat} {out : List Nat} {v u : Nat} : ∀ l : List Nat, u ∉ l → pendL L (out ++ [u]) v l = pendL L out v l
  | [], _ => rfl
  | x :: l, h => by
    rw [List.mem_cons, not_or] at h
    have ih := pendL_other (L := L) (out := out) (v := v) (u := u) l h.2
    unfold pendL at ih ⊢
    rw [List.map_cons, List.sum_cons, List.map_cons, List.sum_cons, ih]
    have : (x ∈ out ++ [u]) ↔ x ∈ out := by
      rw [List.mem_append, List.mem_singleton]
      exact ⟨fun h1 => h1.resolve_right (fun e => h.1 e.symm), .inl⟩
    by_cases hx : x ∈ out
    · rw [if_pos hx, if_pos (this.2 hx)]
    · rw [if_neg hx, if_neg (fun h1 => hx (this.1 h1))]
theorem pendL_snoc {L : Nat → List Nat} {out : List Nat} {v u : Nat} (hu : u ∉ out) : ∀ l : List Nat, l.Nodup → u ∈ l → pendL L out v l = pendL L (out ++ [u]) v l + (L u).count v
  | [], _, h => by cases h
  | x :: l, hn, h => by
    rw [List.nodup_cons] at hn
    by_cases e : x = u
    · subst e
      have h1 := pendL_other (L := L) (out := out) (v := v) l hn.1
      unfold pendL at h1 ⊢
      rw [List.map_cons, List.sum_cons, List.map_cons, List.sum_cons, h1, if_neg hu, if_pos (List.mem_append_right _ (List.mem_singleton.2 rfl))]
      omega
    · have hm : u ∈ l := by
        cases h with
        | head => exact absurd rfl e
        | tail _ h => exact h
      have ih := pendL_snoc (L := L) (out := out) (v := v) hu l hn.2 hm
      unfold pendL at ih ⊢
      rw [List.map_cons, List.sum_cons, List.map_cons, List.sum_cons, ih]
      have : (x ∈ out ++ [u]) ↔ x ∈ out := by
        rw [List.mem_append, List.mem_singleton]
        exact ⟨fun h1 => h1.resolve_right e, .inl⟩
      by_cases hx : x ∈ out
      · rw [if_pos hx, if_pos (this.2 hx)]; omega
      · rw [if_neg hx, if_neg (fun h1 => hx (this.1 h1))]; omega
theorem pend_snoc {n : Nat} {L : Nat → List Nat} {out : List Nat} {u : Nat} (v : Nat) (hu : u ∉ out) (hn : u < n) : pend n L out v = pend n L (out ++ [u]) v + (L u).count v :=
  pendL_snoc hu _ List.nodup_range (List.mem_range.2 hn)
theorem pendL_zero {L : Nat → List Nat} {out : List Nat} {v : Nat} : ∀ l : List Nat, pendL L out v l = 0 ↔ ∀ u ∈ l, u ∈ out ∨ v ∉ L u
  | [] => ⟨fun _ u h => (by cases h), fun _ => rfl⟩
  | x :: l => by
    have ih := pendL_zero (L := L) (out := out) (v := v) l
    unfold pendL at ih ⊢
    rw [List.map_cons, List.sum_cons, Nat.add_eq_zero_iff, ih]
    constructor
    · rintro ⟨h1, h2⟩ u hu
      cases hu with
      | head =>
        by_cases hx : x ∈ out
        · exact .inl hx
        · rw [if_neg hx] at h1; exact .inr (List.count_eq_zero.1 h1)
      | tail _ hu => exact h2 u hu
    · intro h
      refine ⟨?_, fun u hu => h u (List.mem_cons_of_mem _ hu)⟩
      by_cases hx : x ∈ out
      · rw [if_pos hx]
      · rw [if_neg hx]; exact List.count_eq_zero.2 ((h x (List.mem_cons_self)).resolve_left hx)
theorem pend_zero {n : Nat} {L : Nat → List Nat} {out : List Nat} {v : Nat} : pend n L out v = 0 ↔ ∀ u, u < n → u ∈ out ∨ v ∉ L u := by
  unfold pend
  rw [pendL_zero]
  exact ⟨fun h u hu => h u (List.mem_range.2 hu), fun h u hu => h u (List.mem_range.1 hu)⟩

/-- Could it come next? -/
def free (n : Nat) (L : Nat → List Nat) (out : List Nat) (i : Nat) : Bool := !out.contains i && (List.range n).all fun u => out.contains u || !(L u).contains i
theorem free_iff {n : Nat} {L : Nat → List Nat} {out : List Nat} {i : Nat} : free n L out i = true ↔ i ∉ out ∧ ∀ u, u < n → u ∈ out ∨ i ∉ L u := by
  unfold free
  simp [List.all_eq_true]
theorem free_pend {n : Nat} {L : Nat → List Nat} {out : List Nat} {i : Nat} : free n L out i = true ↔ i ∉ out ∧ pend n L out i = 0 := by
  rw [free_iff, pend_zero]
def nextOf (n : Nat) (L : Nat → List Nat) (out : List Nat) : Option Nat := (List.range n).find? (free n L out)
theorem nextOf_some {n : Nat} {L : Nat → List Nat} {out : List Nat} {u : Nat} (hu : u < n) (hf : free n L out u = true) (hl : ∀ v, v < u → free n L out v = false) : nextOf n L out = some u := by
  unfold nextOf
  rw [List.find?_range_eq_some]
  exact ⟨hf, List.mem_range.2 hu, fun j hj => by rw [hl j hj]; rfl⟩
theorem nextOf_of {n : Nat} {L : Nat → List Nat} {out : List Nat} {u : Nat} (h : nextOf n L out = some u) : u < n ∧ free n L out u = true ∧ ∀ v, v < u → free n L out v = false := by
  unfold nextOf at h
  rw [List.find?_range_eq_some] at h
  exact ⟨List.mem_range.1 h.2.1, h.1, fun v hv => by simpa using h.2.2 v hv⟩
theorem nextOf_none {n : Nat} {L : Nat → List Nat} {out : List Nat} (h : ∀ v, v < n → free n L out v = false) : nextOf n L out = none := by
  unfold nextOf
  rw [List.find?_eq_none]
  intro v hv
  rw [h v (List.mem_range.1 hv)]; decide
theorem none_of {n : Nat} {L : Nat → List Nat} {out : List Nat} (h : nextOf n L out = none) {v : Nat} (hv : v < n) : free n L out v = false := by
  unfold nextOf at h
  rw [List.find?_eq_none] at h
  simpa using h v (List.mem_range.2 hv)
def ordF (n : Nat) (L : Nat → List Nat) : Nat → List Nat → List Nat
  | 0, out => out
  | k + 1, out => match nextOf n L out with
    | none => out
    | some u => ordF n L k (out ++ [u])
def ord (n : Nat) (L : Nat → List Nat) : List Nat := ordF n L n []
theorem ordF_none {n : Nat} {L : Nat → List Nat} {out : List Nat} (h : nextOf n L out = none) : ∀ k, ordF n L k out = out
  | 0 => rfl
  | k + 1 => by unfold ordF; rw [h]
theorem ordF_some {n : Nat} {L : Nat → List Nat} {out : List Nat} {u k : Nat} (h : nextOf n L out = some u) : ordF n L (k + 1) out = ordF n L k (out ++ [u]) := by
  show (match nextOf n L out with | none => out | some u => ordF n L k (out ++ [u])) = _
  rw [h]
/-- Each comes behind all that lead to it. -/
structure Top (n : Nat) (L : Nat → List Nat) (out : List Nat) : Prop where
  nod : out.Nodup
  lt : ∀ v ∈ out, v < n
  lead : ∀ k v, out[k]? = some v → ∀ u, u < n → v ∈ L u → u ∈ out.take k
theorem Top.nil (n : Nat) (L : Nat → List Nat) : Top n L [] := ⟨List.nodup_nil, fun v h => (by cases h), fun k v h => (by simp at h)⟩
theorem Top.snoc {n : Nat} {L : Nat → List Nat} {out : List Nat} {u : Nat} (h : Top n L out) (hu : u < n) (hf : free n L out u = true) : Top n L (out ++ [u]) where
  nod := by
    rw [List.nodup_append]
    refine ⟨h.nod, (by simp), fun a ha b hb e => ?_⟩
    rw [List.mem_singleton] at hb
    subst hb; subst e
    exact (free_iff.1 hf).1 ha
  lt := fun v hv => by
    rcases List.mem_append.1 hv with h1 | h1
    · exact h.lt v h1
    · rw [List.mem_singleton.1 h1]; exact hu
  lead := fun k v hk x hx hv => by
    by_cases e : k < out.length
    · rw [List.getElem?_append_left e] at hk
      rw [List.take_append_of_le_length (by omega)]
      exact h.lead k v hk x hx hv
    · rw [List.getElem?_append_right (by omega)] at hk
      have hk0 : k - out.length = 0 := by
        rcases Nat.eq_zero_or_pos (k - out.length) with h0 | h0
        · exact h0
        · rw [List.getElem?_eq_none (by simp; omega)] at hk; cases hk
      rw [hk0] at hk
      have hvu : u = v := by simpa using hk
      subst hvu
      have hko : k = out.length := by omega
      subst hko
      rw [List.take_left]
      exact ((free_iff.1 hf).2 x hx).resolve_right (fun h1 => h1 hv)
theorem ordF_top {n : Nat} {L : Nat → List Nat} : ∀ k (out : List Nat), Top n L out → Top n L (ordF n L k out)
  | 0, _, h => h
  | k + 1, out, h => by
    cases hx : nextOf n L out with
    | none => rw [ordF_none hx]; exact h
    | some u =>
      rw [ordF_some hx]
      obtain ⟨h1, h2, _⟩ := nextOf_of hx
      exact ordF_top k _ (h.snoc h1 h2)
theorem ord_top (n : Nat) (L : Nat → List Nat) : Top n L (ord n L) := ordF_top n [] (Top.nil n L)
theorem sub_length : ∀ (l G : List Nat), l.Nodup → (∀ x ∈ l, x ∈ G) → l.length ≤ G.length
  | [], _, _, _ => Nat.zero_le _
  | x :: l, G, hn, hs => by
    rw [List.nodup_cons] at hn
    have h1 := sub_length l (G.erase x) hn.2 (fun y hy => (List.mem_erase_of_ne (fun e => hn.1 (by rw [← e]; exact hy))).2 (hs y (List.mem_cons_of_mem _ hy)))
    have h2 := hs x List.mem_cons_self
    rw [List.length_erase_of_mem h2] at h1
    have := List.length_pos_of_mem h2
    rw [List.length_cons]; omega
theorem Top.len {n : Nat} {L : Nat → List Nat} {out : List Nat} (h : Top n L out) : out.length ≤ n := by
  have := sub_length out (List.range n) h.nod (fun x hx => List.mem_range.2 (h.lt x hx))
  rwa [List.length_range] at this
/-- As many as there are: all. -/
theorem Top.all {n : Nat} {L : Nat → List Nat} {out : List Nat} (h : Top n L out) (hl : out.length = n) {v : Nat} (hv : v < n) : v ∈ out := by
  rcases Classical.em (v ∈ out) with h1 | h1
  · exact h1
  · exfalso
    have := sub_length (v :: out) (List.range n) (List.nodup_cons.2 ⟨h1, h.nod⟩) (fun x hx => by
      cases hx with
      | head => exact List.mem_range.2 hv
      | tail _ hx => exact List.mem_range.2 (h.lt x hx))
    rw [List.length_range, List.length_cons] at this
    omega
theorem ordF_full {n : Nat} {L : Nat → List Nat} {out : List Nat} (h : Top n L out) (hl : out.length = n) (k : Nat) : ordF n L k out = out :=
  ordF_none (nextOf_none fun v hv => by
    rw [Bool.eq_false_iff]
    intro hf
    exact (free_iff.1 hf).1 (h.all hl hv)) k
/-- Its place. -/
def rank (out : List Nat) (v : Nat) : Nat := out.idxOf v
theorem Top.rank {n : Nat} {L : Nat → List Nat} {out : List Nat} (h : Top n L out) (hl : out.length = n) {u v : Nat} (hu : u < n) (hv : v < n) (he : v ∈ L u) : rank out u < rank out v := by
  have hm := h.all hl hv
  have h1 : out.idxOf v < out.length := List.idxOf_lt_length_of_mem hm
  have h2 : out[out.idxOf v]? = some v := by
    rw [List.getElem?_eq_getElem h1, List.getElem_idxOf h1]
  have h3 := h.lead _ v h2 u hu he
  unfold Rc.rank
  have h4 : (out.take (out.idxOf v)).idxOf u < (out.take (out.idxOf v)).length := List.idxOf_lt_length_of_mem h3
  have h5 : out.idxOf u = (out.take (out.idxOf v)).idxOf u := by
    have h6 : out = out.take (out.idxOf v) ++ out.drop (out.idxOf v) := (List.take_append_drop _ _).symm
    have h7 : (out.take (out.idxOf v) ++ out.drop (out.idxOf v)).idxOf u = (out.take (out.idxOf v)).idxOf u := by rw [List.idxOf_append, if_pos h3]
    rw [← h6] at h7
    exact h7
  rw [List.length_take] at h4
  omega
/-- Where each step ranks higher all come. -/
theorem ord_full {n : Nat} {L : Nat → List Nat} {r : Nat → Nat} (hr : ∀ u v, u < n → v ∈ L u → r u < r v) : (ord n L).length = n := by
  have key : ∀ k (out : List Nat), Top n L out → out.length + k = n → (ordF n L k out).length = n := by
    intro k
    induction k with
    | zero => intro out _ h; exact h
    | succ k ih =>
      intro out ht hk
      cases hx : nextOf n L out with
      | some u =>
        rw [ordF_some hx]
        obtain ⟨h1, h2, _⟩ := nextOf_of hx
        exact ih _ (ht.snoc h1 h2) (by rw [List.length_append, List.length_singleton]; omega)
      | none =>
        exfalso
        have step : ∀ m v, v < n → v ∉ out → r v ≤ m → False := by
          intro m
          induction m with
          | zero =>
            intro v hv hvo hm
            have hf := none_of hx hv
            rw [Bool.eq_false_iff] at hf
            refine hf (free_iff.2 ⟨hvo, fun u hu => .inr fun he => ?_⟩)
            have := hr u v hu he
            omega
          | succ m ihm =>
            intro v hv hvo hm
            have hf := none_of hx hv
            rw [Bool.eq_false_iff] at hf
            refine hf (free_iff.2 ⟨hvo, fun u hu => ?_⟩)
            rcases Classical.em (u ∈ out) with h1 | h1
            · exact .inl h1
            · refine .inr fun he => ihm u hu h1 ?_
              have := hr u v hu he
              omega
        have : ∃ v, v < n ∧ v ∉ out := by
          rcases Classical.em (∃ v, v < n ∧ v ∉ out) with h | h
          · exact h
          · exfalso
            have := sub_length (List.range n) out List.nodup_range (fun x hx => by
              rcases Classical.em (x ∈ out) with h1 | h1
              · exact h1
              · exact absurd ⟨x, List.mem_range.1 hx, h1⟩ h)
            rw [List.length_range] at this
            omega
        obtain ⟨v, hv, hvo⟩ := this
        exact step (r v) v hv hvo (Nat.le_refl _)
  exact key n [] (Top.nil n L) (by simp)

/-- The state between two nodes, and in the midst of one: R leads on still. -/
structure Od (n : Nat) (L : Nat → List Nat) (out C : List Nat) (W : Nat → Nat) (R : List Nat) : Prop where
  cn : C.Nodup
  mem : ∀ v, v ∈ C ↔ v < n ∧ v ∉ out ∧ W v = 0
  onod : out.Nodup
  outz : ∀ v ∈ out, v < n ∧ W v = 0
  wdef : ∀ v, v < n → W v = pend n L out v + R.count v
section
variable {n : Nat} {L : Nat → List Nat} {out C C' : List Nat} {W : Nat → Nat} {R : List Nat}
theorem Od.perm (h : Od n L out C W R) (hp : C'.Perm C) : Od n L out C' W R := ⟨hp.nodup_iff.2 h.cn, fun v => by rw [hp.mem_iff]; exact h.mem v, h.onod, h.outz, h.wdef⟩
theorem Od.start (n : Nat) (L : Nat → List Nat) : Od n L [] ((List.range n).filter fun v => pend n L [] v == 0) (pend n L []) [] where
  cn := List.nodup_range.filter _
  mem := fun v => by simp [List.mem_filter]
  onod := List.nodup_nil
  outz := fun v h => by cases h
  wdef := fun v _ => by simp
theorem Od.free (h : Od n L out C W []) {v : Nat} (hv : v < n) : free n L out v = true ↔ v ∈ C := by
  rw [free_pend, h.mem v, h.wdef v hv, List.count_nil, Nat.add_zero]
  exact ⟨fun h1 => ⟨hv, h1⟩, fun h1 => h1.2⟩
theorem Od.none (h : Od n L out [] W []) : nextOf n L out = none := nextOf_none fun v hv => by
  rw [Bool.eq_false_iff]
  intro hf
  have := (h.free hv).1 hf
  cases this
theorem Od.some {u : Nat} (h : Od n L out C W []) (hu : u ∈ C) (hl : ∀ v ∈ C, u ≤ v) : nextOf n L out = some u := by
  have hun := ((h.mem u).1 hu).1
  refine nextOf_some hun ((h.free hun).2 hu) fun v hv => ?_
  rw [Bool.eq_false_iff]
  intro hf
  have := hl v ((h.free (by omega)).1 hf)
  omega
theorem Od.pick {u : Nat} (h : Od n L out C W []) (hp : C.Perm (u :: C')) : Od n L (out ++ [u]) C' W (L u) := by
  have hn := (hp.nodup_iff).1 h.cn
  rw [List.nodup_cons] at hn
  have hu := (h.mem u).1 (hp.mem_iff.2 List.mem_cons_self)
  refine ⟨hn.2, fun v => ?_, ?_, fun v hv => ?_, fun v hv => ?_⟩
  · have h1 := h.mem v
    rw [hp.mem_iff, List.mem_cons] at h1
    rw [List.mem_append, List.mem_singleton, not_or]
    constructor
    · intro hv
      obtain ⟨a, b, c⟩ := h1.1 (.inr hv)
      exact ⟨a, ⟨b, fun e => hn.1 (e ▸ hv)⟩, c⟩
    · rintro ⟨a, ⟨b, e⟩, c⟩
      exact (h1.2 ⟨a, b, c⟩).resolve_left e
  · rw [List.nodup_append]
    refine ⟨h.onod, (by simp), fun a ha b hb e => ?_⟩
    rw [List.mem_singleton] at hb
    subst hb; subst e
    exact hu.2.1 ha
  · rcases List.mem_append.1 hv with h1 | h1
    · exact h.outz v h1
    · rw [List.mem_singleton.1 h1]; exact ⟨hu.1, hu.2.2⟩
  · have h1 := h.wdef v hv
    rw [List.count_nil, Nat.add_zero] at h1
    rw [h1]
    exact pend_snoc v hu.2.1 hu.1
def low (W : Nat → Nat) (x : Nat) : Nat → Nat := fun v => if v = x then W x - 1 else W v
theorem low_at (W : Nat → Nat) (x : Nat) : low W x x = W x - 1 := if_pos rfl
theorem low_ne (W : Nat → Nat) {x v : Nat} (h : v ≠ x) : low W x v = W v := if_neg h
theorem Od.pos {x : Nat} (h : Od n L out C W (x :: R)) (hx : x < n) : 1 ≤ W x ∧ x ∉ out ∧ x ∉ C := by
  have h1 := h.wdef x hx
  rw [List.count_cons_self] at h1
  refine ⟨by omega, fun h2 => ?_, fun h2 => ?_⟩
  · have := (h.outz x h2).2; omega
  · have := ((h.mem x).1 h2).2.2; omega
theorem Od.wlow {x : Nat} (h : Od n L out C W (x :: R)) (hx : x < n) (v : Nat) (hv : v < n) : low W x v = pend n L out v + R.count v := by
  have h1 := h.wdef v hv
  by_cases e : v = x
  · subst e
    rw [low_at]
    rw [List.count_cons_self] at h1
    omega
  · rw [low_ne W e, h1, List.count_cons_of_ne (fun e2 => e e2.symm)]
theorem Od.outlow {x : Nat} (h : Od n L out C W (x :: R)) (hx : x < n) (v : Nat) (hv : v ∈ out) : v < n ∧ low W x v = 0 := by
  have h1 := h.outz v hv
  have h2 := h.pos hx
  have hne : v ≠ x := fun e => h2.2.1 (by rw [← e]; exact hv)
  rw [low_ne W hne]
  exact h1
theorem Od.keep {x : Nat} (h : Od n L out C W (x :: R)) (hx : x < n) (hz : W x - 1 ≠ 0) : Od n L out C (low W x) R := by
  refine ⟨h.cn, fun v => ?_, h.onod, h.outlow hx, h.wlow hx⟩
  rw [h.mem v]
  by_cases e : v = x
  · subst e
    rw [low_at]
    have := (h.pos hx).1
    exact ⟨fun h1 => by omega, fun h1 => absurd h1.2.2 hz⟩
  · rw [low_ne W e]
theorem Od.add {x : Nat} (h : Od n L out C W (x :: R)) (hx : x < n) (hz : W x - 1 = 0) : Od n L out (x :: C) (low W x) R := by
  obtain ⟨h1, h2, h3⟩ := h.pos hx
  refine ⟨List.nodup_cons.2 ⟨h3, h.cn⟩, fun v => ?_, h.onod, h.outlow hx, h.wlow hx⟩
  rw [List.mem_cons, h.mem v]
  by_cases e : v = x
  · subst e
    rw [low_at]
    exact ⟨fun _ => ⟨hx, h2, hz⟩, fun _ => .inl rfl⟩
  · rw [low_ne W e]
    exact ⟨fun h4 => h4.resolve_left e, .inr⟩
end
end Go.Proofs.Ytjdgloofdafebaa.Rc
