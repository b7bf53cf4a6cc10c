/- Plain mathematics of package reach: the longest way, along an order. It names no program. A row of rows of numbers in memory, each its own. Package reach: isPlace, joins; the rows that lead on, back. -/
import Derived.Test.YtkffnfgdmcebdaaGreatDoorYJoint12
import Derived.Test.YtkffnfgdmcebdaaGreatDoorYJoint11
import Derived.Test.YtkffnfgdmcebdaaGreatDoorGzY
namespace Go.Proofs.YtkffnfgdmcebdaaGreatDoor.Rc

def put (F : Nat → Nat) (x y : Nat) : Nat → Nat := fun v => if v = x then y else F v
theorem put_at (F : Nat → Nat) (x y : Nat) : put F x y x = y := if_pos rfl
theorem put_ne (F : Nat → Nat) {x v : Nat} (y : Nat) (h : v ≠ x) : put F x y v = F v := if_neg h
/-- What leads on from v: each is as far as v and one, at least. -/
def relax (v : Nat) : List Nat → (Nat → Nat) → Nat → Nat
  | [], F => F
  | x :: r, F => relax v r (put F x (max (F x) (F v + 1)))
/-- Along an order. -/
def lgF (L : Nat → List Nat) : List Nat → Nat → (Nat → Nat) → Nat
  | [], m, _ => m
  | v :: r, m, F => lgF L r (max m (F v)) (relax v (L v) F)
def lg (L : Nat → List Nat) (out : List Nat) : Nat := lgF L out 0 fun _ => 0
/-- The same, the most taken at each step (the document's). -/
def relaxM (v : Nat) : List Nat → Nat → (Nat → Nat) → Nat
  | [], m, _ => m
  | x :: r, m, F => relaxM v r (max m (max (F x) (F v + 1))) (put F x (max (F x) (F v + 1)))
def lgM (L : Nat → List Nat) : List Nat → Nat → (Nat → Nat) → Nat
  | [], m, _ => m
  | v :: r, m, F => lgM L r (relaxM v (L v) m F) (relax v (L v) F)
section
variable {n : Nat} {L : Nat → List Nat} {v : Nat}
theorem relax_other : ∀ (l : List Nat) (F : Nat → Nat) {x : Nat}, x ∉ l → relax v l F x = F x
  | [], _, _, _ => rfl
  | y :: l, F, x, h => by
    rw [List.mem_cons, not_or] at h
    show relax v l _ x = _
    rw [relax_other l _ h.2, put_ne F _ h.1]
theorem relax_up : ∀ (l : List Nat) (F : Nat → Nat) (x : Nat), F x ≤ relax v l F x
  | [], _, _ => Nat.le_refl _
  | y :: l, F, x => by
    refine Nat.le_trans ?_ (relax_up l _ x)
    by_cases e : x = y
    · subst e; rw [put_at]; exact Nat.le_max_left _ _
    · rw [put_ne F _ e]; exact Nat.le_refl _
theorem relax_ge : ∀ (l : List Nat) (F : Nat → Nat) {x : Nat}, x ∈ l → F v + 1 ≤ relax v l F x
  | [], _, _, h => by cases h
  | y :: l, F, x, h => by
    show _ ≤ relax v l _ x
    by_cases e : x = y
    · subst e
      refine Nat.le_trans ?_ (relax_up l _ x)
      rw [put_at]; exact Nat.le_max_right _ _
    · have hx : x ∈ l := by
        cases h with
        | head => exact absurd rfl e
        | tail _ h => exact h
      have := relax_ge l (put F y (max (F y) (F v + 1))) hx
      refine Nat.le_trans ?_ this
      by_cases e2 : v = y
      · subst e2; rw [put_at]; omega
      · rw [put_ne F _ e2]; exact Nat.le_refl _
theorem relax_le {r : Nat → Nat} : ∀ (l : List Nat) (F : Nat → Nat), (∀ x, F x ≤ r x) → (∀ x ∈ l, r v < r x) → ∀ x, relax v l F x ≤ r x
  | [], _, h, _ => h
  | y :: l, F, h, hl => by
    refine relax_le l _ (fun x => ?_) (fun x hx => hl x (List.mem_cons_of_mem _ hx))
    by_cases e : x = y
    · subst e
      rw [put_at]
      have h1 := h x
      have h2 := h v
      have h3 := hl x List.mem_cons_self
      omega
    · rw [put_ne F _ e]; exact h x
/-- The values all the way. -/
def fars (L : Nat → List Nat) : List Nat → (Nat → Nat) → Nat → Nat
  | [], F => F
  | v :: r, F => fars L r (relax v (L v) F)
theorem fars_up : ∀ (o : List Nat) (F : Nat → Nat) (x : Nat), F x ≤ fars L o F x
  | [], _, _ => Nat.le_refl _
  | v :: r, F, x => Nat.le_trans (relax_up (L v) F x) (fars_up r _ x)
theorem fars_other : ∀ (o : List Nat) (F : Nat → Nat) {x : Nat}, (∀ u ∈ o, x ∉ L u) → fars L o F x = F x
  | [], _, _, _ => rfl
  | v :: r, F, x, h => by
    show fars L r _ x = _
    rw [fars_other r _ (fun u hu => h u (List.mem_cons_of_mem _ hu)), relax_other _ _ (h v List.mem_cons_self)]
theorem fars_le {r : Nat → Nat} : ∀ (o : List Nat) (F : Nat → Nat), (∀ x, F x ≤ r x) → (∀ u ∈ o, ∀ x ∈ L u, r u < r x) → ∀ x, fars L o F x ≤ r x
  | [], _, h, _ => h
  | v :: o, F, h, hl => fars_le o _ (relax_le (L v) F h (hl v List.mem_cons_self)) (fun u hu => hl u (List.mem_cons_of_mem _ hu))
theorem fars_ge : ∀ (o : List Nat) (F : Nat → Nat) {u x : Nat}, u ∈ o → x ∈ L u → 1 ≤ fars L o F x
  | [], _, _, _, h, _ => by cases h
  | v :: o, F, u, x, h, hx => by
    show 1 ≤ fars L o _ x
    by_cases e : u = v
    · subst e
      have := relax_ge (v := u) (L u) F hx
      exact Nat.le_trans (by omega) (fars_up o _ x)
    · refine fars_ge o _ ?_ hx
      cases h with
      | head => exact absurd rfl e
      | tail _ h => exact h
/-- No step leads back along an order. -/
theorem Top.ahead {out : List Nat} (h : Top n L out) {o r : List Nat} (he : out = o ++ r) {v x : Nat} (hv : v ∈ r) (hx : x ∈ L v) : x ∉ o := by
  intro hxo
  have hvn : v < n := h.lt v (by rw [he]; exact List.mem_append_right _ hv)
  obtain ⟨k, hk⟩ := List.getElem?_of_mem hxo
  have hkl : k < o.length := by
    rcases Nat.lt_or_ge k o.length with h1 | h1
    · exact h1
    · rw [List.getElem?_eq_none h1] at hk; cases hk
  have h1 := h.lead k x (by rw [he, List.getElem?_append_left hkl]; exact hk) v hvn hx
  rw [he, List.take_append_of_le_length (by omega)] at h1
  have hn := h.nod
  rw [he, List.nodup_append] at hn
  exact hn.2.2 v (List.mem_of_mem_take h1) v hv rfl
/-- What the program's is: the greatest of all values. -/
theorem lgF_max {out : List Nat} (h : Top n L out) : ∀ (r o : List Nat) (m : Nat) (F : Nat → Nat), out = o ++ r → (∀ v ∈ o, F v ≤ m) → (m = 0 ∨ ∃ v ∈ o, F v = m) →
    (∀ v ∈ out, fars L r F v ≤ lgF L r m F) ∧ (lgF L r m F = 0 ∨ ∃ v ∈ out, fars L r F v = lgF L r m F)
  | [], o, m, F, he, h1, h2 => by
    rw [List.append_nil] at he
    subst he
    exact ⟨h1, h2⟩
  | v :: r, o, m, F, he, h1, h2 => by
    have he2 : out = (o ++ [v]) ++ r := by rw [he]; simp
    have hkeep : ∀ y ∈ o ++ [v], relax v (L v) F y = F y := fun y hy => relax_other _ _ fun hy2 => by
      rcases List.mem_append.1 hy with h3 | h3
      · exact h.ahead he (List.mem_cons_self) hy2 h3
      · have h4 := List.mem_singleton.1 h3
        subst h4
        -- a step to itself: it would stand ahead of itself
        obtain ⟨k, hk⟩ := List.getElem?_of_mem (show y ∈ out by rw [he]; exact List.mem_append_right _ List.mem_cons_self)
        have h5 := h.lead k y hk y (h.lt y (by rw [he]; exact List.mem_append_right _ List.mem_cons_self)) hy2
        obtain ⟨j, hj⟩ := List.getElem?_of_mem h5
        have hjk : j < k := by
          rcases Nat.lt_or_ge j k with h6 | h6
          · exact h6
          · rw [List.getElem?_eq_none (by rw [List.length_take]; omega)] at hj; cases hj
        rw [List.getElem?_take_of_lt hjk] at hj
        obtain ⟨hk1, hk2⟩ := List.getElem?_eq_some_iff.1 hk
        obtain ⟨hj1, hj2⟩ := List.getElem?_eq_some_iff.1 hj
        have hinj := List.pairwise_iff_getElem.1 h.nod j k hj1 hk1 hjk
        exact hinj (hj2.trans hk2.symm)
    refine lgF_max h r (o ++ [v]) (max m (F v)) _ he2 (fun y hy => ?_) ?_
    · rw [hkeep y hy]
      rcases List.mem_append.1 hy with h3 | h3
      · have := h1 y h3; omega
      · rw [List.mem_singleton.1 h3]; omega
    · rcases Nat.le_total m (F v) with hm | hm
      · right
        exact ⟨v, List.mem_append_right _ (List.mem_singleton.2 rfl), by rw [hkeep v (List.mem_append_right _ (List.mem_singleton.2 rfl))]; omega⟩
      · rcases h2 with h2 | ⟨y, hy, hf⟩
        · left; omega
        · right
          exact ⟨y, List.mem_append_left _ hy, by rw [hkeep y (List.mem_append_left _ hy)]; omega⟩
theorem relaxM_max : ∀ (l : List Nat) (m : Nat) (F : Nat → Nat), (∀ x, F x ≤ m) → (m = 0 ∨ ∃ x, (x < n) ∧ F x = m) → (∀ x ∈ l, x < n) →
    (∀ x, relax v l F x ≤ relaxM v l m F) ∧ (relaxM v l m F = 0 ∨ ∃ x, x < n ∧ relax v l F x = relaxM v l m F)
  | [], m, F, h1, h2, _ => ⟨h1, h2⟩
  | y :: l, m, F, h1, h2, h3 => by
    refine relaxM_max l _ _ (fun x => ?_) ?_ (fun x hx => h3 x (List.mem_cons_of_mem _ hx))
    · by_cases e : x = y
      · subst e; rw [put_at]; exact Nat.le_max_right _ _
      · rw [put_ne F _ e]; exact Nat.le_trans (h1 x) (Nat.le_max_left _ _)
    · rcases Nat.le_total m (max (F y) (F v + 1)) with hm | hm
      · right
        exact ⟨y, h3 y List.mem_cons_self, by rw [put_at]; omega⟩
      · rcases h2 with h2 | ⟨x, hx, hf⟩
        · left; omega
        · right
          by_cases e : x = y
          · subst e
            refine ⟨x, hx, ?_⟩
            rw [put_at]
            have := h1 x
            omega
          · exact ⟨x, hx, by rw [put_ne F _ e, hf]; omega⟩
theorem lgM_max (hL : ∀ u x, x ∈ L u → x < n) : ∀ (o : List Nat) (m : Nat) (F : Nat → Nat), (∀ x, F x ≤ m) → (m = 0 ∨ ∃ x, x < n ∧ F x = m) →
    (∀ x, fars L o F x ≤ lgM L o m F) ∧ (lgM L o m F = 0 ∨ ∃ x, x < n ∧ fars L o F x = lgM L o m F)
  | [], _, _, h1, h2 => ⟨h1, h2⟩
  | v :: o, m, F, h1, h2 => by
    obtain ⟨h3, h4⟩ := relaxM_max (n := n) (v := v) (L v) m F h1 h2 (hL v)
    exact lgM_max hL o _ _ h3 h4
/-- The two are one. -/
theorem lg_same {out : List Nat} (h : Top n L out) (hl : out.length = n) (hL : ∀ u x, x ∈ L u → x < n) : lgM L out 0 (fun _ => 0) = lg L out := by
  obtain ⟨a1, a2⟩ := lgF_max h out [] 0 (fun _ => 0) rfl (fun v hv => by cases hv) (.inl rfl)
  obtain ⟨b1, b2⟩ := lgM_max hL out 0 (fun _ => 0) (fun _ => Nat.le_refl _) (.inl rfl)
  show _ = lgF L out 0 _
  apply Nat.le_antisymm
  · rcases b2 with b2 | ⟨x, hx, hb⟩
    · omega
    · rw [← hb]; exact a1 x (h.all hl hx)
  · rcases a2 with a2 | ⟨x, hx, ha⟩
    · omega
    · rw [← ha]; exact b1 x
theorem lg_le {out : List Nat} (h : Top n L out) {r : Nat → Nat} (hr : ∀ u v, u < n → v ∈ L u → r u < r v) {b : Nat} (hb : ∀ v, v < n → r v ≤ b) : lg L out ≤ b := by
  obtain ⟨a1, a2⟩ := lgF_max h out [] 0 (fun _ => 0) rfl (fun v hv => by cases hv) (.inl rfl)
  show lgF L out 0 _ ≤ b
  rcases a2 with a2 | ⟨x, hx, ha⟩
  · omega
  · rw [← ha]
    exact Nat.le_trans (fars_le out (fun _ => 0) (fun _ => Nat.zero_le _) (fun u hu x hx => hr u x (h.lt u hu) hx) x) (hb x (h.lt x hx))
theorem lg_ge {out : List Nat} (h : Top n L out) (hl : out.length = n) (hL : ∀ u x, x ∈ L u → x < n) {u x : Nat} (hu : u < n) (hx : x ∈ L u) : 1 ≤ lg L out := by
  obtain ⟨a1, _⟩ := lgF_max h out [] 0 (fun _ => 0) rfl (fun v hv => by cases hv) (.inl rfl)
  exact Nat.le_trans (fars_ge out (fun _ => 0) (h.all hl hu) hx) (a1 x (h.all hl (hL u x hx)))
end
end Go.Proofs.YtkffnfgdmcebdaaGreatDoor.Rc
namespace Go.Proofs.YtkffnfgdmcebdaaGreatDoor
open Go.RowKit

namespace Pr
theorem own_cel {w : World} {base g n : Nat} {e : TypeId} {xs : List Value} (h : w.ownsRow base e 1 (.slice (some ⟨g, 0, none⟩) n n) n xs) : Cel w g xs := by
  rcases h.2 with ⟨hv, _⟩ | ⟨g', cap, cur, hv, _, hh, _, _, hs, hx⟩
  · cases hv
  · injection hv with h1 h2 h3
    injection h1 with h1
    injection h1 with h1
    subst h1; subst h3
    rw [List.take_of_length_le (by simp; omega)] at hx
    rw [← hx]
    exact cel_of hh
theorem made_one (z : Value) (h : z.cells = #[z]) (n : Nat) : (madeCells z.cells (n * 1)).toList = (List.range n).map fun _ => z := by
  rw [h]
  apply List.ext_getElem
  · simp [madeCells]
  · intro i h1 h2
    simp [madeCells, Nat.mod_one]
/-- A row of n rows in block nb, their own blocks from B on, below B'. -/
structure NX (w : World) (nb B B' n : Nat) (L : Nat → List Nat) : Prop where
  low : nb < B
  ex : ∃ (X : Nat → Option Addr) (c : Nat → Nat), Cel w nb ((List.range n).map fun i => .slice (X i) (L i).length (c i)) ∧
    (∀ i, i < n → OwnK iκ w B 3 (X i) (L i).length (c i) ((L i).map Int.ofNat) ∧ ∀ a, X i = some a → a.block < B') ∧
    (∀ i j, i < n → j < n → i ≠ j → ∀ a b, X i = some a → X j = some b → a.block ≠ b.block)
section
variable {w w' : World} {nb B B' n : Nat} {L : Nat → List Nat}
theorem NX.kept (h : NX w nb B B' n L) {row : Option Nat} (hg : w.grownBy w' row) (hne : row ≠ some nb) (hr : ∀ g, row = some g → g < B ∨ B' ≤ g) : NX w' nb B B' n L := by
  obtain ⟨X, c, hc, ho, ha⟩ := h.ex
  refine ⟨h.low, X, c, hc.kept hg hne, fun i hi => ⟨(ho i hi).1.kept hg fun a hx e => ?_, (ho i hi).2⟩, ha⟩
  have h1 := ((ho i hi).1.block hx).1
  have h2 := (ho i hi).2 a hx
  have := hr _ e
  omega
theorem NX.up (h : NX w nb B B' n L) {B2 : Nat} (hb : B' ≤ B2) : NX w nb B B2 n L := by
  obtain ⟨X, c, hc, ho, ha⟩ := h.ex
  exact ⟨h.low, X, c, hc, fun i hi => ⟨(ho i hi).1, fun a hx => Nat.lt_of_lt_of_le ((ho i hi).2 a hx) hb⟩, ha⟩
theorem NX.put {X : Nat → Option Addr} {c : Nat → Nat} (hlow : nb < B) (hc : Cel w nb ((List.range n).map fun i => .slice (X i) (L i).length (c i)))
    (ho : ∀ i, i < n → OwnK iκ w B 3 (X i) (L i).length (c i) ((L i).map Int.ofNat)) (ha : ∀ i j, i < n → j < n → i ≠ j → ∀ a b, X i = some a → X j = some b → a.block ≠ b.block)
    {i : Nat} (hi : i < n) {X' : Option Addr} {c' t : Nat} (hg : Grew w w' (.slice (X i) (L i).length (c i)) (.slice X' ((L i).length + 1) c')) (ho' : OwnK iκ w' B 3 X' ((L i).length + 1) c' ((L i).map Int.ofNat ++ [(t : Int)])) :
    NX (w'.setCell ⟨nb, i, none⟩ (.slice X' ((L i).length + 1) c')) nb B w'.heap.size n (fun j => if j = i then L j ++ [t] else L j) ∧ Cel w' nb ((List.range n).map fun i => .slice (X i) (L i).length (c i)) := by
  have hrow : ∀ b : Nat, (∀ a, X i = some a → a.block ≠ b) → (Value.slice (X i) (L i).length (c i)).ownBlock ≠ some b := by
    intro b hb he
    cases hx : X i with
    | none => rw [hx] at he; cases he
    | some a => rw [hx] at he; exact hb a hx (Option.some.inj he)
  have hc1 : Cel w' nb ((List.range n).map fun i => .slice (X i) (L i).length (c i)) := hc.kept hg.grown (hrow nb fun a hx e => by have := ((ho i hi).block hx).1; omega)
  have hc2 := hc1.set (i := i) (by simpa using hi) (.slice X' ((L i).length + 1) c')
  rw [set_range] at hc2
  have hset : w'.grownBy (w'.setCell ⟨nb, i, none⟩ (.slice X' ((L i).length + 1) c')) (some nb) := grown_setCell w' ⟨nb, i, none⟩ _
  refine ⟨⟨hlow, fun j => if j = i then X' else X j, fun j => if j = i then c' else c j, ?_, ?_, ?_⟩, hc1⟩
  · have e : (fun j => Value.slice (if j = i then X' else X j) (if j = i then L j ++ [t] else L j).length (if j = i then c' else c j)) = fun j => if j = i then .slice X' ((L i).length + 1) c' else .slice (X j) (L j).length (c j) := by
      funext j
      by_cases h : j = i
      · subst h; simp
      · simp [h]
    rw [e]
    exact hc2
  · intro j hj
    by_cases h : j = i
    · subst h
      simp only [if_true]
      refine ⟨?_, fun a hx => ?_⟩
      · have := ho'.kept hset fun a hx e => by have := (ho'.block hx).1; have := Option.some.inj e; omega
        rw [List.length_append, List.map_append]
        exact this
      · exact (ho'.block hx).2
    · simp only [h, if_false]
      have h1 := (ho j hj).kept hg.grown fun a hx => hrow a.block fun a0 h0 => ha i j hi hj (fun e => h e.symm) a0 a h0 hx
      refine ⟨h1.kept hset fun a hx e => ?_, fun a hx => (h1.block hx).2⟩
      have := (h1.block hx).1
      have := Option.some.inj e
      omega
  · intro j k hj hk hne a b hx hy
    have far : ∀ k, k < n → k ≠ i → ∀ b, X k = some b → ∀ a, X' = some a → a.block ≠ b.block := by
      intro k hk hki b hy a hx
      rcases grew_block hg ho' hx with ⟨a0, h0, h1⟩ | h1
      · rw [← h1]; exact ha i k hi hk (fun e => hki e.symm) a0 b h0 hy
      · have := ((ho k hk).block hy).2; omega
    by_cases h : j = i
    · subst h
      have hk' : k ≠ j := fun e => hne e.symm
      simp only [if_true] at hx
      simp only [hk', if_false] at hy
      exact far k hk hk' b hy a hx
    · by_cases h' : k = i
      · subst h'
        simp only [h, if_false] at hx
        simp only [if_true] at hy
        exact fun e => far j hj h a hx b hy e.symm
      · simp only [h, if_false] at hx
        simp only [h', if_false] at hy
        exact ha j k hj hk hne a b hx hy
end
theorem own_ne {A : Option Addr} {k c b : Nat} (hb : ∀ a, A = some a → a.block ≠ b) : (Value.slice A k c).ownBlock ≠ some b := by
  intro he
  cases A with
  | none => cases he
  | some a => exact hb a rfl (Option.some.inj he)
def wv (W : Nat → Int) (n : Nat) : List Value := (List.range n).map fun v => .int .i64 (W v)
theorem wv_at (W : Nat → Int) {n i : Nat} (h : i < n) : (wv W n)[i]? = some (.int .i64 (W i)) := by
  unfold wv
  rw [List.getElem?_map, List.getElem?_range h]
  rfl
/-- The same, where each row lies told. -/
structure NR (w : World) (nb B B' n : Nat) (L : Nat → List Nat) (X : Nat → Option Addr) (c : Nat → Nat) : Prop where
  low : nb < B
  cel : Cel w nb ((List.range n).map fun i => .slice (X i) (L i).length (c i))
  own : ∀ i, i < n → OwnK iκ w B 3 (X i) (L i).length (c i) ((L i).map Int.ofNat) ∧ ∀ a, X i = some a → a.block < B'
theorem NX.nr {w : World} {nb B B' n : Nat} {L : Nat → List Nat} (h : NX w nb B B' n L) : ∃ X c, NR w nb B B' n L X c := by
  obtain ⟨X, c, hc, ho, _⟩ := h.ex
  exact ⟨X, c, h.low, hc, ho⟩
theorem NR.kept {w w' : World} {nb B B' n : Nat} {L : Nat → List Nat} {X : Nat → Option Addr} {c : Nat → Nat} (h : NR w nb B B' n L X c) {row : Option Nat} (hg : w.grownBy w' row) (hne : row ≠ some nb) (hr : ∀ g, row = some g → g < B ∨ B' ≤ g) : NR w' nb B B' n L X c := by
  refine ⟨h.low, h.cel.kept hg hne, fun i hi => ⟨(h.own i hi).1.kept hg fun a hx e => ?_, (h.own i hi).2⟩⟩
  have h1 := ((h.own i hi).1.block hx).1
  have h2 := (h.own i hi).2 a hx
  have := hr _ e
  omega
/-- The memory of Ring behind its first loop: a box in block pb, the rows in nb, the counts in yb, who is gone in a row of its own. -/
structure KM (w wr : World) (pb nb yb B q n : Nat) (cs : List Value) (L : Nat → List Nat) (R : Nat → Option Addr) (rc : Nat → Nat) (G : List Nat) (W : Nat → Int) (X : Option Addr) (cc : Nat) : Prop where
  rows : NR wr nb B q n L R rc
  ways : Cel wr yb (wv W n)
  gone : OwnK iκ wr q 3 X G.length cc (G.map Int.ofNat)
  box : Cel wr pb cs
  bel : Below pb w wr
  le : q ≤ wr.heap.size
  o1 : pb < nb
  o2 : nb < yb
  o3 : yb < B
  o4 : B ≤ q
section
variable {w wr w' : World} {pb nb yb B q n : Nat} {cs : List Value} {L : Nat → List Nat} {R : Nat → Option Addr} {rc : Nat → Nat} {G : List Nat} {W : Nat → Int} {X : Option Addr} {cc : Nat}
theorem KM.below (h : KM w wr pb nb yb B q n cs L R rc G W X cc) (hb : Below wr.heap.size wr w') : KM w w' pb nb yb B q n cs L R rc G W X cc :=
  ⟨h.rows.kept (grown_none hb (Nat.le_refl _)) (by simp) (fun g hg => by cases hg), h.ways.below hb (Nat.le_refl _), h.gone.below hb (Nat.le_refl _), h.box.below hb (Nat.le_refl _),
    h.bel.trans (hb.mono (by have := h.le; have := h.o1; have := h.o2; have := h.o3; have := h.o4; omega)), Nat.le_trans h.le hb.size, h.o1, h.o2, h.o3, h.o4⟩
theorem KM.set (h : KM w wr pb nb yb B q n cs L R rc G W X cc) {v : Nat} (hv : v < n) (x : Int) : KM w (wr.setCell ⟨yb, v, none⟩ (.int .i64 x)) pb nb yb B q n cs L R rc G (fun i => if i = v then x else W i) X cc := by
  have hg : wr.grownBy (wr.setCell ⟨yb, v, none⟩ (.int .i64 x)) (some yb) := grown_setCell wr ⟨yb, v, none⟩ _
  have o1 := h.o1
  have o2 := h.o2
  have o3 := h.o3
  have o4 := h.o4
  refine ⟨h.rows.kept hg (fun e => by have := Option.some.inj e; omega) (fun g hh => by have := Option.some.inj hh; omega), ?_, h.gone.kept hg (fun a ha e => by have := (h.gone.block ha).1; have := Option.some.inj e; omega),
    h.box.kept hg (fun e => by have := Option.some.inj e; omega), h.bel.setCell (p := ⟨yb, v, none⟩) (by show pb ≤ yb; omega) _, by simpa using h.le, o1, o2, o3, o4⟩
  have h1 := h.ways.set (i := v) (by unfold wv; simpa using hv) (.int .i64 x)
  unfold wv at h1
  rw [set_range] at h1
  have h2 : (fun i => if i = v then Value.int .i64 x else .int .i64 (W i)) = fun i => .int .i64 (if i = v then x else W i) := by
    funext i
    by_cases e : i = v <;> simp [e]
  rw [h2] at h1
  exact h1
theorem KM.app (h : KM w wr pb nb yb B q n cs L R rc G W X cc) {X' : Option Addr} {c' t : Nat} (hg : Grew wr w' (.slice X G.length cc) (.slice X' (G.length + 1) c')) (ho : OwnK iκ w' q 3 X' (G.length + 1) c' (G.map Int.ofNat ++ [(t : Int)])) :
    KM w w' pb nb yb B q n cs L R rc (G ++ [t]) W X' c' := by
  have o1 := h.o1
  have o2 := h.o2
  have o3 := h.o3
  have o4 := h.o4
  have hne : ∀ b, b < q → (Value.slice X G.length cc).ownBlock ≠ some b := fun b hb => own_ne fun a ha e => by have := (h.gone.block ha).1; omega
  refine ⟨h.rows.kept hg.grown (hne nb (by omega)) (fun g hh => .inr ?_), h.ways.kept hg.grown (hne yb (by omega)), ?_, h.box.kept hg.grown (hne pb (by omega)), h.bel.trans ((hg.below h.gone.2 h.le).mono (by omega)), Nat.le_trans h.le hg.size, o1, o2, o3, o4⟩
  · cases hx : X with
    | none => rw [hx] at hh; cases hh
    | some a =>
      rw [hx] at hh
      have := (h.gone.block hx).1
      have := Option.some.inj hh
      omega
  · rw [List.length_append, List.map_append]
    exact ho
end
end Pr
end Go.Proofs.YtkffnfgdmcebdaaGreatDoor
namespace Go.Proofs.YtkffnfgdmcebdaaGreatDoor
open Go.RowKit

namespace Pr
/-- Are both ends of a flow nodes? -/
def okF (n : Nat) (f : Fl) : Bool := (decide (0 ≤ f.frm) && decide (f.frm < n)) && (decide (0 ≤ f.til) && decide (f.til < n))
theorem okF_iff {n : Nat} {f : Fl} : okF n f = true ↔ ∃ a b : Nat, f.frm = a ∧ f.til = b ∧ a < n ∧ b < n := by
  unfold okF
  simp only [Bool.and_eq_true, decide_eq_true_eq]
  exact ⟨fun h => ⟨f.frm.toNat, f.til.toNat, by omega, by omega, by omega, by omega⟩, fun ⟨a, b, h1, h2, h3, h4⟩ => by omega⟩
/-- Where the first j flows lead from u; where those to u come from. -/
def nxt (n : Nat) (fl : List Fl) (j u : Nat) : List Nat := ((fl.take j).filter fun f => okF n f && f.frm == (u : Int)).map fun f => f.til.toNat
def bck (n : Nat) (fl : List Fl) (j u : Nat) : List Nat := ((fl.take j).filter fun f => okF n f && f.til == (u : Int)).map fun f => f.frm.toNat
theorem take_one {fl : List Fl} {j : Nat} (hj : j < fl.length) : fl.take (j + 1) = fl.take j ++ [fl[j]!] := by
  rw [List.take_add_one, List.getElem?_eq_getElem hj, getElem!_pos fl j hj]; rfl
theorem nxt_bad {n : Nat} {fl : List Fl} {j : Nat} (hj : j < fl.length) (h : okF n fl[j]! = false) : nxt n fl (j + 1) = nxt n fl j := by
  funext u
  unfold nxt
  rw [take_one hj, List.filter_append, List.filter_cons, h]
  simp
theorem bck_bad {n : Nat} {fl : List Fl} {j : Nat} (hj : j < fl.length) (h : okF n fl[j]! = false) : bck n fl (j + 1) = bck n fl j := by
  funext u
  unfold bck
  rw [take_one hj, List.filter_append, List.filter_cons, h]
  simp
theorem nxt_good {n : Nat} {fl : List Fl} {j a b : Nat} (hj : j < fl.length) (h : okF n fl[j]! = true) (ha : (fl[j]!).frm = a) (hb : (fl[j]!).til = b) : (fun u => if u = a then nxt n fl j u ++ [b] else nxt n fl j u) = nxt n fl (j + 1) := by
  funext u
  unfold nxt
  rw [take_one hj, List.filter_append, List.filter_cons, h, ha]
  by_cases e : u = a
  · subst e
    generalize fl[j]! = f at *
    simp [hb]
  · have e' : ¬ (a : Int) = (u : Int) := by omega
    simp [e, e']
theorem bck_good {n : Nat} {fl : List Fl} {j a b : Nat} (hj : j < fl.length) (h : okF n fl[j]! = true) (ha : (fl[j]!).til = a) (hb : (fl[j]!).frm = b) : (fun u => if u = a then bck n fl j u ++ [b] else bck n fl j u) = bck n fl (j + 1) := by
  funext u
  unfold bck
  rw [take_one hj, List.filter_append, List.filter_cons, h, ha]
  by_cases e : u = a
  · subst e
    generalize fl[j]! = f at *
    simp [hb]
  · have e' : ¬ (a : Int) = (u : Int) := by omega
    simp [e, e']
theorem nxt_len (n : Nat) (fl : List Fl) (j u : Nat) : (nxt n fl j u).length ≤ j := by
  unfold nxt
  rw [List.length_map]
  exact Nat.le_trans (List.length_filter_le _ _) (by rw [List.length_take]; omega)
theorem bck_len (n : Nat) (fl : List Fl) (j u : Nat) : (bck n fl j u).length ≤ j := by
  unfold bck
  rw [List.length_map]
  exact Nat.le_trans (List.length_filter_le _ _) (by rw [List.length_take]; omega)
theorem nxt_mem {n : Nat} {fl : List Fl} {j u v : Nat} : v ∈ nxt n fl j u ↔ ∃ f ∈ fl.take j, okF n f = true ∧ f.frm = (u : Int) ∧ f.til = (v : Int) := by
  unfold nxt
  simp only [List.mem_map, List.mem_filter, Bool.and_eq_true, beq_iff_eq]
  constructor
  · rintro ⟨f, ⟨h1, h2, h3⟩, h4⟩
    obtain ⟨a, b, e1, e2, _, _⟩ := okF_iff.1 h2
    exact ⟨f, h1, h2, h3, by omega⟩
  · rintro ⟨f, h1, h2, h3, h4⟩
    exact ⟨f, ⟨h1, h2, h3⟩, by omega⟩
theorem bck_mem {n : Nat} {fl : List Fl} {j u v : Nat} : v ∈ bck n fl j u ↔ ∃ f ∈ fl.take j, okF n f = true ∧ f.til = (u : Int) ∧ f.frm = (v : Int) := by
  unfold bck
  simp only [List.mem_map, List.mem_filter, Bool.and_eq_true, beq_iff_eq]
  constructor
  · rintro ⟨f, ⟨h1, h2, h3⟩, h4⟩
    obtain ⟨a, b, e1, e2, _, _⟩ := okF_iff.1 h2
    exact ⟨f, h1, h2, h3, by omega⟩
  · rintro ⟨f, h1, h2, h3, h4⟩
    exact ⟨f, ⟨h1, h2, h3⟩, by omega⟩
theorem nxt_lt {n : Nat} {fl : List Fl} {j u v : Nat} (h : v ∈ nxt n fl j u) : u < n ∧ v < n := by
  obtain ⟨f, _, h2, h3, h4⟩ := nxt_mem.1 h
  obtain ⟨a, b, e1, e2, h5, h6⟩ := okF_iff.1 h2
  omega
theorem bck_lt {n : Nat} {fl : List Fl} {j u v : Nat} (h : v ∈ bck n fl j u) : u < n ∧ v < n := by
  obtain ⟨f, _, h2, h3, h4⟩ := bck_mem.1 h
  obtain ⟨a, b, e1, e2, h5, h6⟩ := okF_iff.1 h2
  omega
theorem nxt_bck {n : Nat} {fl : List Fl} {j u v : Nat} : v ∈ nxt n fl j u ↔ u ∈ bck n fl j v := by
  rw [nxt_mem, bck_mem]
  exact ⟨fun ⟨f, a, b, c, d⟩ => ⟨f, a, b, d, c⟩, fun ⟨f, a, b, c, d⟩ => ⟨f, a, b, d, c⟩⟩

section
variable {w : World}
set_option maxHeartbeats 400000 in
theorem isplace_any (k n : Int) (w : World) : Calls Tryz.prog 122 #[.int .i64 k, .int .i64 n] w fun e w' => e = .returned (.bool (decide (0 ≤ k) && decide (k < n))) ∧ w = w' := by
  obtain ⟨R, hR⟩ : ∃ R, (decide (0 ≤ k) && decide (k < n)) = R := ⟨_, rfl⟩
  rw [hR]
  by_cases h1 : 0 ≤ k
  · by_cases h2 : k < n
    · obtain rfl : R = true := by rw [← hR, decide_eq_true h1, decide_eq_true h2]; rfl
      clear hR
      go_enter Tryz.func122, Tryz.ntmps122
      go_wp2
      go_ret
      exact ⟨rfl, rfl⟩
    · obtain rfl : R = false := by rw [← hR, decide_eq_true h1, decide_eq_false h2]; rfl
      clear hR
      go_enter Tryz.func122, Tryz.ntmps122
      go_wp2
      go_ret
      exact ⟨rfl, rfl⟩
  · obtain rfl : R = false := by rw [← hR, decide_eq_false h1]; rfl
    clear hR
    go_enter Tryz.func122, Tryz.ntmps122
    go_wp2
    go_ret
    exact ⟨rfl, rfl⟩
set_option maxHeartbeats 800000 in
theorem joins_any (s : ByteArray) (A : Option Addr) (n c : Nat) (F : Option Addr) (m d : Nat) (f : Fl) (w : World) :
    Calls Tryz.prog 123 #[.agg #[.string s, .slice A n c, .slice F m d], .agg #[.int .i64 f.frm, .int .i64 f.til, .string f.cond]] w fun e w' => e = .returned (.bool (okF n f)) ∧ Below w.heap.size w w' := by
  obtain ⟨R, hR⟩ : ∃ R, okF n f = R := ⟨_, rfl⟩
  rw [hR]
  unfold okF at hR
  have hp1 := Cel.lit w #[.string s, .slice A n c, .slice F m d] 30
  have hb1 := (Below.refl w.heap.size w).alloc (Nat.le_refl _) (.cells #[.string s, .slice A n c, .slice F m d] 30)
  have hp2 := Cel.lit (w.alloc (.cells #[.string s, .slice A n c, .slice F m d] 30)) #[.int .i64 f.frm, .int .i64 f.til, .string f.cond] 82
  have HB := Lib.hid (hb1.alloc hb1.size (.cells #[.int .i64 f.frm, .int .i64 f.til, .string f.cond] 82))
  have HP := Lib.hid (hp1.alloc (.cells #[.int .i64 f.frm, .int .i64 f.til, .string f.cond] 82))
  have HF := Lib.hid hp2
  have s1 : (w.alloc (.cells #[.string s, .slice A n c, .slice F m d] 30)).heap.size = w.heap.size + 1 := by simp
  rw [s1] at HF
  clear hb1 hp1 hp2 s1
  go_enter Tryz.func123, Tryz.ntmps123
  go_upto_region 1 with (fail)
  generalize (w.alloc _).alloc _ = wb at *
  obtain ⟨⟨z0, z1, z2⟩, _⟩ := tri_facts HP.out
  obtain ⟨⟨y0, y1, y2⟩, _⟩ := tri_facts HF.out
  go_wp2_with fail
  refine (isplace_any f.frm (n : Int) _).mono ?_
  rintro e wy ⟨rfl, rfl⟩
  by_cases h1 : (decide (0 ≤ f.frm) && decide (f.frm < (n : Int))) = true
  · rw [h1, Bool.true_and] at hR
    rw [h1]
    clear h1
    go_wp2_with fail
    refine (isplace_any f.til (n : Int) _).mono ?_
    rintro e wy ⟨rfl, rfl⟩
    rw [hR]
    clear hR
    go_wp2
    go_ret
    exact ⟨rfl, HB.out⟩
  · rw [Bool.not_eq_true] at h1
    rw [h1, Bool.false_and] at hR
    subst hR
    rw [h1]
    clear h1
    go_wp2
    go_ret
    exact ⟨rfl, HB.out⟩
end
end Pr
end Go.Proofs.YtkffnfgdmcebdaaGreatDoor
