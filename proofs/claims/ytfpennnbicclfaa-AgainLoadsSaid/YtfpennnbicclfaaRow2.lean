/- A slice of structs of any width that came in, and how much it takes: the reading's weights. -/
import Derived.Test.YtfpennnbicclfaaRok
import Derived.Test.YtfpennnbicclfaaOpb
import Derived.SizedLaws
namespace Go.Proofs.Ytfpennnbicclfaa
open Go.ChangeShapes Go.WideShapes Go.RowKit

theorem mem_all {H : Type} {P : Program} {e : TypeId} {v : Nat} {d : DataW H} : ∀ {l : List (DataW H)}, d ∈ l → v ∈ d.weights P e → v ∈ DataW.weightsAll P e l
  | y :: r, hd, hv => by
    unfold DataW.weightsAll
    rw [List.mem_append]
    rcases List.mem_cons.1 hd with rfl | hd
    · exact .inl hv
    · exact .inr (mem_all hd hv)
theorem slice_weights {H : Type} {P : Program} {t e : TypeId} {elems spare : List (DataW H)} {R : Nat} (hu : P.underlying t = some (.slice e)) (hw : ∀ v ∈ (DataW.slice elems spare).weights P t, v ≤ R) :
    elems.length * P.bytesOf e ≤ R ∧ ∀ d ∈ elems, ∀ v ∈ d.weights P e, v ≤ R := by
  have h0 : (DataW.slice elems spare).weights P t = (elems.length + spare.length) * P.bytesOf e :: (DataW.weightsAll P e elems ++ DataW.weightsAll P e spare) := by
    simp [DataW.weights, hu]
  rw [h0] at hw
  constructor
  · exact Nat.le_trans (Nat.mul_le_mul_right _ (Nat.le_add_right _ _)) (hw _ List.mem_cons_self)
  · intro d hd v hv
    exact hw v (List.mem_cons_of_mem _ (List.mem_append.2 (.inl (mem_all hd hv))))
theorem open_rowk_w {α : Type} [Inhabited α] {κ : Cs α} {H : Type} {enc : TypeId × Value → H} {P : Program} {W : World} {t e : TypeId} {cs : List Value} {fuel : Nat} {x : DataW H × List MemPlace} (R : Nat) (ok : α → Prop)
    (ht : P.underlying t = some (.slice e)) (hc : P.cellsOf e = κ.k) (hk : 0 < κ.k)
    (hel : ∀ n cs x, cs.length = κ.k → DataW.trod enc P W 0 (fun _ => true) true n e cs = some x → (∀ v ∈ x.1.weights P e, v ≤ R) → ∃ y, cs = κ.cs y ∧ ok y)
    (hf : DataW.trod enc P W 0 (fun _ => true) true fuel t cs = some x) (hw : ∀ v ∈ x.1.weights P t, v ≤ R) : ∃ (a : Option Addr) (len cap : Nat) (l : List α), cs = [.slice a len cap] ∧ InRow W κ.k a len cap (l.flatMap κ.cs) ∧ l.length = len ∧ ∀ y ∈ l, ok y := by
  rcases Deep.open_slice ht hf with ⟨hcs, _⟩ | ⟨x, len, cap, m, n, D, Pl, hcs, _, hl, hm, hmm, hxx, hx⟩
  · exact ⟨_, _, _, [], hcs, ⟨RowS.nil _ _ _ _, fun _ => ⟨rfl, rfl⟩, Nat.le_refl _, by simp [maxLen]⟩, rfl, fun y h => by cases h⟩
  · simp only [if_true] at hmm
    subst hmm
    rw [hxx] at hw
    obtain ⟨_, hwe⟩ := slice_weights ht hw
    have each : ∀ i, i < len → ∃ y : α, (∀ j v, (κ.cs y)[j]? = some v → W.cell? (x.add (i * κ.k + j)) = some v) ∧ ok y := by
      intro i hi
      obtain ⟨cs', h1, h2⟩ := hx i (by omega)
      rw [hc] at h1
      obtain ⟨_, hlen, hcell⟩ := World.cells?_some h1
      obtain ⟨y, rfl, hy⟩ := hel _ _ _ hlen h2 (hwe (D i) (List.mem_map.2 ⟨i, List.mem_range.2 hi, rfl⟩))
      refine ⟨y, fun j v hv => ?_, hy⟩
      have hj := (List.getElem?_eq_some_iff.1 hv).1
      have h3 := hcell j (by rw [← hlen]; exact hj)
      rw [Deep.add_add] at h3
      rw [h3]
      first | exact hv | (simpa using hv)
    obtain ⟨Y, hY⟩ := Deep.choose_lt each
    refine ⟨_, _, _, (List.range len).map Y, hcs, ⟨⟨by rw [Cs.flat_len]; simp, fun h0 => ?_⟩, (fun h => by cases h), hl, hm⟩, by simp, fun y hy => ?_⟩
    · obtain ⟨v0, hv0⟩ : ∃ v, (κ.cs (Y 0))[0]? = some v := ⟨_, List.getElem?_eq_getElem (by rw [κ.len]; exact hk)⟩
      have h1 := (hY 0 (by omega)).1 0 v0 hv0
      obtain ⟨b, off, spot⟩ := x
      obtain rfl : spot = none := by simpa [Addr.add] using World.cell?_spot h1
      have hlt : b < W.heap.size := by simpa [Addr.add] using cell_lt h1
      refine ⟨b, off, rfl, hlt, fun k v hv => ?_⟩
      have hkl : k < len * κ.k := by
        have := (List.getElem?_eq_some_iff.1 hv).1
        rw [Cs.flat_len] at this
        simpa using this
      have hj : k / κ.k < len := (Nat.div_lt_iff_lt_mul hk).2 hkl
      have hke : k / κ.k * κ.k + k % κ.k = k := by rw [Nat.mul_comm]; exact Nat.div_add_mod k κ.k
      have h2 := Cs.flat_at κ ((List.range len).map Y) (k / κ.k) (k % κ.k) (by simpa using hj) (Nat.mod_lt _ hk)
      rw [hke, hv] at h2
      have h3 := (hY (k / κ.k) hj).1 (k % κ.k) v (by rw [h2]; simp)
      rw [hke, addr_add] at h3
      exact h3
    · obtain ⟨i, hi, rfl⟩ := List.mem_map.1 hy
      exact (hY i (List.mem_range.1 hi)).2
/-- A slice of bytes that came in, and its length within the reach. -/
theorem open_bytes_w {H : Type} {enc : TypeId × Value → H} {P : Program} {W : World} {t e : TypeId} {n R : Nat} {V : Value} {x : DataW H × List MemPlace}
    (ht : P.underlying t = some (.slice e)) (he : P.underlying e = some (.int .u8)) (hc : P.cellsOf e = 1) (hb : P.bytesOf e = 1)
    (h : DataW.trod enc P W 0 (fun _ => true) true n t [V] = some x) (hw : ∀ v ∈ x.1.weights P t, v ≤ R) : ∃ p : Part, V = p.val ∧ PartIn W p ∧ p.n ≤ R := by
  obtain ⟨p, rfl, hp⟩ := open_bytes_cell ht he hc h
  refine ⟨p, rfl, hp, ?_⟩
  rcases Deep.open_slice ht h with ⟨hcs, _⟩ | ⟨a, len, cap, m, n', D, Pl, hcs, _, hl, hm, hmm, hxx, hx⟩
  · unfold Part.val at hcs
    simp at hcs
    rw [hcs.2.1]
    exact Nat.zero_le _
  · unfold Part.val at hcs
    simp at hcs
    rw [hxx] at hw
    have h1 := (slice_weights ht hw).1
    rw [hb, List.length_map, List.length_range] at h1
    rw [hcs.2.1]
    omega
end Go.Proofs.Ytfpennnbicclfaa
