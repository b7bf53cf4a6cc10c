/- A slice of structs of any width that came in. -/
import Derived.Test.YtfpennnbicclfaaGq
import Derived.Test.YtfpennnbicclfaaOpen
namespace Go.Proofs.Ytfpennnbicclfaa
open Go.ChangeShapes Go.WideShapes Go.RowKit

theorem open_rowk {α : Type} [Inhabited α] {κ : Cs α} {H : Type} {enc : TypeId × Value → H} {P : Program} {W : World} {t e : TypeId} {cs : List Value} {fuel : Nat} {x : DataW H × List MemPlace} (ok : α → Prop)
    (ht : P.underlying t = some (.slice e)) (hc : P.cellsOf e = κ.k) (hk : 0 < κ.k)
    (hel : ∀ n cs x, cs.length = κ.k → DataW.trod enc P W 0 (fun _ => true) true n e cs = some x → ∃ y, cs = κ.cs y ∧ ok y)
    (hf : DataW.trod enc P W 0 (fun _ => true) true fuel t cs = some x) : ∃ (a : Option Addr) (len cap : Nat) (l : List α), cs = [.slice a len cap] ∧ InRow W κ.k a len cap (l.flatMap κ.cs) ∧ l.length = len ∧ ∀ y ∈ l, ok y := by
  rcases Deep.open_slice ht hf with ⟨hcs, _⟩ | ⟨x, len, cap, m, n, D, Pl, hcs, _, hl, hm, hmm, _, hx⟩
  · exact ⟨_, _, _, [], hcs, ⟨RowS.nil _ _ _ _, fun _ => ⟨rfl, rfl⟩, Nat.le_refl _, by simp [maxLen]⟩, rfl, fun y h => by cases h⟩
  · simp only [if_true] at hmm
    subst hmm
    have each : ∀ i, i < m → ∃ y : α, (∀ j v, (κ.cs y)[j]? = some v → W.cell? (x.add (i * κ.k + j)) = some v) ∧ ok y := by
      intro i hi
      obtain ⟨cs', h1, h2⟩ := hx i hi
      rw [hc] at h1
      obtain ⟨_, hlen, hcell⟩ := World.cells?_some h1
      obtain ⟨y, rfl, hy⟩ := hel _ _ _ hlen h2
      refine ⟨y, fun j v hv => ?_, hy⟩
      have hj := (List.getElem?_eq_some_iff.1 hv).1
      have h3 := hcell j (by rw [← hlen]; exact hj)
      rw [Deep.add_add] at h3
      rw [h3]
      first | exact hv | (simpa using hv)
    obtain ⟨Y, hY⟩ := Deep.choose_lt each
    refine ⟨_, _, _, (List.range len).map Y, hcs, ⟨⟨by rw [Cs.flat_len]; simp, fun h0 => ?_⟩, (fun h => by cases h), hl, hm⟩, by simp, fun y hy => ?_⟩
    · obtain ⟨v0, hv0⟩ : ∃ v, (κ.cs (Y 0))[0]? = some v := ⟨_, List.getElem?_eq_getElem (by rw [κ.len]; exact hk)⟩
      have h1 := (hY 0 (by omega)).1 0 v0 hv0
      obtain ⟨b, off, spot⟩ := x
      obtain rfl : spot = none := by simpa [Addr.add] using World.cell?_spot h1
      have hlt : b < W.heap.size := by simpa [Addr.add] using cell_lt h1
      refine ⟨b, off, rfl, hlt, fun k v hv => ?_⟩
      have hkl : k < len * κ.k := by
        have := (List.getElem?_eq_some_iff.1 hv).1
        rw [Cs.flat_len] at this
        simpa using this
      have hj : k / κ.k < len := (Nat.div_lt_iff_lt_mul hk).2 hkl
      have hke : k / κ.k * κ.k + k % κ.k = k := by rw [Nat.mul_comm]; exact Nat.div_add_mod k κ.k
      have h2 := Cs.flat_at κ ((List.range len).map Y) (k / κ.k) (k % κ.k) (by simpa using hj) (Nat.mod_lt _ hk)
      rw [hke, hv] at h2
      have h3 := (hY (k / κ.k) (by omega)).1 (k % κ.k) v (by rw [h2]; simp)
      rw [hke, addr_add] at h3
      exact h3
    · obtain ⟨i, hi, rfl⟩ := List.mem_map.1 hy
      exact (hY i (by have := List.mem_range.1 hi; omega)).2
end Go.Proofs.Ytfpennnbicclfaa
