/- A slice of structs of three integers that came in. -/
import Derived.Test.YtlglinclendkkaaDoorProg
import Derived.Test.YtlglinclendkkaaDoorOpen
import Derived.KernelRfl
namespace Go.Proofs.YtlglinclendkkaaDoor
open Go.ChangeShapes Go.WideShapes Go.RowKit

def doCells (y : Int × Int × Int) : List Value := [.int .i64 y.1, .int .i64 y.2.1, .int .i64 y.2.2]
/-- All three are within 64 bits. -/
structure InDo (y : Int × Int × Int) : Prop where
  k0 : -9223372036854775808 ≤ y.1
  k1 : y.1 ≤ 9223372036854775807
  a0 : -9223372036854775808 ≤ y.2.1
  a1 : y.2.1 ≤ 9223372036854775807
  b0 : -9223372036854775808 ≤ y.2.2
  b1 : y.2.2 ≤ 9223372036854775807

theorem flat_len (l : List (Int × Int × Int)) : (l.flatMap doCells).length = l.length * 3 := by
  induction l with
  | nil => rfl
  | cons y l ih => simp only [List.flatMap_cons, List.length_append, List.length_cons, ih, doCells, List.length_nil]; omega
theorem flat_at : ∀ (l : List (Int × Int × Int)) (j i : Nat) (hj : j < l.length), i < 3 → (l.flatMap doCells)[j * 3 + i]? = (doCells l[j])[i]?
  | y :: l, 0, i, _, hi => by
    rw [List.flatMap_cons, List.getElem?_append_left (by simp [doCells]; omega)]
    simp
  | y :: l, j + 1, i, hj, hi => by
    rw [List.flatMap_cons, List.getElem?_append_right (by simp [doCells]; omega)]
    have := flat_at l j i (by simpa using hj) hi
    rw [show (j + 1) * 3 + i - (doCells y).length = j * 3 + i from by simp [doCells]; omega, this]
    simp

theorem add_of (b off k : Nat) : (⟨b, off, none⟩ : Addr).add k = ⟨b, off + k, none⟩ := addr_add b off k

theorem open_structs31 {H : Type} {enc : TypeId × Value → H} {W : World} {a : Option Addr} {len cap : Nat} {d : DataW H} {ps : List MemPlace}
    (h : DataW.Trod enc Tryd.prog W 0 (fun _ => true) true 23 (.slice a len cap) d ps) : ∃ l : List (Int × Int × Int), InRow W 3 a len cap (l.flatMap doCells) ∧ ∀ y ∈ l, InDo y := by
  have ce : Tryd.prog.cellsOf 31 = 3 := by kernel_rfl
  have c3 : Tryd.prog.cellsOf 3 = 1 := by kernel_rfl
  have c2 : Tryd.prog.cellsOf 2 = 1 := by kernel_rfl
  obtain ⟨fuel, hf⟩ := h
  rcases Deep.open_slice Tryd.underlying23 hf with ⟨hcs, _⟩ | ⟨x, l, c, m, n, D, Pl, hcs, _, hl, hm, hmm, _, hx⟩
  · simp [Value.cells] at hcs
    obtain ⟨rfl, rfl, rfl⟩ := hcs
    exact ⟨[], ⟨RowS.nil _ _ _ _, fun _ => ⟨rfl, rfl⟩, Nat.le_refl _, by simp [maxLen]⟩, fun y h => by cases h⟩
  · simp [Value.cells] at hcs
    obtain ⟨rfl, rfl, rfl⟩ := hcs
    simp only [if_true] at hmm
    subst hmm
    have each : ∀ i, i < m → ∃ y : Int × Int × Int, W.cell? (x.add (i * 3)) = some (.int .i64 y.1) ∧ W.cell? (x.add (i * 3 + 1)) = some (.int .i64 y.2.1) ∧ W.cell? (x.add (i * 3 + 2)) = some (.int .i64 y.2.2) ∧ InDo y := by
      intro i hi
      obtain ⟨cs', h1, h2⟩ := hx i hi
      rw [ce] at h1
      obtain ⟨_, hlen, hcell⟩ := World.cells?_some h1
      obtain ⟨xs, k, hk, hxy, _, hxl, hfd⟩ := DataW.trod_struct Tryd.underlying31 h2
      match xs, hxl, cs', hlen with
      | [y0, y1, y2], _, [v0, v1, v2], _ =>
        have g0 := hfd 0 _ rfl
        have g1 := hfd 1 _ rfl
        have g2 := hfd 2 _ rfl
        simp [c3, c2] at g0 g1 g2
        have e0 := hcell 0 (by omega)
        have e1 := hcell 1 (by omega)
        have e2 := hcell 2 (by omega)
        rw [Deep.add_add] at e0 e1 e2
        obtain ⟨z0, q0, _, b0⟩ := DataW.trod_int Tryd.underlying3 g0
        obtain ⟨z1, q1, _, b1⟩ := DataW.trod_int Tryd.underlying2 g1
        obtain ⟨z2, q2, _, b2⟩ := DataW.trod_int Tryd.underlying2 g2
        have b0 := bounds_i64 b0
        have b1 := bounds_i64 b1
        have b2 := bounds_i64 b2
        simp only [List.cons.injEq, and_true] at q0 q1 q2
        subst q0; subst q1; subst q2
        exact ⟨(z0, z1, z2), by simpa using e0, by simpa using e1, by simpa using e2, by constructor <;> (simp only; omega)⟩
    obtain ⟨Y, hY⟩ := Deep.choose_lt each
    refine ⟨(List.range len).map Y, ⟨⟨by rw [flat_len]; simp, fun h0 => ?_⟩, (fun h => by cases h), hl, hm⟩, fun y hy => ?_⟩
    · have h1 := (hY 0 (by omega)).1
      obtain ⟨b, off, spot⟩ := x
      obtain rfl : spot = none := by simpa [Addr.add] using World.cell?_spot h1
      have hlt : b < W.heap.size := by simpa [Addr.add] using cell_lt h1
      refine ⟨b, off, rfl, hlt, fun k v hv => ?_⟩
      have hk : k < len * 3 := by
        have := (List.getElem?_eq_some_iff.1 hv).1
        rw [flat_len] at this
        simpa using this
      have hj : k / 3 < len := by omega
      have hke : k = k / 3 * 3 + k % 3 := by omega
      rw [hke, flat_at _ _ _ (by simpa using hj) (Nat.mod_lt _ (by decide))] at hv
      have hy := hY (k / 3) (by omega)
      rw [add_of, add_of, add_of] at hy
      simp only [List.getElem_map, List.getElem_range] at hv
      have hc : k % 3 = 0 ∨ k % 3 = 1 ∨ k % 3 = 2 := by omega
      rw [hke]
      rcases hc with hc | hc | hc
      · rw [hc] at hv ⊢
        simp [doCells] at hv
        rw [← hv]
        exact hy.1
      · rw [hc] at hv ⊢
        simp [doCells] at hv
        rw [← hv]
        exact hy.2.1
      · rw [hc] at hv ⊢
        simp [doCells] at hv
        rw [← hv]
        exact hy.2.2.1
    · obtain ⟨i, hi, rfl⟩ := List.mem_map.1 hy
      exact (hY i (by have := List.mem_range.1 hi; omega)).2.2.2

/-- The cells of one of them. -/
theorem InRow.do_ {w : World} {A : Option Addr} {n : Nat} {l : List (Int × Int × Int)} (h : RowS w w.heap.size 3 A n (l.flatMap doCells)) {j : Nat} (hj : j < n) (hl : j < l.length) :
    ∃ b off, A = some ⟨b, off, none⟩ ∧ b < w.heap.size ∧ w.cell? ⟨b, off + j * 3, none⟩ = some (.int .i64 l[j].1) ∧ w.cell? ⟨b, off + j * 3 + 1, none⟩ = some (.int .i64 l[j].2.1) ∧ w.cell? ⟨b, off + j * 3 + 2, none⟩ = some (.int .i64 l[j].2.2) := by
  obtain ⟨b, off, rfl, hb, hc⟩ := h.2 (by omega)
  have f0 := flat_at l j 0 hl (by decide)
  have f1 := flat_at l j 1 hl (by decide)
  have f2 := flat_at l j 2 hl (by decide)
  exact ⟨b, off, rfl, hb, hc _ _ f0, hc _ _ f1, hc _ _ f2⟩
end Go.Proofs.YtlglinclendkkaaDoor
