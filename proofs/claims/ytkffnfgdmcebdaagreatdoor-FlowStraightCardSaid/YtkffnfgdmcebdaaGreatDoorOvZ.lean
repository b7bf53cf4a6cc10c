/- Variables that came in: one by value; a slice of them. -/
import Derived.Test.YtkffnfgdmcebdaaGreatDoorProg
import Derived.Test.YtkffnfgdmcebdaaGreatDoorYJoint18
import Derived.Test.YtkffnfgdmcebdaaGreatDoorYJoint22
import Derived.KernelRfl
namespace Go.Proofs.YtkffnfgdmcebdaaGreatDoor
open Go.ChangeShapes Go.WideShapes Go.RowKit

/-- Four cells that are read as a variable are one. -/
theorem trod_var {H : Type} {enc : TypeId × Value → H} {W : World} {f : Nat → Bool} {held : Bool} {fuel : Nat} {c0 c1 c2 c3 : Value} {x : DataW H × List MemPlace}
    (h : DataW.trod enc Tryz.prog W 0 f held fuel 96 [c0, c1, c2, c3] = some x) : ∃ v : Vr.V, [c0, c1, c2, c3] = v.cells ∧ Vr.InV v := by
  have c9 : Tryz.prog.cellsOf 9 = 1 := by kernel_rfl
  have c26 : Tryz.prog.cellsOf 94 = 3 := by kernel_rfl
  have c3' : Tryz.prog.cellsOf 3 = 1 := by kernel_rfl
  have c2' : Tryz.prog.cellsOf 2 = 1 := by kernel_rfl
  obtain ⟨xs, k, hk, hxy, _, hxl, hfd⟩ := DataW.trod_struct Tryz.underlying96 h
  match xs, hxl with
  | [y0, y1], _ =>
    have g0 := hfd 0 _ rfl
    have g1 := hfd 1 _ rfl
    simp [c9, c26] at g0 g1
    obtain ⟨s0, q0, _, b0⟩ := DataW.trod_string Tryz.underlying9 g0
    obtain ⟨ys, k', hk', hxy', _, hxl', hfd'⟩ := DataW.trod_struct Tryz.underlying94 g1
    match ys, hxl' with
    | [u0, u1, u2], _ =>
      have e0 := hfd' 0 _ rfl
      have e1 := hfd' 1 _ rfl
      have e2 := hfd' 2 _ rfl
      simp [c9, c3', c2'] at e0 e1 e2
      obtain ⟨z0, p0, _, d0⟩ := DataW.trod_int Tryz.underlying3 e0
      obtain ⟨z1, p1, _, d1⟩ := DataW.trod_int Tryz.underlying2 e1
      obtain ⟨s1, p2, _, d2⟩ := DataW.trod_string Tryz.underlying9 e2
      have d0 := bounds_i64 d0
      have d1 := bounds_i64 d1
      simp only [List.cons.injEq, and_true] at q0 p0 p1 p2
      subst q0; subst p0; subst p1; subst p2
      unfold maxLen at b0 d2
      exact ⟨⟨s0, z0, z1, s1⟩, rfl, ⟨by show s0.size ≤ _; omega, by show s1.size ≤ _; omega, by simp only; omega, by simp only; omega, by simp only; omega, by simp only; omega⟩⟩

set_option maxRecDepth 100000 in
theorem open_var {H : Type} {enc : TypeId × Value → H} {W : World} {r : Reach} {b0 : Nat} {v : Value} {d : DataW H} {ps : List MemPlace}
    (hv : Value.okWide Tryz.prog W r b0 96 v) (h : DataW.Trod enc Tryz.prog W 0 (fun _ => true) true 96 v d ps) : ∃ x : Vr.V, v = x.val ∧ Vr.InV x := by
  have hu := Tryz.underlying96
  have ⟨cs, he, hsz⟩ := okWide_struct hu hv
  subst he
  clear hu
  have ce : Tryz.prog.cellsOf 96 = 4 := by kernel_rfl
  obtain ⟨l⟩ := cs
  have h4 : l.length = 4 := by rw [ce] at hsz; simpa using hsz
  clear hv hsz ce
  obtain ⟨c0, c1, c2, c3, rfl⟩ : ∃ c0 c1 c2 c3, l = [c0, c1, c2, c3] := by
    match l, h4 with
    | [c0, c1, c2, c3], _ => exact ⟨_, _, _, _, rfl⟩
  · obtain ⟨fuel, hf⟩ := h
    obtain ⟨x, hx, hi⟩ := trod_var hf
    refine ⟨x, ?_, hi⟩
    simp only [Vr.V.cells, List.cons.injEq, and_true] at hx
    obtain ⟨rfl, rfl, rfl, rfl⟩ := hx
    rfl

theorem open_structs96 {H : Type} {enc : TypeId × Value → H} {W : World} {a : Option Addr} {len cap : Nat} {d : DataW H} {ps : List MemPlace}
    (h : DataW.Trod enc Tryz.prog W 0 (fun _ => true) true 32 (.slice a len cap) d ps) : ∃ l : List Vr.V, InRow W 4 a len cap (l.flatMap Vr.V.cells) ∧ ∀ y ∈ l, Vr.InV y := by
  have ce : Tryz.prog.cellsOf 96 = 4 := by kernel_rfl
  obtain ⟨fuel, hf⟩ := h
  rcases Deep.open_slice Tryz.underlying32 hf with ⟨hcs, _⟩ | ⟨x, l, c, m, n, D, Pl, hcs, _, hl, hm, hmm, _, hx⟩
  · simp [Value.cells] at hcs
    obtain ⟨rfl, rfl, rfl⟩ := hcs
    exact ⟨[], ⟨RowS.nil _ _ _ _, fun _ => ⟨rfl, rfl⟩, Nat.le_refl _, by simp [maxLen]⟩, fun y h => by cases h⟩
  · simp [Value.cells] at hcs
    obtain ⟨rfl, rfl, rfl⟩ := hcs
    simp only [if_true] at hmm
    subst hmm
    have each : ∀ i, i < m → ∃ y : Vr.V, W.cell? (x.add (i * 4)) = some (.string y.name) ∧ W.cell? (x.add (i * 4 + 1)) = some (.int .i64 y.kind) ∧ W.cell? (x.add (i * 4 + 2)) = some (.int .i64 y.num) ∧ W.cell? (x.add (i * 4 + 3)) = some (.string y.text) ∧ Vr.InV y := by
      intro i hi
      obtain ⟨cs', h1, h2⟩ := hx i hi
      rw [ce] at h1
      obtain ⟨_, hlen, hcell⟩ := World.cells?_some h1
      match cs', hlen with
      | [v0, v1, v2, v3], _ =>
        obtain ⟨y, hy, hiy⟩ := trod_var h2
        have e0 := hcell 0 (by omega)
        have e1 := hcell 1 (by omega)
        have e2 := hcell 2 (by omega)
        have e3 := hcell 3 (by omega)
        rw [Deep.add_add] at e0 e1 e2 e3
        simp only [Vr.V.cells, List.cons.injEq, and_true] at hy
        obtain ⟨rfl, rfl, rfl, rfl⟩ := hy
        exact ⟨y, by simpa using e0, by simpa using e1, by simpa using e2, by simpa using e3, hiy⟩
    obtain ⟨Y, hY⟩ := Deep.choose_lt each
    refine ⟨(List.range len).map Y, ⟨⟨by rw [flat4_len]; simp, fun h0 => ?_⟩, (fun h => by cases h), hl, hm⟩, fun y hy => ?_⟩
    · have h1 := (hY 0 (by omega)).1
      obtain ⟨b, off, spot⟩ := x
      obtain rfl : spot = none := by simpa [Addr.add] using World.cell?_spot h1
      have hlt : b < W.heap.size := by simpa [Addr.add] using cell_lt h1
      refine ⟨b, off, rfl, hlt, fun k v hv => ?_⟩
      have hk : k < len * 4 := by
        have := (List.getElem?_eq_some_iff.1 hv).1
        rw [flat4_len] at this
        simpa using this
      have hj : k / 4 < len := by omega
      have hke : k = k / 4 * 4 + k % 4 := by omega
      rw [hke, flat4_at _ _ _ (by simpa using hj) (Nat.mod_lt _ (by decide))] at hv
      have hy := hY (k / 4) (by omega)
      rw [addr_add, addr_add, addr_add, addr_add] at hy
      simp only [List.getElem_map, List.getElem_range] at hv
      have hc : k % 4 = 0 ∨ k % 4 = 1 ∨ k % 4 = 2 ∨ k % 4 = 3 := by omega
      rw [hke]
      rcases hc with hc | hc | hc | hc
      · rw [hc] at hv ⊢
        simp [Vr.V.cells] at hv
        rw [← hv]
        exact hy.1
      · rw [hc] at hv ⊢
        simp [Vr.V.cells] at hv
        rw [← hv]
        exact hy.2.1
      · rw [hc] at hv ⊢
        simp [Vr.V.cells] at hv
        rw [← hv]
        exact hy.2.2.1
      · rw [hc] at hv ⊢
        simp [Vr.V.cells] at hv
        rw [← hv]
        exact hy.2.2.2.1
    · obtain ⟨i, hi, rfl⟩ := List.mem_map.1 hy
      exact (hY i (by have := List.mem_range.1 hi; omega)).2.2.2.2
end Go.Proofs.YtkffnfgdmcebdaaGreatDoor
