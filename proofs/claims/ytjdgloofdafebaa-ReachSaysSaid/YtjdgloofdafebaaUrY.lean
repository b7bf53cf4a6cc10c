/- A slice of structs of any width that came in; a process that came in by value. -/
import Derived.Test.YtjdgloofdafebaaYReachSays2
import Derived.Test.YtjdgloofdafebaaYReachSays6
namespace Go.Proofs.Ytjdgloofdafebaa
open Go.ChangeShapes Go.WideShapes Go.RowKit

theorem open_rowk {α : Type} [Inhabited α] {κ : Cs α} {H : Type} {enc : TypeId × Value → H} {P : Program} {W : World} {t e : TypeId} {cs : List Value} {fuel : Nat} {x : DataW H × List MemPlace} (ok : α → Prop)
    (ht : P.underlying t = some (.slice e)) (hc : P.cellsOf e = κ.k) (hk : 0 < κ.k)
    (hel : ∀ n cs x, cs.length = κ.k → DataW.trod enc P W 0 (fun _ => true) true n e cs = some x → ∃ y, cs = κ.cs y ∧ ok y)
    (hf : DataW.trod enc P W 0 (fun _ => true) true fuel t cs = some x) : ∃ (a : Option Addr) (len cap : Nat) (l : List α), cs = [.slice a len cap] ∧ InRow W κ.k a len cap (l.flatMap κ.cs) ∧ l.length = len ∧ ∀ y ∈ l, ok y := by
  rcases Deep.open_slice ht hf with ⟨hcs, _⟩ | ⟨x, len, cap, m, n, D, Pl, hcs, _, hl, hm, hmm, _, hx⟩
  · exact ⟨_, _, _, [], hcs, ⟨RowS.nil _ _ _ _, fun _ => ⟨rfl, rfl⟩, Nat.le_refl _, by simp [maxLen]⟩, rfl, fun y h => by cases h⟩
  · simp only [if_true] at hmm
    subst hmm
    have each : ∀ i, i < m → ∃ y : α, (∀ j v, (κ.cs y)[j]? = some v → W.cell? (x.add (i * κ.k + j)) = some v) ∧ ok y := by
      intro i hi
      obtain ⟨cs', h1, h2⟩ := hx i hi
      rw [hc] at h1
      obtain ⟨_, hlen, hcell⟩ := World.cells?_some h1
      obtain ⟨y, rfl, hy⟩ := hel _ _ _ hlen h2
      refine ⟨y, fun j v hv => ?_, hy⟩
      have hj := (List.getElem?_eq_some_iff.1 hv).1
      have h3 := hcell j (by rw [← hlen]; exact hj)
      rw [Deep.add_add] at h3
      rw [h3]
      first | exact hv | (simpa using hv)
    obtain ⟨Y, hY⟩ := Deep.choose_lt each
    refine ⟨_, _, _, (List.range len).map Y, hcs, ⟨⟨by rw [Cs.flat_len]; simp, fun h0 => ?_⟩, (fun h => by cases h), hl, hm⟩, by simp, fun y hy => ?_⟩
    · obtain ⟨v0, hv0⟩ : ∃ v, (κ.cs (Y 0))[0]? = some v := ⟨_, List.getElem?_eq_getElem (by rw [κ.len]; exact hk)⟩
      have h1 := (hY 0 (by omega)).1 0 v0 hv0
      obtain ⟨b, off, spot⟩ := x
      obtain rfl : spot = none := by simpa [Addr.add] using World.cell?_spot h1
      have hlt : b < W.heap.size := by simpa [Addr.add] using cell_lt h1
      refine ⟨b, off, rfl, hlt, fun k v hv => ?_⟩
      have hkl : k < len * κ.k := by
        have := (List.getElem?_eq_some_iff.1 hv).1
        rw [Cs.flat_len] at this
        simpa using this
      have hj : k / κ.k < len := (Nat.div_lt_iff_lt_mul hk).2 hkl
      have hke : k / κ.k * κ.k + k % κ.k = k := by rw [Nat.mul_comm]; exact Nat.div_add_mod k κ.k
      have h2 := Cs.flat_at κ ((List.range len).map Y) (k / κ.k) (k % κ.k) (by simpa using hj) (Nat.mod_lt _ hk)
      rw [hke, hv] at h2
      have h3 := (hY (k / κ.k) (by omega)).1 (k % κ.k) v (by rw [h2]; simp)
      rw [hke, addr_add] at h3
      exact h3
    · obtain ⟨i, hi, rfl⟩ := List.mem_map.1 hy
      exact (hY i (by have := List.mem_range.1 hi; omega)).2
namespace Pr
theorem trod_flow {H : Type} {enc : TypeId × Value → H} {W : World} {fuel : Nat} {cs : List Value} {x : DataW H × List MemPlace} (hl : cs.length = 3)
    (h : DataW.trod enc Try.prog W 0 (fun _ => true) true fuel 40 cs = some x) : ∃ y : Fl, cs = y.cells ∧ True := by
  have c9 : Try.prog.cellsOf 9 = 1 := by kernel_rfl
  have c3' : Try.prog.cellsOf 3 = 1 := by kernel_rfl
  match cs, hl with
  | [c0, c1, c2], _ =>
    obtain ⟨xs, k, hk, hxy, _, hxl, hfd⟩ := DataW.trod_struct Try.underlying40 h
    match xs, hxl with
    | [y0, y1, y2], _ =>
      have g0 := hfd 0 _ rfl
      have g1 := hfd 1 _ rfl
      have g2 := hfd 2 _ rfl
      simp [c9, c3'] at g0 g1 g2
      obtain ⟨z0, p0, _, d0⟩ := DataW.trod_int Try.underlying3 g0
      obtain ⟨z1, p1, _, d1⟩ := DataW.trod_int Try.underlying3 g1
      obtain ⟨s0, q0, _, b0⟩ := DataW.trod_string Try.underlying9 g2
      simp only [List.cons.injEq, and_true] at q0 p0 p1
      subst q0; subst p0; subst p1
      exact ⟨⟨z0, z1, s0⟩, rfl, trivial⟩
/-- A process that came in by value; of its nodes nothing is told but how many they are. -/
structure ProcV where
  s : ByteArray
  A : Option Addr
  n : Nat
  c : Nat
  F : Option Addr
  m : Nat
  d : Nat
  fl : List Fl
def ProcV.val (p : ProcV) : Value := .agg #[.string p.s, .slice p.A p.n p.c, .slice p.F p.m p.d]
structure InProc (w : World) (p : ProcV) : Prop where
  s : p.s.size ≤ maxLen
  f : InRow w 3 p.F p.m p.d (p.fl.flatMap Fl.κ.cs)
theorem shape_slice {H : Type} {enc : TypeId × Value → H} {P : Program} {W : World} {t e : TypeId} {cs : List Value} {fuel : Nat} {x : DataW H × List MemPlace} (ht : P.underlying t = some (.slice e)) (hf : DataW.trod enc P W 0 (fun _ => true) true fuel t cs = some x) : ∃ (a : Option Addr) (len cap : Nat), cs = [.slice a len cap] := by
  rcases Deep.open_slice ht hf with ⟨hcs, _⟩ | ⟨x, len, cap, m, n, D, Pl, hcs, _⟩
  · exact ⟨_, _, _, hcs⟩
  · exact ⟨_, _, _, hcs⟩
theorem trod_proc {H : Type} {enc : TypeId × Value → H} {W : World} {fuel : Nat} {c0 c1 c2 : Value} {x : DataW H × List MemPlace}
    (h : DataW.trod enc Try.prog W 0 (fun _ => true) true fuel 25 [c0, c1, c2] = some x) : ∃ p : ProcV, [c0, c1, c2] = [.string p.s, .slice p.A p.n p.c, .slice p.F p.m p.d] ∧ InProc W p := by
  have cs' : Try.prog.cellsOf 9 = 1 := by kernel_rfl
  have cn' : Try.prog.cellsOf 22 = 1 := by kernel_rfl
  have cf' : Try.prog.cellsOf 23 = 1 := by kernel_rfl
  obtain ⟨xs, k, hk, hxy, _, hxl, hfd⟩ := DataW.trod_struct Try.underlying25 h
  match xs, hxl with
  | [y0, y1, y2], _ =>
    have g0 := hfd 0 _ rfl
    have g1 := hfd 1 _ rfl
    have g2 := hfd 2 _ rfl
    simp [cs', cn', cf'] at g0 g1 g2
    obtain ⟨s0, q0, _, b0⟩ := DataW.trod_string Try.underlying9 g0
    obtain ⟨a1, n1, p1, q1⟩ := shape_slice Try.underlying22 g1
    obtain ⟨a2, n2, p2, l2, q2, r2, _⟩ := open_rowk (κ := Fl.κ) (fun _ => True) Try.underlying23 (by kernel_rfl) (by decide) (fun n cs x hl hx => trod_flow hl hx) g2
    simp only [List.cons.injEq, and_true] at q0 q1 q2
    subst q0; subst q1; subst q2
    exact ⟨⟨s0, a1, n1, p1, a2, n2, p2, l2⟩, rfl, ⟨b0, r2⟩⟩
set_option maxRecDepth 100000 in
theorem open_proc {H : Type} {enc : TypeId × Value → H} {W : World} {r : Reach} {b0 : Nat} {v : Value} {d : DataW H} {ps : List MemPlace}
    (hv : Value.okWide Try.prog W r b0 25 v) (h : DataW.Trod enc Try.prog W 0 (fun _ => true) true 25 v d ps) : ∃ p : ProcV, v = p.val ∧ InProc W p := by
  have hu := Try.underlying25
  have ⟨cs, he, hsz⟩ := okWide_struct hu hv
  subst he
  clear hu
  have ce : Try.prog.cellsOf 25 = 3 := by kernel_rfl
  obtain ⟨l⟩ := cs
  have h3 : l.length = 3 := by rw [ce] at hsz; simpa using hsz
  clear hv hsz ce
  obtain ⟨c0, c1, c2, rfl⟩ : ∃ c0 c1 c2, l = [c0, c1, c2] := by
    match l, h3 with
    | [c0, c1, c2], _ => exact ⟨_, _, _, rfl⟩
  · obtain ⟨fuel, hf⟩ := h
    obtain ⟨x, hx, hi⟩ := trod_proc hf
    refine ⟨x, ?_, hi⟩
    simp only [List.cons.injEq, and_true] at hx
    obtain ⟨rfl, rfl, rfl⟩ := hx
    rfl
end Pr
end Go.Proofs.Ytjdgloofdafebaa
