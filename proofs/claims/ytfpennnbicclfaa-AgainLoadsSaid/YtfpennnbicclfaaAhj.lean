/- Package again: pages that came in. -/
import Derived.Test.YtfpennnbicclfaaRow2
import Derived.Test.YtfpennnbicclfaaAgu
namespace Go.Proofs.Ytfpennnbicclfaa
open Go.ChangeShapes Go.WideShapes Go.RowKit

namespace Ag
/-- A page that came in. -/
structure PgCome (w : World) (p : Pg) : Prop where
  keys : KRow iκ w w.heap.size p.ka p.keys.length p.keys
  rows : KRow pκ w w.heap.size p.ra p.rows.length p.rows
  rep : ∀ r ∈ p.rows, RpIn w r
  cap : p.keys.length ≤ p.kc ∧ p.kc ≤ maxLen
theorem PgCome.arg {w : World} {p : Pg} (h : PgCome w p) (h1 : p.keys.length ≤ 10) (h2 : p.rows.length ≤ 10) : PgArg w p := ⟨h.keys, h.rows, h.rep, ⟨by omega, by omega⟩, h.cap⟩
def gκ : Cs Pg := ⟨4, fun p => p.raw.cells, fun _ => rfl, fun x u hu => by
  simp only [Pg.raw, Rw.cells, List.mem_cons, List.not_mem_nil, or_false] at hu
  rcases hu with rfl | rfl | rfl | rfl <;> rfl⟩
theorem g_flat (l : List Pg) : l.flatMap gκ.cs = (l.map Pg.raw).flatMap rκ.cs := by
  induction l with
  | nil => rfl
  | cons y r ih =>
    rw [List.flatMap_cons, List.map_cons, List.flatMap_cons, ih]
    rfl
theorem rp_in {w : World} {p : Part} (h : PartIn w p) (hn : p.n ≤ reachBytes) : RpIn w p :=
  ⟨h.bytes, h.nn, Nat.le_trans hn (by decide), fun h0 a ha => by
    obtain ⟨b, off, he, hb, _⟩ := h.bytes.2 (by omega)
    rw [ha] at he
    obtain rfl := Option.some.inj he
    exact hb⟩
theorem trod_page {H : Type} {enc : TypeId × Value → H} {W : World} {fuel : Nat} {cs : List Value} {x : DataW H × List MemPlace} (hl : cs.length = 4)
    (h : DataW.trod enc Try.prog W 0 (fun _ => true) true fuel 51 cs = some x) (hw : ∀ v ∈ x.1.weights Try.prog 51, v ≤ reachBytes) : ∃ p : Pg, cs = p.raw.cells ∧ PgCome W p := by
  have c9 : Try.prog.cellsOf 9 = 1 := by kernel_rfl
  have c3' : Try.prog.cellsOf 3 = 1 := by kernel_rfl
  have c1' : Try.prog.cellsOf 48 = 1 := by kernel_rfl
  have c2' : Try.prog.cellsOf 49 = 1 := by kernel_rfl
  match cs, hl with
  | [c0, c1, c2, c3], _ =>
    obtain ⟨xs, k, hk, hxy, _, hxl, hfd⟩ := DataW.trod_struct Try.underlying51 h
    match xs, hxl with
    | [y0, y1, y2, y3], _ =>
      have g0 := hfd 0 _ rfl
      have g1 := hfd 1 _ rfl
      have g2 := hfd 2 _ rfl
      have g3 := hfd 3 _ rfl
      simp [c9, c3', c1', c2'] at g0 g1 g2 g3
      have hw3 : ∀ v ∈ y3.1.weights Try.prog 49, v ≤ reachBytes := fun v hv => by
        refine hw v ?_
        rw [hxy]
        show v ∈ DataW.weights Try.prog 51 (.agg [y0.1, y1.1, y2.1, y3.1])
        unfold DataW.weights
        rw [Try.underlying51]
        exact DataW.weights_mem_each (j := 3) (t := 49) (d := y3.1) rfl rfl v hv
      obtain ⟨s0, q0, _, _⟩ := DataW.trod_string Try.underlying9 g0
      obtain ⟨z1, q1, _, _⟩ := DataW.trod_int Try.underlying3 g1
      obtain ⟨a2, n2, k2, l2, q2, r2, hl2, _⟩ := open_rowk (κ := iκ) (fun _ => True) Try.underlying48 (by kernel_rfl) (by decide) (fun n cs x hl hx => by
        match cs, hl with
        | [c], _ =>
          obtain ⟨z, p0, _, _⟩ := DataW.trod_int Try.underlying3 hx
          exact ⟨z, p0, trivial⟩) g2
      obtain ⟨a3, n3, k3, l3, q3, r3, hl3, h3⟩ := open_rowk_w (κ := pκ) reachBytes (fun y => PartIn W y ∧ y.n ≤ reachBytes) Try.underlying49 (by kernel_rfl) (by decide) (fun n cs x hl hx hw => by
        match cs, hl with
        | [c], _ =>
          obtain ⟨p, rfl, h1, h2⟩ := open_bytes_w Try.underlying32 Try.underlying5 (by kernel_rfl) (by kernel_rfl) hx hw
          exact ⟨p, rfl, h1, h2⟩) g3 hw3
      simp only [List.cons.injEq, and_true] at q0 q1 q2 q3
      subst q0; subst q1; subst q2; subst q3
      subst hl2
      subst hl3
      exact ⟨⟨s0, z1, a2, k2, l2, a3, k3, l3⟩, rfl, ⟨r2.row, r3.row, fun r hr => rp_in (h3 r hr).1 (h3 r hr).2, r2.cap, r2.most⟩⟩
theorem open_pages {H : Type} {enc : TypeId × Value → H} {W : World} {a : Option Addr} {len cap : Nat} {d : DataW H} {ps : List MemPlace}
    (h : DataW.Trod enc Try.prog W 0 (fun _ => true) true 36 (.slice a len cap) d ps) (hw : ∀ v ∈ d.weights Try.prog 36, v ≤ reachBytes) : ∃ l : List Pg, InRow W 4 a len cap ((l.map Pg.raw).flatMap rκ.cs) ∧ ∀ y ∈ l, PgCome W y := by
  obtain ⟨fuel, hf⟩ := h
  obtain ⟨a', len', cap', l, hcs, h1, _, h2⟩ := open_rowk_w (κ := gκ) reachBytes (fun y => PgCome W y) Try.underlying36 (by kernel_rfl) (by decide) (fun n cs x hl hx hw => trod_page hl hx hw) hf hw
  simp [Value.cells] at hcs
  obtain ⟨rfl, rfl, rfl⟩ := hcs
  rw [g_flat] at h1
  exact ⟨l, h1, h2⟩
end Ag
end Go.Proofs.Ytfpennnbicclfaa
