/- Package again: what is told to a book, as it comes in; pages of a book are fit to be loaded. -/
import Derived.Test.YtfpennnbicclfaaRok
import Derived.Test.YtfpennnbicclfaaOpb
import Derived.Test.YtfpennnbicclfaaAgz
import Derived.Test.YtfpennnbicclfaaAhb
import Derived.Test.YtfpennnbicclfaaAgq
namespace Go.Proofs.Ytfpennnbicclfaa
open Go.ChangeShapes Go.WideShapes Go.RowKit

namespace Ag
/-- What a book is told. -/
structure Dw where
  kd : Int
  wi : Int
  inc : Int
  k : Int
  b : Part
instance : Inhabited Dw := ⟨⟨0, 0, 0, 0, default⟩⟩
def Dw.cells (x : Dw) : List Value := [.int .i64 x.kd, .int .i64 x.wi, .int .i64 x.inc, .int .i64 x.k, x.b.val]
def dκ : Cs Dw := ⟨5, Dw.cells, fun _ => rfl, fun x u hu => by
  simp only [Dw.cells, List.mem_cons, List.not_mem_nil, or_false] at hu
  rcases hu with rfl | rfl | rfl | rfl | rfl <;> rfl⟩
theorem trod_do {H : Type} {enc : TypeId × Value → H} {W : World} {fuel : Nat} {cs : List Value} {x : DataW H × List MemPlace} (hl : cs.length = 5)
    (h : DataW.trod enc Try.prog W 0 (fun _ => true) true fuel 34 cs = some x) : ∃ y : Dw, cs = y.cells ∧ PartIn W y.b := by
  have c3' : Try.prog.cellsOf 3 = 1 := by kernel_rfl
  have c1' : Try.prog.cellsOf 32 = 1 := by kernel_rfl
  match cs, hl with
  | [c0, c1, c2, c3, c4], _ =>
    obtain ⟨xs, k, hk, hxy, _, hxl, hfd⟩ := DataW.trod_struct Try.underlying34 h
    match xs, hxl with
    | [y0, y1, y2, y3, y4], _ =>
      have g0 := hfd 0 _ rfl
      have g1 := hfd 1 _ rfl
      have g2 := hfd 2 _ rfl
      have g3 := hfd 3 _ rfl
      have g4 := hfd 4 _ rfl
      simp [c3', c1'] at g0 g1 g2 g3 g4
      obtain ⟨z0, p0, _, _⟩ := DataW.trod_int Try.underlying3 g0
      obtain ⟨z1, p1, _, _⟩ := DataW.trod_int Try.underlying3 g1
      obtain ⟨z2, p2, _, _⟩ := DataW.trod_int Try.underlying3 g2
      obtain ⟨z3, p3, _, _⟩ := DataW.trod_int Try.underlying3 g3
      obtain ⟨b, rfl, hb⟩ := open_bytes_cell Try.underlying32 Try.underlying5 (by kernel_rfl) g4
      simp only [List.cons.injEq, and_true] at p0 p1 p2 p3
      subst p0; subst p1; subst p2; subst p3
      exact ⟨⟨z0, z1, z2, z3, b⟩, rfl, hb⟩
end Ag
theorem open_structs34 {H : Type} {enc : TypeId × Value → H} {W : World} {a : Option Addr} {len cap : Nat} {d : DataW H} {ps : List MemPlace}
    (h : DataW.Trod enc Try.prog W 0 (fun _ => true) true 22 (.slice a len cap) d ps) : ∃ l : List Ag.Dw, InRow W 5 a len cap (l.flatMap Ag.dκ.cs) ∧ ∀ y ∈ l, PartIn W y.b := by
  obtain ⟨fuel, hf⟩ := h
  obtain ⟨a', len', cap', l, hcs, h1, _, h2⟩ := open_rowk (κ := Ag.dκ) (fun y => PartIn W y.b) Try.underlying22 (by kernel_rfl) (by decide) (fun n cs x hl hx => Ag.trod_do hl hx) hf
  simp [Value.cells] at hcs
  obtain ⟨rfl, rfl, rfl⟩ := hcs
  exact ⟨l, h1, h2⟩
namespace Ag
theorem d_cells {w : World} {b off n B : Nat} {l : List Dw} (h : RowS w B 5 (some ⟨b, off, none⟩) n (l.flatMap dκ.cs)) {j : Nat} (hj : j < l.length) :
    w.cell? ⟨b, off + j * 5, none⟩ = some (.int .i64 (l[j]).kd) ∧ w.cell? ⟨b, off + j * 5 + 1, none⟩ = some (.int .i64 (l[j]).wi) ∧ w.cell? ⟨b, off + j * 5 + 2, none⟩ = some (.int .i64 (l[j]).inc) ∧ w.cell? ⟨b, off + j * 5 + 3, none⟩ = some (.int .i64 (l[j]).k) ∧ w.cell? ⟨b, off + j * 5 + 4, none⟩ = some (.slice (l[j]).b.a (l[j]).b.n (l[j]).b.c) := by
  have hk : KRow dκ w B (some ⟨b, off, none⟩) n l := h
  have hl := hk.len (by decide)
  obtain ⟨b', off', he, _, hc⟩ := h.2 (by omega)
  injection he with he
  injection he with e1 e2
  subst e1
  subst e2
  have key : ∀ i v, (Dw.cells l[j])[i]? = some v → w.cell? ⟨b, off + j * 5 + i, none⟩ = some v := fun i v hv => by
    have hi : i < dκ.k := (List.getElem?_eq_some_iff.1 hv).1
    have h2 := hc (j * dκ.k + i) v (by
      rw [Cs.flat_at dκ l j i hj hi]
      exact hv)
    rw [Nat.add_assoc]
    exact h2
  exact ⟨key 0 _ rfl, key 1 _ rfl, key 2 _ rfl, key 3 _ rfl, key 4 _ rfl⟩
/-- Pages that may be loaded. -/
def FitM (M : List Ab) : Prop := Asc Ab.wkr M ∧ M.length ≤ 6 ∧ ∀ p ∈ M, fitsA p = true
theorem fits_iff {p : Ab} : fitsA p = true ↔ p.keys.length = p.reps.length ∧ 1 ≤ p.keys.length ∧ p.keys.length ≤ 4 ∧ p.keys.Nodup := by
  unfold fitsA
  simp only [Bool.and_eq_true, decide_eq_true_eq]
  exact ⟨fun ⟨⟨⟨h1, h2⟩, h3⟩, h4⟩ => ⟨h1, h2, h3, h4⟩, fun ⟨h1, h2, h3, h4⟩ => ⟨⟨⟨h1, h2⟩, h3⟩, h4⟩⟩
theorem idx_mem {k : Int} : ∀ (l : List Int) (i : Nat), k ∈ l → 0 ≤ Lib.idxByFrom (fun x y => decide (x = y)) k l i
  | [], _, h => by cases h
  | z :: r, i, h => by
    unfold Lib.idxByFrom
    split
    · omega
    · rename_i hn
      rcases List.mem_cons.1 h with rfl | h
      · simp at hn
      · exact idx_mem r (i + 1) h
theorem idx_neg {l : List Int} {k : Int} (h : Lib.idxBy (fun x y => decide (x = y)) l k < 0) : k ∉ l := fun hk => by
  have := idx_mem l 0 hk
  unfold Lib.idxBy at h
  omega
theorem fit_pushed {p : Ab} {s : ByteArray} {i k : Int} {r : List UInt8} (h : fitsA p = true ∨ (p.keys = [] ∧ p.reps = [])) (hk : k ∉ p.keys) : fitsA ⟨s, i, pushed p.keys k, pushed p.reps r⟩ = true := by
  have hh : p.keys.length = p.reps.length ∧ p.keys.length ≤ 4 ∧ p.keys.Nodup := by
    rcases h with h | ⟨h1, h2⟩
    · obtain ⟨h1, _, h3, h4⟩ := fits_iff.1 h
      exact ⟨h1, h3, h4⟩
    · rw [h1, h2]
      exact ⟨rfl, by decide, List.nodup_nil⟩
  obtain ⟨h1, h2, h3⟩ := hh
  have e1 := len_pushed p.keys k h2
  have e2 := len_pushed p.reps r (by omega)
  refine fits_iff.2 ⟨?_, ?_, ?_, ?_⟩
  · show (pushed p.keys k).length = (pushed p.reps r).length
    omega
  · show 1 ≤ (pushed p.keys k).length
    omega
  · show (pushed p.keys k).length ≤ 4
    omega
  · show (pushed p.keys k).Nodup
    unfold pushed
    refine List.Nodup.sublist (List.drop_sublist _ _) ?_
    rw [List.nodup_append]
    exact ⟨h3, by simp, fun a ha b hb e => hk (by rw [List.mem_singleton] at hb; rw [← hb, ← e]; exact ha)⟩
theorem fit_keep {M : List Ab} (h : FitM M) (s : ByteArray) (i k : Int) (r : List UInt8) : FitM (keep M s i k r) := by
  unfold keep
  split
  · rename_i h0
    unfold kept
    have hb : (fitsA (baseA M s i) = true ∨ ((baseA M s i).keys = [] ∧ (baseA M s i).reps = [])) ∧ k ∉ (baseA M s i).keys ∧ ((∃ y ∈ M, y.wkr = s) ∨ M.length < 6) := by
      unfold look at h0
      unfold baseA
      cases hf : at? Ab.wkr s M with
      | none =>
        rw [hf] at h0
        dsimp only at h0 ⊢
        refine ⟨.inr ⟨rfl, rfl⟩, (fun h => by cases h), .inr ?_⟩
        by_cases h6 : M.length < 6
        · exact h6
        · rw [if_neg h6] at h0
          cases h0
      | some p =>
        rw [hf] at h0
        obtain ⟨hp, hw⟩ := at_some Ab.wkr hf
        dsimp only at h0 ⊢
        by_cases h1 : p.inc < i
        · rw [if_pos h1]
          exact ⟨.inr ⟨rfl, rfl⟩, (fun h => by cases h), .inl ⟨p, hp, hw⟩⟩
        · rw [if_neg h1] at h0 ⊢
          by_cases h2 : i < p.inc
          · rw [if_pos h2] at h0
            cases h0
          · rw [if_neg h2] at h0
            by_cases h3 : Lib.idxBy (fun x y => decide (x = y)) p.keys k < 0
            · exact ⟨.inl (h.2.2 p hp), idx_neg h3, .inl ⟨p, hp, hw⟩⟩
            · rw [if_neg h3] at h0
              cases h0
    obtain ⟨h1, h2, h3⟩ := hb
    refine ⟨asc_ins Ab.wkr h.1, ?_, fun p hp => ?_⟩
    · rcases h3 with h3 | h3
      · rw [len_ins_old Ab.wkr h.1 h3]
        exact h.2.1
      · have := (len_ins Ab.wkr (x := ⟨s, i, pushed (baseA M s i).keys k, pushed (baseA M s i).reps r⟩) M).2
        omega
    · rcases (mem_ins Ab.wkr h.1).1 hp with rfl | ⟨hp, _⟩
      · exact fit_pushed h1 h2
      · exact h.2.2 p hp
  · exact h
theorem loads_self : ∀ (M N : List Ab), Asc Ab.wkr (N ++ M) → (∀ p ∈ M, fitsA p = true) → loads N M = some (N ++ M)
  | [], N, _, _ => by rw [List.append_nil]; rfl
  | p :: r, N, h, hf => by
    unfold loads
    have hlt : ∀ y ∈ N, ltb y.wkr p.wkr = true := fun y hy => (List.pairwise_append.1 h).2.2 y hy p List.mem_cons_self
    have hn : at? Ab.wkr p.wkr N = none := (at_none Ab.wkr).2 fun y hy e => ltb_ne (hlt y hy) e
    rw [hn, hf p List.mem_cons_self, if_neg (by decide), ins_last Ab.wkr hlt]
    have e : N ++ p :: r = N ++ [p] ++ r := by simp
    rw [loads_self r (N ++ [p]) (by rw [← e]; exact h) (fun x hx => hf x (List.mem_cons_of_mem _ hx)), ← e]
theorem loadA_self {M : List Ab} (h : FitM M) : loadA M = some M := by
  unfold loadA
  rw [if_neg (by have := h.2.1; omega)]
  exact loads_self M [] h.1 h.2.2
end Ag
end Go.Proofs.Ytfpennnbicclfaa
