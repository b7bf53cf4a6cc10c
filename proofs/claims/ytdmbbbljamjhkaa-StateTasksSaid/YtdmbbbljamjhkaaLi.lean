/- Package queue: slices.DeleteFunc of those that are not free. -/
import Derived.Test.YtdmbbbljamjhkaaLh
namespace Go.Proofs.Ytdmbbbljamjhkaa
open Go.RowKit

namespace Qu
open Ls (T)
structure Kept (now : Int) (zs r : List T) (i j : Nat) : Prop where
  len : r.length = zs.length
  head : r.take i = (zs.take j).filter (T.free · now)
  il : i = ((zs.take j).filter (T.free · now)).length
  rest : r.drop j = zs.drop j
  lt : i < j
  jl : j ≤ zs.length
theorem Kept.at_ {now : Int} {zs r : List T} {i j : Nat} (h : Kept now zs r i j) (hj : j < zs.length) : r[j]! = zs[j]! := by
  have h1 : j < r.length := by rw [h.len]; exact hj
  have h2 := h.rest
  rw [List.drop_eq_getElem_cons h1, List.drop_eq_getElem_cons hj] at h2
  rw [getElem!_pos r j h1, getElem!_pos zs j hj]
  exact (List.cons.inj h2).1
theorem Kept.skip {now : Int} {zs r : List T} {i j : Nat} (h : Kept now zs r i j) (hj : j < zs.length) (hf : zs[j]!.free now = false) : Kept now zs r i (j + 1) := by
  have e : (zs.take (j + 1)).filter (T.free · now) = (zs.take j).filter (T.free · now) := by
    rw [List.take_succ_eq_append_getElem hj, List.filter_append, ← getElem!_pos zs j hj]
    generalize zs[j]! = x at hf ⊢
    simp [hf]
  have h1 : j < r.length := by rw [h.len]; exact hj
  have h2 := h.rest
  rw [List.drop_eq_getElem_cons h1, List.drop_eq_getElem_cons hj] at h2
  exact ⟨h.len, by rw [e]; exact h.head, by rw [e]; exact h.il, (List.cons.inj h2).2, Nat.lt_succ_of_lt h.lt, hj⟩
theorem Kept.keep {now : Int} {zs r : List T} {i j : Nat} (h : Kept now zs r i j) (hj : j < zs.length) (hf : zs[j]!.free now = true) : Kept now zs (r.set i zs[j]!) (i + 1) (j + 1) := by
  have e : (zs.take (j + 1)).filter (T.free · now) = (zs.take j).filter (T.free · now) ++ [zs[j]!] := by
    rw [List.take_succ_eq_append_getElem hj, List.filter_append, ← getElem!_pos zs j hj]
    generalize zs[j]! = x at hf ⊢
    simp [hf]
  have h1 : j < r.length := by rw [h.len]; exact hj
  have hi : i < r.length := Nat.lt_trans h.lt h1
  have h2 := h.rest
  rw [List.drop_eq_getElem_cons h1, List.drop_eq_getElem_cons hj] at h2
  refine ⟨by rw [List.length_set]; exact h.len, ?_, ?_, ?_, Nat.succ_lt_succ h.lt, hj⟩
  · rw [e, ← h.head, List.take_succ_eq_append_getElem (by rw [List.length_set]; exact hi), List.getElem_set_self, List.take_set_of_le (Nat.le_refl _)]
  · rw [e, List.length_append, ← h.il]
    rfl
  · rw [List.drop_set_of_lt (by have := h.lt; omega)]
    exact (List.cons.inj h2).2
theorem Kept.start {now : Int} {zs : List T} {k : Nat} (hk : k < zs.length) (ha : ∀ j, j < k → zs[j]!.free now = true) (hf : zs[k]!.free now = false) : Kept now zs zs k (k + 1) := by
  have e1 : (zs.take k).filter (T.free · now) = zs.take k := by
    rw [List.filter_eq_self]
    intro x hx
    obtain ⟨j, hj, rfl⟩ := List.mem_iff_getElem.1 hx
    rw [List.length_take] at hj
    have := ha j (by omega)
    rw [getElem!_pos zs j (by omega)] at this
    rw [List.getElem_take]
    exact this
  have e2 : (zs.take (k + 1)).filter (T.free · now) = zs.take k := by
    rw [List.take_succ_eq_append_getElem hk, List.filter_append, e1, ← getElem!_pos zs k hk]
    generalize zs[k]! = x at hf ⊢
    simp [hf]
  exact ⟨rfl, by rw [e2], by rw [e2, List.length_take]; omega, rfl, Nat.lt_succ_self _, hk⟩
theorem rt_at {w : World} {g : Nat} {r : List T} (h : RT w g r) {j : Nat} (hj : j < r.length) :
    (w.cell? ⟨g, j * 12, none⟩ = some (.int .i64 r[j]!.id) ∧ w.cell? ⟨g, j * 12 + 1, none⟩ = some (.int .i64 r[j]!.ins) ∧ w.cell? ⟨g, j * 12 + 2, none⟩ = some (.int .i64 r[j]!.tok) ∧ w.cell? ⟨g, j * 12 + 3, none⟩ = some (.int .i64 r[j]!.nod) ∧
    w.cell? ⟨g, j * 12 + 4, none⟩ = some (.string r[j]!.top) ∧ w.cell? ⟨g, j * 12 + 5, none⟩ = some (.int .i64 r[j]!.prio) ∧ w.cell? ⟨g, j * 12 + 6, none⟩ = some (.string r[j]!.wkr) ∧ w.cell? ⟨g, j * 12 + 7, none⟩ = some (.int .i64 r[j]!.epo) ∧
    w.cell? ⟨g, j * 12 + 8, none⟩ = some (.int .i64 r[j]!.exp) ∧ w.cell? ⟨g, j * 12 + 9, none⟩ = some (.int .i64 r[j]!.aft) ∧ w.cell? ⟨g, j * 12 + 10, none⟩ = some (.int .i64 r[j]!.ret) ∧ w.cell? ⟨g, j * 12 + 11, none⟩ = some (.bool r[j]!.bro)) ∧
    (w.frozen? ⟨g, j * 12, none⟩ = false ∧ w.frozen? ⟨g, j * 12 + 1, none⟩ = false ∧ w.frozen? ⟨g, j * 12 + 2, none⟩ = false ∧ w.frozen? ⟨g, j * 12 + 3, none⟩ = false ∧ w.frozen? ⟨g, j * 12 + 4, none⟩ = false ∧ w.frozen? ⟨g, j * 12 + 5, none⟩ = false ∧
    w.frozen? ⟨g, j * 12 + 6, none⟩ = false ∧ w.frozen? ⟨g, j * 12 + 7, none⟩ = false ∧ w.frozen? ⟨g, j * 12 + 8, none⟩ = false ∧ w.frozen? ⟨g, j * 12 + 9, none⟩ = false ∧ w.frozen? ⟨g, j * 12 + 10, none⟩ = false ∧ w.frozen? ⟨g, j * 12 + 11, none⟩ = false) := by
  have hc := h j hj
  exact ⟨⟨(hc 0 _ rfl).1, (hc 1 _ rfl).1, (hc 2 _ rfl).1, (hc 3 _ rfl).1, (hc 4 _ rfl).1, (hc 5 _ rfl).1, (hc 6 _ rfl).1, (hc 7 _ rfl).1, (hc 8 _ rfl).1, (hc 9 _ rfl).1, (hc 10 _ rfl).1, (hc 11 _ rfl).1⟩,
    (hc 0 _ rfl).2, (hc 1 _ rfl).2, (hc 2 _ rfl).2, (hc 3 _ rfl).2, (hc 4 _ rfl).2, (hc 5 _ rfl).2, (hc 6 _ rfl).2, (hc 7 _ rfl).2, (hc 8 _ rfl).2, (hc 9 _ rfl).2, (hc 10 _ rfl).2, (hc 11 _ rfl).2⟩
end Qu
end Go.Proofs.Ytdmbbbljamjhkaa
