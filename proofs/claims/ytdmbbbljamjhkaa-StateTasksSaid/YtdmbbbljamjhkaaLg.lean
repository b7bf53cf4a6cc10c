/- Package queue: a row of tasks that is rewritten; what slices.DeleteFunc leaves (mathematics). -/
import Derived.Test.YtdmbbbljamjhkaaLf
import Derived.Shelf.SlicesQ.IndexFunc
import Derived.Shelf.GgSortFunc.RowK
namespace Go.Proofs.Ytdmbbbljamjhkaa
open Go.RowKit

namespace Qu
open Ls (T)
/-- The tasks r lie in block g, from its first cell on, and may be written. -/
def RT (w : World) (g : Nat) (r : List T) : Prop := ∀ j, j < r.length → ∀ (k : Nat) v, (T.cells r[j]!)[k]? = some v → w.cell? ⟨g, j * 12 + k, none⟩ = some v ∧ w.frozen? ⟨g, j * 12 + k, none⟩ = false
theorem cells_len (x : T) : x.cells.length = 12 := rfl
theorem cells_lt {x : T} {k : Nat} {v : Value} (h : x.cells[k]? = some v) : k < 12 := by
  obtain ⟨h1, _⟩ := List.getElem?_eq_some_iff.1 h
  exact h1
theorem RT.kept {w w' : World} {g : Nat} {r : List T} (h : RT w g r) (hb : w'.heap[g]? = w.heap[g]?) : RT w' g r := fun j hj k v hv =>
  ⟨(World.cell?_of_block (a := ⟨g, j * 12 + k, none⟩) hb).trans (h j hj k v hv).1, (World.frozen?_of_block (a := ⟨g, j * 12 + k, none⟩) hb).trans (h j hj k v hv).2⟩
theorem RT.below {w w' : World} {g : Nat} {r : List T} {B : Nat} (h : RT w g r) (hb : Below B w w') (hg : g < B) : RT w' g r := h.kept (hb.block g hg)
theorem RT.of_own {w : World} {base n c g : Nat} {e : TypeId} {r : List T} (h : OwnK tκ w base e (some ⟨g, 0, none⟩) n c r) : RT w g r := by
  have hl := h.len
  intro j hj k v hv
  have h1 := KRow.of h.row (by decide) (j := j) (by omega) k v hv
  refine ⟨by rwa [Nat.zero_add] at h1, ?_⟩
  rcases h.2.2 with ⟨hv, _⟩ | ⟨g', cap, cur, hv, _, hh, _⟩
  · cases hv
  · injection hv with e1
    injection e1 with e1
    injection e1 with e1
    subst e1
    simp [World.frozen?, hh]
theorem own_g {w : World} {base n c : Nat} {e : TypeId} {A : Option Addr} {r : List T} (h : OwnK tκ w base e A n c r) : (A = none ∧ n = 0 ∧ r = []) ∨ ∃ g, A = some ⟨g, 0, none⟩ ∧ base ≤ g ∧ g < w.heap.size ∧ n ≤ c := by
  rcases h.2.2 with ⟨hv, hn⟩ | ⟨g', cap, cur, hv, hb, hh, hc, _⟩
  · injection hv with h1
    refine .inl ⟨h1, hn, ?_⟩
    have := h.len
    rw [hn] at this
    exact List.eq_nil_of_length_eq_zero this
  · injection hv with h1 h2 h3
    exact .inr ⟨g', h1, hb, (Array.getElem?_eq_some_iff.1 hh).1, by omega⟩
theorem RT.krow {w : World} {g : Nat} {r : List T} (h : RT w g r) {B : Nat} (hg : g < B) : KRow tκ w B (some ⟨g, 0, none⟩) r.length r := by
  refine ⟨Cs.flat_len tκ r, fun _ => ⟨g, 0, rfl, hg, fun k v hk => ?_⟩⟩
  have hk2 := (List.getElem?_eq_some_iff.1 hk).1
  rw [Cs.flat_len] at hk2
  have hk3 : k < r.length * 12 := hk2
  have hq : k / 12 < r.length := by omega
  have e : k = (k / 12) * 12 + k % 12 := by omega
  rw [e] at hk
  have hm : k % 12 < tκ.k := by show k % 12 < 12; omega
  rw [show (k / 12) * 12 + k % 12 = (k / 12) * tκ.k + k % 12 from rfl, Cs.flat_at tκ r _ _ hq hm] at hk
  have := (h (k / 12) hq (k % 12) v (by rw [getElem!_pos r _ hq]; exact hk)).1
  rw [Nat.zero_add, e]
  exact this
theorem RT.set {w : World} {g : Nat} {r : List T} (h : RT w g r) {i : Nat} (hi : i < r.length) (x : T) : RT (w.setCells g (i * 12) x.cells) g (r.set i x) := by
  intro j hj k v hv
  rw [List.length_set] at hj
  have hk := cells_lt hv
  rw [World.frozen?_setCells]
  by_cases e : i = j
  · subst e
    rw [getElem!_pos _ i (by simpa using hi), List.getElem_set_self] at hv
    obtain ⟨h1, h2⟩ := List.getElem?_eq_some_iff.1 hv
    have hs : ∀ t, t < x.cells.length → (w.cell? ⟨g, i * 12 + t, none⟩).isSome = true := fun t ht => by
      have := (h i hi t _ (List.getElem?_eq_getElem (by rw [cells_len] at *; exact ht))).1
      rw [this]
      rfl
    refine ⟨by rw [World.cell?_setCells_in g x.cells (i * 12) w hs k h1, h2], ?_⟩
    exact (h i hi k _ (List.getElem?_eq_getElem (by rw [cells_len] at *; exact hk))).2
  · have e2 : (r.set i x)[j]! = r[j]! := by
      rw [getElem!_pos _ j (by simpa using hj), getElem!_pos r j hj, List.getElem_set_ne e]
    rw [e2] at hv
    refine ⟨?_, (h j hj k v hv).2⟩
    rw [World.cell?_setCells_out _ _ _ _ _ (fun _ _ => by rw [cells_len]; show j * 12 + k < i * 12 ∨ i * 12 + 12 ≤ j * 12 + k; omega)]
    exact (h j hj k v hv).1
theorem RT.take {w : World} {g : Nat} {r : List T} (h : RT w g r) (n : Nat) : RT w g (r.take n) := fun j hj k v hv => by
  rw [List.length_take] at hj
  refine h j (by omega) k v ?_
  rw [getElem!_pos _ j (by rw [List.length_take]; omega), List.getElem_take] at hv
  rw [getElem!_pos r j (by omega)]
  exact hv
/-- Stores from a place on leave what stands ahead. -/
theorem RT.past {w : World} {g : Nat} {r : List T} (h : RT w g r) {o : Nat} (ho : r.length * 12 ≤ o) (vs : List Value) : RT (w.setCells g o vs) g r := fun j hj k v hv => by
  have hk := cells_lt hv
  rw [World.frozen?_setCells]
  refine ⟨?_, (h j hj k v hv).2⟩
  rw [World.cell?_setCells_out _ _ _ _ _ (fun _ _ => by show j * 12 + k < o ∨ _; omega)]
  exact (h j hj k v hv).1
theorem RT.isS {w : World} {g : Nat} {r : List T} (h : RT w g r) {t : Nat} (ht : t < r.length * 12) : (w.cell? ⟨g, t, none⟩).isSome = true ∧ w.frozen? ⟨g, t, none⟩ = false := by
  have hq : t / 12 < r.length := by omega
  have e : (t / 12) * 12 + t % 12 = t := by omega
  have := h (t / 12) hq (t % 12) _ (List.getElem?_eq_getElem (by rw [cells_len]; omega))
  rw [e] at this
  exact ⟨by rw [this.1]; rfl, this.2⟩
theorem RT.holds {w : World} {g : Nat} {r : List T} (h : RT w g r) : Sort.HoldsK T.cells 12 w g 0 r.toArray := by
  intro t ht
  rw [Sort.size_flatK, List.size_toArray] at ht
  have hq : t / 12 < r.length := by omega
  have e : (t / 12) * 12 + t % 12 = t := by omega
  rw [Sort.get_flatK _ _ _ _ (by rw [List.size_toArray]; exact ht), Nat.zero_add]
  have e2 : r.toArray[t / 12]! = r[t / 12]! := by rw [getElem!_pos _ _ (by simpa using hq), getElem!_pos r _ hq]; simp
  have hm : t % 12 < (T.cells r[t / 12]!).length := by rw [cells_len]; omega
  have := h (t / 12) hq (t % 12) _ (List.getElem?_eq_getElem hm)
  rw [e] at this
  rw [e2, getElem!_pos (T.cells r[t / 12]!) _ hm]
  exact this
theorem RT.of_holds {w : World} {g : Nat} {d : Array T} (h : Sort.HoldsK T.cells 12 w g 0 d) : RT w g d.toList := by
  intro j hj k v hv
  have hk := cells_lt hv
  have hj2 : j < d.size := by simpa using hj
  have := h.cell hj2 hk
  have e2 : d.toList[j]! = d[j]! := by rw [getElem!_pos d.toList _ hj, getElem!_pos d _ hj2]; simp
  rw [e2] at hv
  obtain ⟨h1, h2⟩ := List.getElem?_eq_some_iff.1 hv
  rw [getElem!_pos (T.cells d[j]!) _ h1, h2, Nat.zero_add] at this
  exact this
theorem setCells_grown (g : Nat) : ∀ (vs : List Value) (o : Nat) {w w' : World}, w.grownBy w' (some g) → w.grownBy (w'.setCells g o vs) (some g)
  | [], _, _, _, h => h
  | v :: r, o, _, _, h => setCells_grown g r (o + 1) (set_grown h o v)
/-- clear of a slice of tasks. -/
theorem run_clear_tasks (w : World) (g o n c : Nat) (ty : TypeId) (hn : 0 < n) (hs : ∀ t, t < n * 12 → (w.cell? ⟨g, o + t, none⟩).isSome = true ∧ w.frozen? ⟨g, o + t, none⟩ = false) :
    ∃ vs, (Builtin.clear_ #[40] ty #[.slice (some ⟨g, o, none⟩) n c]).run Try.prog w = .ok (.tuple #[]) (w.setCells g o vs) := by
  obtain ⟨z, hz, hzc⟩ : ∃ z : Value, (∀ w, (zeroValue 39).run Try.prog w = .ok z w) ∧ z.cells = #[.int .i64 0, .int .i64 0, .int .i64 0, .int .i64 0, .string ⟨#[]⟩, .int .i64 0, .string ⟨#[]⟩, .int .i64 0, .int .i64 0, .int .i64 0, .int .i64 0, .bool false] := ⟨.agg #[.int .i64 0, .int .i64 0, .int .i64 0, .int .i64 0, .string ⟨#[]⟩, .int .i64 0, .string ⟨#[]⟩, .int .i64 0, .int .i64 0, .int .i64 0, .int .i64 0, .bool false], fun w => by kernel_rfl, rfl⟩
  have hlen : (Builtin.zeroCells z.cells n).toList.length = n * 12 := by rw [hzc]; simp [Builtin.zeroCells]
  refine ⟨(Builtin.zeroCells z.cells n).toList, ?_⟩
  have hst := run_storeCells_cells (P := Try.prog) g o (Builtin.zeroCells z.cells n).toList 0 w (fun j hj => (hs j (by omega)).1) (fun j hj => (hs j (by omega)).2) (by
    intro v hv
    unfold Builtin.zeroCells at hv
    rw [Array.toList_map, List.mem_map] at hv
    obtain ⟨i, _, rfl⟩ := hv
    rw [hzc]
    have hm : i % 12 < 12 := Nat.mod_lt _ (by decide)
    show (#[Value.int .i64 0, .int .i64 0, .int .i64 0, .int .i64 0, .string ⟨#[]⟩, .int .i64 0, .string ⟨#[]⟩, .int .i64 0, .int .i64 0, .int .i64 0, .int .i64 0, .bool false][i % 12]!).oneCell' = true
    generalize i % 12 = t at hm
    rcases (show t = 0 ∨ t = 1 ∨ t = 2 ∨ t = 3 ∨ t = 4 ∨ t = 5 ∨ t = 6 ∨ t = 7 ∨ t = 8 ∨ t = 9 ∨ t = 10 ∨ t = 11 by omega) with h | h | h | h | h | h | h | h | h | h | h | h <;> subst h <;> rfl)
  simp only [Nat.add_zero] at hst
  obtain ⟨m, rfl⟩ : ∃ m, n = m + 1 := ⟨n - 1, by omega⟩
  simp [Builtin.clear_, run_underlying Try.underlying40, hz, hst]
end Qu
end Go.Proofs.Ytdmbbbljamjhkaa
