/- Package queue: mathematics of a queue (tasks by ID); how a map of tasks reads. -/
import Derived.Test.YtdmbbbljamjhkaaMb
import Derived.Test.YtdmbbbljamjhkaaGq
import Derived.Maps.OwnSet
import Derived.Maps.RangeWalk
import Derived.Maps.Ext
namespace Go.Proofs.Ytdmbbbljamjhkaa
open Go.RowKit

namespace Qu
open Ls (T)
theorem val_inj {x y : T} (h : x.val = y.val) : x = y := by
  cases x
  cases y
  simp [T.val] at h
  obtain ⟨h1, h2, h3, h4, h5, h6, h7, h8, h9, h10, h11, h12⟩ := h
  simp only [T.mk.injEq]
  exact ⟨h1, h2, h3, h4, h5, h6, h7, h8, h9, h10, h11, h12⟩
open Classical in
/-- How a task in a map reads. -/
noncomputable def taskR (v : Value) : Option (DataW T × List MemPlace) := if h : ∃ x : T, x.val = v then some (.held h.choose, []) else none
theorem taskR_mk (x : T) : taskR x.val = some (.held x, []) := by
  have h : ∃ y : T, y.val = x.val := ⟨x, rfl⟩
  unfold taskR
  rw [dif_pos h, val_inj h.choose_spec]
theorem taskR_inv {v : Value} {y : DataW T × List MemPlace} (h : taskR v = some y) : ∃ x : T, v = x.val ∧ y = (.held x, []) := by
  unfold taskR at h
  split at h
  · rename_i he
    exact ⟨he.choose, he.choose_spec.symm, (Option.some.inj h).symm⟩
  · cases h
def key (x : T) : Lit := .int .i64 x.id
def ent (x : T) : Lit × DataW T := (key x, .held x)
def mapD (l : List T) : DataW T := .map (l.map ent)
def Asc (l : List T) : Prop := l.Pairwise fun a b => a.id < b.id
def Wf (l : List T) : Prop := ∀ x ∈ l, (Lit.int .i64 x.id).wf = true ∧ x.top.size ≤ 1000
def ins (x : T) : List T → List T
  | [] => [x]
  | y :: r => if x.id < y.id then x :: y :: r else if x.id = y.id then x :: r else y :: ins x r
def out (n : Int) (l : List T) : List T := l.filter fun y => !decide (y.id = n)
def has (n : Int) (l : List T) : Bool := l.any fun y => decide (y.id = n)
theorem same_int (a b : Int) : (Lit.int .i64 a).sameKey (.int .i64 b) = decide (a = b) := by simp [Lit.sameKey]
theorem before_int (a b : Int) : (Lit.int .i64 a).before (.int .i64 b) = decide (a < b) := rfl
theorem mem_ins {x y : T} : ∀ {l : List T}, Asc l → (y ∈ ins x l ↔ y = x ∨ (y ∈ l ∧ y.id ≠ x.id))
  | [], _ => by simp [ins]
  | z :: r, h => by
    obtain ⟨h1, h2⟩ := List.pairwise_cons.1 h
    unfold ins
    split
    · rename_i hlt
      have h3 : ∀ u ∈ z :: r, u.id ≠ x.id := by
        intro u hu
        rcases List.mem_cons.1 hu with rfl | hu
        · omega
        · have := h1 u hu
          omega
      rw [List.mem_cons]
      exact ⟨fun hy => hy.elim .inl (fun hy => .inr ⟨hy, h3 y hy⟩), fun hy => hy.elim .inl (fun hy => .inr hy.1)⟩
    · split
      · rename_i heq
        rw [List.mem_cons]
        constructor
        · rintro (rfl | hy)
          · exact .inl rfl
          · exact .inr ⟨List.mem_cons_of_mem _ hy, by have := h1 y hy; omega⟩
        · rintro (rfl | ⟨hy, hn⟩)
          · exact .inl rfl
          · rcases List.mem_cons.1 hy with rfl | hy
            · omega
            · exact .inr hy
      · rename_i hn1 hn2
        rw [List.mem_cons, mem_ins h2]
        constructor
        · rintro (rfl | rfl | ⟨hy, hn⟩)
          · exact .inr ⟨List.mem_cons_self, fun e => hn2 e.symm⟩
          · exact .inl rfl
          · exact .inr ⟨List.mem_cons_of_mem _ hy, hn⟩
        · rintro (rfl | ⟨hy, hn⟩)
          · exact .inr (.inl rfl)
          · rcases List.mem_cons.1 hy with rfl | hy
            · exact .inl rfl
            · exact .inr (.inr ⟨hy, hn⟩)
theorem asc_ins {x : T} : ∀ {l : List T}, Asc l → Asc (ins x l)
  | [], _ => by simp [ins, Asc]
  | z :: r, h => by
    obtain ⟨h1, h2⟩ := List.pairwise_cons.1 h
    unfold ins
    split
    · rename_i hlt
      exact List.pairwise_cons.2 ⟨fun u hu => by
        rcases List.mem_cons.1 hu with rfl | hu
        · exact hlt
        · exact Int.lt_trans hlt (h1 u hu), h⟩
    · split
      · rename_i heq
        exact List.pairwise_cons.2 ⟨fun u hu => by rw [heq]; exact h1 u hu, h2⟩
      · rename_i hn1 hn2
        exact List.pairwise_cons.2 ⟨fun u hu => by
          rcases (mem_ins h2).1 hu with rfl | ⟨hu, _⟩
          · omega
          · exact h1 u hu, asc_ins h2⟩
theorem wf_ins {x : T} {l : List T} (ha : Asc l) (hx : (Lit.int .i64 x.id).wf = true ∧ x.top.size ≤ 1000) (h : Wf l) : Wf (ins x l) := fun y hy => by
  rcases (mem_ins ha).1 hy with rfl | ⟨hy, _⟩
  · exact hx
  · exact h y hy
theorem len_ins {x : T} : ∀ (l : List T), l.length ≤ (ins x l).length ∧ (ins x l).length ≤ l.length + 1
  | [] => by simp [ins]
  | z :: r => by
    have := len_ins (x := x) r
    unfold ins
    split
    · simp
    · split
      · simp
      · simp only [List.length_cons]
        omega
theorem asc_out {n : Int} {l : List T} (h : Asc l) : Asc (out n l) := h.filter _
theorem wf_out {n : Int} {l : List T} (h : Wf l) : Wf (out n l) := fun x hx => h x (List.mem_filter.1 hx).1
theorem len_out (n : Int) (l : List T) : (out n l).length ≤ l.length := List.length_filter_le _ _
theorem insert_all {n : Int} : ∀ {l : List T}, (∀ y ∈ l, n < y.id) → (l.map ent).filter (fun p => !p.1.sameKey (.int .i64 n)) = l.map ent := fun {l} h => by
  rw [List.filter_eq_self]
  intro p hp
  obtain ⟨y, hy, rfl⟩ := List.mem_map.1 hp
  have := h y hy
  show (!(Lit.int .i64 y.id).sameKey (.int .i64 n)) = true
  rw [same_int, decide_eq_false (by omega)]
  rfl
theorem insert_first (x : T) : ∀ {l : List T}, (∀ y ∈ l, x.id < y.id) → DataW.insert (ent x) (l.map ent) = (x :: l).map ent
  | [], _ => rfl
  | z :: r, h => by
    show (if (key x).before (key z) then _ else _) = _
    unfold key
    rw [before_int, if_pos (decide_eq_true (h z List.mem_cons_self))]
    rfl
theorem insert_mapD (x : T) : ∀ {l : List T}, Asc l → DataW.insert (ent x) ((l.map ent).filter fun p => !p.1.sameKey (.int .i64 x.id)) = (ins x l).map ent
  | [], _ => rfl
  | z :: r, h => by
    obtain ⟨h1, h2⟩ := List.pairwise_cons.1 h
    have e1 : (!(ent z).1.sameKey (.int .i64 x.id)) = !decide (z.id = x.id) := by
      show (!(Lit.int .i64 z.id).sameKey (.int .i64 x.id)) = _
      rw [same_int]
    unfold ins
    rw [List.map_cons, List.filter_cons, e1]
    by_cases hlt : x.id < z.id
    · rw [if_pos hlt, decide_eq_false (show ¬ z.id = x.id by omega), if_pos (show (!false) = true from rfl), insert_all (fun y hy => Int.lt_trans hlt (h1 y hy))]
      exact insert_first x (l := z :: r) (fun y hy => by
        rcases List.mem_cons.1 hy with rfl | hy
        · exact hlt
        · exact Int.lt_trans hlt (h1 y hy))
    · rw [if_neg hlt]
      by_cases heq : x.id = z.id
      · rw [if_pos heq, decide_eq_true heq.symm, if_neg (by decide), insert_all (fun y hy => by rw [heq]; exact h1 y hy)]
        exact insert_first x (fun y hy => by rw [heq]; exact h1 y hy)
      · rw [if_neg heq, decide_eq_false (fun e => heq e.symm), if_pos (show (!false) = true from rfl)]
        show (if (key x).before (key z) then _ else _) = _
        unfold key
        rw [before_int, decide_eq_false (by omega), if_neg (by decide), insert_mapD x h2]
        rfl
theorem put_mapD (x : T) {l : List T} (h : Asc l) : (mapD l).put (.int .i64 x.id) (.held x) = mapD (ins x l) := congrArg DataW.map (insert_mapD x h)
theorem del_mapD (n : Int) (l : List T) : (mapD l).del (.int .i64 n) = mapD (out n l) := by
  refine congrArg DataW.map ?_
  unfold out
  rw [List.filter_map]
  refine congrArg (List.map ent) (List.filter_congr fun y _ => ?_)
  show (!(Lit.int .i64 y.id).sameKey (.int .i64 n)) = _
  rw [same_int]
theorem has_mapD (n : Int) (l : List T) : Maps.has (mapD l) (.int .i64 n) = has n l := by
  show (l.map ent).any (fun p => p.1.sameKey (.int .i64 n)) = _
  unfold has
  rw [List.any_map]
  refine congrArg (List.any l) (funext fun y => ?_)
  show (Lit.int .i64 y.id).sameKey (.int .i64 n) = _
  rw [same_int]
theorem size_mapD (l : List T) : Maps.size (mapD l) = l.length := List.length_map ..
theorem at_mapD (z : DataW T) (n : Int) (l : List T) : (mapD l).atKey (.int .i64 n) z = ((l.find? (fun y => decide (y.id = n))).map DataW.held).getD z := by
  unfold mapD DataW.atKey
  have e : ((fun p : Lit × DataW T => p.1.sameKey (.int .i64 n)) ∘ ent) = fun y : T => decide (y.id = n) := funext fun y => by
    show (Lit.int .i64 y.id).sameKey (.int .i64 n) = _
    rw [same_int]
  dsimp only
  rw [List.find?_map, e]
  cases l.find? (fun y => decide (y.id = n)) <;> rfl
theorem find_of {l : List T} (h : Asc l) {x : T} (hx : x ∈ l) : l.find? (fun y => decide (y.id = x.id)) = some x := by
  induction l with
  | nil => cases hx
  | cons z r ih =>
    obtain ⟨h1, h2⟩ := List.pairwise_cons.1 h
    rw [List.find?_cons]
    rcases List.mem_cons.1 hx with rfl | hx
    · rw [decide_eq_true rfl]
    · have := h1 x hx
      rw [decide_eq_false (by omega)]
      exact ih h2 hx
theorem has_iff {n : Int} {l : List T} : has n l = true ↔ ∃ x ∈ l, x.id = n := by
  unfold has
  rw [List.any_eq_true]
  simp
/-- What is put one by one. -/
def puts (l : List T) (xs : List T) : List T := xs.foldl (fun l x => ins x l) l
theorem puts_ok {xs : List T} (hx : Wf xs) : ∀ {l : List T}, Asc l → Wf l → Asc (puts l xs) ∧ Wf (puts l xs) ∧ l.length ≤ (puts l xs).length ∧ (puts l xs).length ≤ l.length + xs.length := by
  induction xs with
  | nil => exact fun h1 h2 => ⟨h1, h2, Nat.le_refl _, Nat.le_refl _⟩
  | cons x r ih =>
    intro l h1 h2
    obtain ⟨a, b, c, d⟩ := ih (fun y hy => hx y (List.mem_cons_of_mem _ hy)) (asc_ins (x := x) h1) (wf_ins h1 (hx x List.mem_cons_self) h2)
    have := len_ins (x := x) l
    exact ⟨a, b, Nat.le_trans this.1 c, by rw [List.length_cons]; show (puts (ins x l) r).length ≤ _; omega⟩
/-- The bound on a map's entries is how many it reads. -/
theorem own_tight {H : Type} {P : Program} {k : TypeId} {R : Value → Option (DataW H × List MemPlace)} {w : World} {b n : Nat} {D : DataW H} (h : w.ownsMap P k R b n D) : w.ownsMap P k R b (Maps.size D) D := by
  obtain ⟨es, clock, hb, F, hs, rfl⟩ := h
  exact ⟨es, clock, hb, F, by rw [Maps.size_eq, length_read]; exact Nat.le_refl _, rfl⟩
/-- A task's twelve cells. -/
def tκ : Cs T := ⟨12, T.cells, fun _ => rfl, fun x u hu => by
  simp only [T.cells, List.mem_cons, List.not_mem_nil, or_false] at hu
  rcases hu with rfl | rfl | rfl | rfl | rfl | rfl | rfl | rfl | rfl | rfl | rfl | rfl <;> rfl⟩
theorem law : Maps.Keyed Try.prog 3 := Maps.int_keyed Try.underlying3
theorem key_int {n : Int} (h : (Lit.int .i64 n).wf = true) : keyOf Try.prog 3 (.int .i64 n) = some (.int .i64 n) := Maps.keyOf_int_mk Try.underlying3 h
theorem wf_of {n : Int} (h1 : -9223372036854775808 ≤ n) (h2 : n ≤ 9223372036854775807) : (Lit.int .i64 n).wf = true := by
  have e1 : IntKind.i64.min = -9223372036854775808 := by decide
  have e2 : IntKind.i64.max = 9223372036854775807 := by decide
  show (decide (IntKind.i64.min ≤ n) && decide (n ≤ IntKind.i64.max)) = true
  rw [e1, e2, decide_eq_true h1, decide_eq_true h2]
  rfl
def Owns (w : World) (b : Nat) (l : List T) : Prop := w.ownsMap Try.prog 3 taskR b l.length (mapD l)
/-- A queue in memory: one cell, a map. -/
structure QuC (w : World) (q : Nat) (m : Option Nat) (l : List T) : Prop where
  cel : Cel w q [.map m]
  asc : Asc l
  wf : Wf l
  own : (m = none ∧ l = []) ∨ ∃ b, m = some b ∧ Owns w b l
/-- What turns: at most the blocks of which S holds, and what is new. -/
structure Kp (S : Nat → Prop) (w w' : World) : Prop where
  os : w'.os = w.os
  tape : w'.tape = w.tape
  output : w'.output = w.output
  size : w.heap.size ≤ w'.heap.size
  block : ∀ i, i < w.heap.size → ¬ S i → w'.heap[i]? = w.heap[i]?
end Qu
end Go.Proofs.Ytdmbbbljamjhkaa
