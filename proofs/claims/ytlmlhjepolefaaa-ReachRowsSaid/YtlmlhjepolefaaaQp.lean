/- Package reach: mathematics of a row of nodes, and of one with a flow back. -/
import Derived.Test.YtlmlhjepolefaaaQc
import Derived.Test.YtlmlhjepolefaaaQf
namespace Go.Proofs.Ytlmlhjepolefaaa.Rc
open Go.RowKit
open Pr
/-- the flows of a row of j + 1 nodes -/
def rowF (j : Nat) : List Fl := (List.range j).map fun (i : Nat) => (⟨(i : Int), (i : Int) + 1, no⟩ : Fl)
theorem rowF_length (j : Nat) : (rowF j).length = j := by simp [rowF]
theorem rowF_snoc (j : Nat) : rowF (j + 1) = rowF j ++ [⟨(j : Int), (j : Int) + 1, no⟩] := by simp [rowF, List.range_succ]
theorem rowF_mem {j : Nat} {f : Fl} : f ∈ rowF j ↔ ∃ i : Nat, i < j ∧ f = ⟨(i : Int), (i : Int) + 1, no⟩ := by
  simp only [rowF, List.mem_map, List.mem_range]
  exact ⟨fun ⟨i, h, e⟩ => ⟨i, h, e.symm⟩, fun ⟨i, h, e⟩ => ⟨i, h, e.symm⟩⟩
theorem row_nxt {n u v : Nat} (hn : 1 ≤ n) : v ∈ nxt n (rowF (n - 1)) (n - 1) u ↔ v = u + 1 ∧ v < n := by
  rw [nxt_mem, List.take_of_length_le (by rw [rowF_length]; exact Nat.le_refl _)]
  constructor
  · rintro ⟨f, hf, _, h1, h2⟩
    obtain ⟨i, hi, rfl⟩ := rowF_mem.1 hf
    simp only at h1 h2
    omega
  · rintro ⟨rfl, h⟩
    refine ⟨⟨(u : Int), (u : Int) + 1, no⟩, rowF_mem.2 ⟨u, by omega, rfl⟩, okF_iff.2 ⟨u, u + 1, rfl, rfl, by omega, h⟩, rfl, ?_⟩
    simp
theorem row_way {n : Nat} {L : Nat → List Nat} (hL : ∀ u, u + 1 < n → u + 1 ∈ L u) {a : Nat} : ∀ d, a + d + 1 < n → Way L a (a + d + 1)
  | 0, h => Way.one (hL a h)
  | d + 1, h => (row_way hL d (by omega)).trans (Way.one (hL (a + d + 1) h))
theorem row_way' {n : Nat} {L : Nat → List Nat} (hL : ∀ u, u + 1 < n → u + 1 ∈ L u) {a b : Nat} (h : a < b) (hb : b < n) : Way L a b := by
  have := row_way hL (a := a) (b - a - 1) (by omega)
  rwa [show a + (b - a - 1) + 1 = b by omega] at this
theorem row_to {n : Nat} (hn : 1 ≤ n) {u : Nat} (h : u + 1 < n) : u + 1 ∈ nxt n (rowF (n - 1)) (n - 1) u := (row_nxt hn).2 ⟨rfl, h⟩
theorem row_from {n a i : Nat} (hn : 1 ≤ n) (ha : a < n) (hi : i < n) : Pr.Comes n (nxt n (rowF (n - 1)) (n - 1)) (a : Int) i ↔ a < i := by
  constructor
  · rintro ⟨a', e, _, h⟩
    obtain rfl : a = a' := by omega
    exact h.rank (r := id) fun x y h => by have := (row_nxt hn).1 h; simp only [id]; omega
  · intro h
    exact ⟨a, rfl, ha, row_way' (fun u h => row_to hn h) h hi⟩
theorem row_back {n a i : Nat} (hn : 1 ≤ n) (ha : a < n) : Pr.Comes n (bck n (rowF (n - 1)) (n - 1)) (a : Int) i ↔ i < a := by
  constructor
  · rintro ⟨a', e, _, h⟩
    obtain rfl : a = a' := by omega
    have h2 : Way (nxt n (rowF (n - 1)) (n - 1)) i a := h.turn fun x y h => nxt_bck.2 h
    exact h2.rank (r := id) fun x y h => by have := (row_nxt hn).1 h; simp only [id]; omega
  · intro h
    exact ⟨a, rfl, ha, (row_way' (fun u h => row_to hn h) h ha).turn fun x y h => nxt_bck.1 h⟩
theorem nextOf_ext {n : Nat} {L M : Nat → List Nat} (h : ∀ u v, u < n → (v ∈ L u ↔ v ∈ M u)) (out : List Nat) : nextOf n L out = nextOf n M out := by
  have : ∀ i, free n L out i = free n M out i := by
    intro i
    rw [Bool.eq_iff_iff, free_iff, free_iff]
    constructor
    · rintro ⟨h1, h2⟩
      exact ⟨h1, fun u hu => (h2 u hu).imp id fun hn hm => hn ((h u i hu).2 hm)⟩
    · rintro ⟨h1, h2⟩
      exact ⟨h1, fun u hu => (h2 u hu).imp id fun hn hm => hn ((h u i hu).1 hm)⟩
  unfold nextOf
  rw [show free n L out = free n M out from funext this]
theorem ordF_ext {n : Nat} {L M : Nat → List Nat} (h : ∀ u v, u < n → (v ∈ L u ↔ v ∈ M u)) : ∀ k out, ordF n L k out = ordF n M k out
  | 0, _ => rfl
  | k + 1, out => by
    unfold ordF
    rw [nextOf_ext h]
    cases nextOf n M out with
    | none => rfl
    | some u => exact ordF_ext h k _
theorem row_eq {n u : Nat} (hn2 : n ≤ 29) (hu : u < n) : nxt n (rowF (n - 1)) (n - 1) u = if u + 1 < n then [u + 1] else [] := by
  have : ∀ n, n ≤ 29 → ∀ u, u < n → nxt n (rowF (n - 1)) (n - 1) u = if u + 1 < n then [u + 1] else [] := by decide +kernel
  exact this n hn2 u hu
theorem row_eq' {n : Nat} (hn2 : n ≤ 29) : nxt n (rowF (n - 1)) (n - 1) = fun u => if u + 1 < n then [u + 1] else [] := by
  funext u
  by_cases hu : u < n
  · exact row_eq hn2 hu
  · rw [if_neg (by omega), List.eq_nil_iff_forall_not_mem]
    exact fun v h => hu (nxt_lt h).1
theorem row_ord' : ∀ n, n ≤ 29 → ord n (fun u => if u + 1 < n then [u + 1] else []) = List.range n ∧ lg (fun u => if u + 1 < n then [u + 1] else []) (List.range n) = n - 1 := by decide +kernel
theorem row_ord {n : Nat} (hn2 : n ≤ 29) : ord n (nxt n (rowF (n - 1)) (n - 1)) = List.range n ∧ lg (nxt n (rowF (n - 1)) (n - 1)) (ord n (nxt n (rowF (n - 1)) (n - 1))) = n - 1 := by
  rw [row_eq' hn2, (row_ord' n hn2).1]
  exact ⟨rfl, (row_ord' n hn2).2⟩
/-- a row and one flow back, from y to x -/
theorem ring_nxt {n x y u v : Nat} (hn : 1 ≤ n) (hx : x < n) (hy : y < n) : v ∈ nxt n (rowF (n - 1) ++ [⟨(y : Int), (x : Int), no⟩]) n u ↔ (v = u + 1 ∧ v < n) ∨ (u = y ∧ v = x) := by
  have e : nxt n (rowF (n - 1) ++ [⟨(y : Int), (x : Int), no⟩]) n u = nxt n (rowF (n - 1)) (n - 1) u ++ nxt n [⟨(y : Int), (x : Int), no⟩] 1 u := by
    unfold nxt
    rw [List.take_of_length_le (by rw [List.length_append, rowF_length]; simp; omega), List.take_of_length_le (l := rowF (n - 1)) (by rw [rowF_length]; exact Nat.le_refl _), List.filter_append, List.map_append]
    rfl
  rw [e, List.mem_append, row_nxt hn, nxt_mem]
  refine or_congr Iff.rfl ⟨?_, ?_⟩
  · rintro ⟨f, hf, _, h1, h2⟩
    simp only [List.take_succ_cons, List.take_zero, List.mem_singleton] at hf
    subst hf
    simp only at h1 h2
    omega
  · rintro ⟨rfl, rfl⟩
    exact ⟨⟨(u : Int), (v : Int), no⟩, by simp, okF_iff.2 ⟨u, v, rfl, rfl, hy, hx⟩, rfl, rfl⟩
theorem ring_way {n x y a : Nat} (hn : 1 ≤ n) (h1 : x ≤ a) (h2 : a ≤ y) (hy : y < n) : Way (nxt n (rowF (n - 1) ++ [⟨(y : Int), (x : Int), no⟩]) n) a a := by
  have hx : x < n := by omega
  have hL : ∀ u, u + 1 < n → u + 1 ∈ nxt n (rowF (n - 1) ++ [⟨(y : Int), (x : Int), no⟩]) n u := fun u hu => (ring_nxt hn hx hy).2 (Or.inl ⟨rfl, hu⟩)
  have hb : Way (nxt n (rowF (n - 1) ++ [⟨(y : Int), (x : Int), no⟩]) n) y x := Way.one ((ring_nxt hn hx hy).2 (Or.inr ⟨rfl, rfl⟩))
  rcases Nat.eq_or_lt_of_le h1 with rfl | h1
  · rcases Nat.eq_or_lt_of_le h2 with rfl | h2
    · exact hb
    · exact (row_way' hL h2 hy).trans hb
  · have h3 := row_way' hL h1 (by omega)
    rcases Nat.eq_or_lt_of_le h2 with rfl | h2
    · exact hb.trans h3
    · exact (row_way' hL h2 hy).trans (hb.trans h3)
theorem ring_ord {n : Nat} {L : Nat → List Nat} (hL : ∀ u v, v ∈ L u → u < n ∧ v < n) {a : Nat} (h : Way L a a) : (ord n L).length < n := by
  have ht := ord_top n L
  rcases Nat.lt_or_eq_of_le ht.len with h1 | h1
  · exact h1
  · exact absurd (h.rank (r := rank (ord n L)) fun u v he => ht.rank h1 (hL u v he).1 (hL u v he).2 he) (Nat.lt_irrefl _)
end Go.Proofs.Ytlmlhjepolefaaa.Rc
