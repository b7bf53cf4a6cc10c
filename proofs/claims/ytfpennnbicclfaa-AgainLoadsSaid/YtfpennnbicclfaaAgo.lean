/- AgainLast: mathematics of one worker's page. -/
import Derived.Test.YtfpennnbicclfaaAgm
namespace Go.Proofs.Ytfpennnbicclfaa
open Go.RowKit

namespace Ag
def lastN {α : Type} (l : List α) : List α := l.drop (l.length - 4)
theorem pushed_last {α : Type} (l : List α) (x : α) : pushed (lastN l) x = lastN (l ++ [x]) := by
  unfold pushed lastN
  have h1 : l.drop (l.length - 4) ++ [x] = (l ++ [x]).drop (l.length - 4) := by
    rw [List.drop_append_of_le_length (by omega)]
  rw [h1, List.drop_drop, List.length_drop, List.length_append, List.length_singleton]
  congr 1
  omega
def kys (i : Nat) : List Int := (List.range i).map fun j : Nat => (j : Int) + 1
theorem kys_succ (i : Nat) : kys (i + 1) = kys i ++ [(i : Int) + 1] := by
  unfold kys
  rw [List.range_succ, List.map_append]
  rfl
theorem kys_len (i : Nat) : (kys i).length = i := by simp [kys]
theorem last_len {α : Type} (l : List α) : (lastN l).length = min l.length 4 := by
  unfold lastN
  rw [List.length_drop]
  omega
theorem last_at {α : Type} [Inhabited α] (l : List α) {k : Nat} (hk : k < min l.length 4) : (lastN l)[k]! = l[l.length - 4 + k]! := by
  have h1 := last_len l
  rw [getElem!_pos _ k (by omega), getElem!_pos _ (l.length - 4 + k) (by omega)]
  unfold lastN
  rw [List.getElem_drop]
theorem kys_at {n k : Nat} (hk : k < n) : (kys n)[k]! = (k : Int) + 1 := by
  rw [getElem!_pos _ k (by rw [kys_len]; exact hk)]
  simp [kys]
/-- One worker's book behind i replies of one life. -/
def book (s : ByteArray) (f : Int) (rs : List (List UInt8)) (i : Nat) : List Ab := if i = 0 then [] else [⟨s, f, lastN (kys i), lastN (rs.take i)⟩]
theorem at_one (s : ByteArray) (p : Ab) (h : p.wkr = s) : at? Ab.wkr s [p] = some p := by
  simp [at?, List.find?, h]
theorem idx_in {n j : Nat} (hj : j < n) (h4 : n - 4 ≤ j) : Lib.idxBy (fun x y : Int => decide (x = y)) (lastN (kys n)) ((j : Int) + 1) = ((j - (n - 4) : Nat) : Int) := by
  have hl : (lastN (kys n)).length = min n 4 := by rw [last_len, kys_len]
  have hat : ∀ k, k < min n 4 → (lastN (kys n))[k]! = ((n - 4 + k : Nat) : Int) + 1 := fun k hk => by
    rw [last_at _ (by rw [kys_len]; exact hk), kys_len, kys_at (by omega)]
  have := Lib.idxByFrom_hit (fun x y : Int => decide (x = y)) ((j : Int) + 1) (lastN (kys n)) (j - (n - 4)) 0 (by rw [hl]; omega) (by
    rw [hat _ (by omega)]
    simp only [decide_eq_true_eq]
    omega) (fun i hi => by
    rw [hat _ (by omega)]
    simp only [decide_eq_false_iff_not]
    omega)
  unfold Lib.idxBy
  rw [this, Nat.zero_add]
theorem idx_out {n j : Nat} (h4 : n ≤ j ∨ j < n - 4) : Lib.idxBy (fun x y : Int => decide (x = y)) (lastN (kys n)) ((j : Int) + 1) = -1 := by
  have hl : (lastN (kys n)).length = min n 4 := by rw [last_len, kys_len]
  have hat : ∀ k, k < min n 4 → (lastN (kys n))[k]! = ((n - 4 + k : Nat) : Int) + 1 := fun k hk => by
    rw [last_at _ (by rw [kys_len]; exact hk), kys_len, kys_at (by omega)]
  have := Lib.idxByFrom_miss (fun x y : Int => decide (x = y)) ((j : Int) + 1) (lastN (kys n)) 0 (fun i hi => by
    rw [hat _ (by omega)]
    simp only [decide_eq_false_iff_not]
    omega)
  unfold Lib.idxBy
  rw [this]
theorem look_book_new (s : ByteArray) (f : Int) (rs : List (List UInt8)) (i : Nat) : look (book s f rs i) s f ((i : Int) + 1) = (0, []) := by
  unfold book
  by_cases h : i = 0
  · rw [if_pos h]
    rfl
  · rw [if_neg h]
    unfold look
    rw [at_one s _ rfl]
    dsimp only
    rw [if_neg (Int.lt_irrefl f), if_neg (Int.lt_irrefl f), idx_out (.inl (Nat.le_refl i)), if_pos (by decide)]
theorem keep_book (s : ByteArray) (f : Int) (rs : List (List UInt8)) (i : Nat) (hi : i < rs.length) : keep (book s f rs i) s f ((i : Int) + 1) rs[i]! = book s f rs (i + 1) := by
  unfold keep
  rw [look_book_new, if_pos rfl]
  have ht : rs.take (i + 1) = rs.take i ++ [rs[i]!] := by rw [List.take_succ_eq_append_getElem hi, getElem!_pos rs i hi]
  have e2 : book s f rs (i + 1) = [⟨s, f, lastN (kys (i + 1)), lastN (rs.take (i + 1))⟩] := by unfold book; rw [if_neg (by omega)]
  rw [e2, kys_succ, ht, ← pushed_last, ← pushed_last]
  unfold book kept baseA
  by_cases h : i = 0
  · subst h
    rw [if_pos rfl]
    rfl
  · rw [if_neg h, at_one s _ rfl]
    dsimp only
    rw [if_neg (Int.lt_irrefl f)]
    unfold ins
    rw [if_neg (by rw [ltb_irrefl]; decide), if_pos rfl]
theorem look_book (s : ByteArray) (f : Int) (rs : List (List UInt8)) {n j : Nat} (hj : j < n) (hn : n ≤ rs.length) :
    look (book s f rs n) s f ((j : Int) + 1) = if n - 4 ≤ j then (1, rs[j]!) else (0, []) := by
  unfold book
  rw [if_neg (by omega)]
  unfold look
  rw [at_one s _ rfl]
  dsimp only
  rw [if_neg (Int.lt_irrefl f), if_neg (Int.lt_irrefl f)]
  by_cases h4 : n - 4 ≤ j
  · rw [if_pos h4, idx_in hj h4, if_neg (by omega)]
    have hl : (rs.take n).length = n := by rw [List.length_take]; omega
    rw [Int.toNat_natCast, last_at _ (by rw [hl]; omega), hl, show n - 4 + (j - (n - 4)) = j by omega, getElem!_pos _ j (by omega), getElem!_pos rs j (by omega), List.getElem_take]
  · rw [if_neg h4, idx_out (.inr (by omega)), if_pos (by decide)]
theorem look_next (s : ByteArray) (f k : Int) (ks : List Int) (rs : List (List UInt8)) : look [⟨s, f, ks, rs⟩] s (f + 1) k = (0, []) := by
  unfold look
  rw [at_one s _ rfl]
  dsimp only
  rw [if_pos (by omega)]
theorem keep_next (s : ByteArray) (f k : Int) (ks : List Int) (rs : List (List UInt8)) (r : List UInt8) : keep [⟨s, f, ks, rs⟩] s (f + 1) k r = [⟨s, f + 1, [k], [r]⟩] := by
  unfold keep
  rw [look_next, if_pos rfl]
  unfold kept baseA
  rw [at_one s _ rfl]
  dsimp only
  rw [if_pos (by omega)]
  unfold ins
  rw [if_neg (by rw [ltb_irrefl]; decide), if_pos rfl]
  rfl
theorem look_before (s : ByteArray) (f k : Int) (ks : List Int) (rs : List (List UInt8)) : look [⟨s, f + 1, ks, rs⟩] s f k = (2, []) := by
  unfold look
  rw [at_one s _ rfl]
  dsimp only
  rw [if_neg (by omega), if_pos (by omega)]
theorem look_other {s t : ByteArray} (f i k : Int) (ks : List Int) (rs : List (List UInt8)) (h : s ≠ t) : look [⟨s, f, ks, rs⟩] t i k = (0, []) := by
  unfold look
  have : at? Ab.wkr t [(⟨s, f, ks, rs⟩ : Ab)] = none := by simp [at?, List.find?, h]
  rw [this]
  rfl
end Ag
end Go.Proofs.Ytfpennnbicclfaa
