/- AgainMany: mathematics of a page a worker. -/
import Derived.Test.YtfpennnbicclfaaAgo
namespace Go.Proofs.Ytfpennnbicclfaa
open Go.RowKit

namespace Ag
def wn (i : Nat) : ByteArray := ⟨#[119, UInt8.ofNat (48 + i)]⟩
theorem wn_lt : ∀ a, a < 10 → ∀ b, b < 10 → a < b → ltb (wn a) (wn b) = true := by decide +kernel
theorem wn_inj {a b : Nat} (ha : a < 10) (hb : b < 10) (h : wn a = wn b) : a = b := by
  rcases Nat.lt_trichotomy a b with h1 | h1 | h1
  · exact absurd h (ltb_ne (wn_lt a ha b hb h1))
  · exact h1
  · exact absurd h.symm (ltb_ne (wn_lt b hb a ha h1))
theorem ins_last {α : Type} (k : α → ByteArray) {x : α} : ∀ {l : List α}, (∀ y ∈ l, ltb (k y) (k x) = true) → ins k x l = l ++ [x]
  | [], _ => rfl
  | y :: r, h => by
    have h1 := h y List.mem_cons_self
    unfold ins
    rw [if_neg (fun e => by have := ltb_trans h1 e; rw [ltb_irrefl] at this; cases this), if_neg (fun e => ltb_ne h1 e.symm), ins_last k (fun z hz => h z (List.mem_cons_of_mem _ hz))]
    rfl
def mp (x : UInt8) (i : Nat) : Ab := ⟨wn i, 1 + (i : Int), [1], [[x, UInt8.ofNat i]]⟩
def many (x : UInt8) (i : Nat) : List Ab := (List.range (min i 6)).map (mp x)
theorem many_len (x : UInt8) (i : Nat) : (many x i).length = min i 6 := by simp [many]
theorem many_asc (x : UInt8) (i : Nat) : Asc Ab.wkr (many x i) := by
  unfold Asc many
  rw [List.pairwise_map]
  refine List.Pairwise.imp_of_mem ?_ List.pairwise_lt_range
  intro a b ha hb hab
  have h1 := List.mem_range.1 ha
  have h2 := List.mem_range.1 hb
  exact wn_lt a (by omega) b (by omega) hab
theorem many_none (x : UInt8) {i : Nat} (hi : i < 10) : at? Ab.wkr (wn i) (many x i) = none := by
  rw [at_none]
  intro y hy
  obtain ⟨j, hj, rfl⟩ := List.mem_map.1 hy
  have h1 := List.mem_range.1 hj
  exact fun e => by have := wn_inj (a := j) (b := i) (by omega) hi e; omega
theorem look_many (x : UInt8) {i : Nat} (hi : i < 10) : look (many x i) (wn i) (1 + (i : Int)) 1 = if i < 6 then (0, []) else (3, []) := by
  unfold look
  rw [many_none x hi]
  dsimp only
  rw [many_len]
  by_cases h : i < 6
  · rw [if_pos (by omega), if_pos h]
  · rw [if_neg (by omega), if_neg h]
theorem keep_many (x : UInt8) {i : Nat} (hi : i < 10) : keep (many x i) (wn i) (1 + (i : Int)) 1 [x, UInt8.ofNat i] = many x (i + 1) := by
  unfold keep
  rw [look_many x hi]
  by_cases h : i < 6
  · rw [if_pos h, if_pos rfl]
    unfold kept baseA
    rw [many_none x hi]
    have e1 : ins Ab.wkr (mp x i) (many x i) = many x i ++ [mp x i] := ins_last Ab.wkr (fun y hy => by
      obtain ⟨j, hj, rfl⟩ := List.mem_map.1 hy
      have h1 := List.mem_range.1 hj
      exact wn_lt j (by omega) i (by omega) (by omega))
    have e2 : many x (i + 1) = many x i ++ [mp x i] := by
      unfold many
      rw [show min (i + 1) 6 = i + 1 by omega, show min i 6 = i by omega, List.range_succ, List.map_append]
      rfl
    rw [e2]
    exact e1
  · rw [if_neg h, if_neg (by decide)]
    unfold many
    rw [show min (i + 1) 6 = min i 6 by omega]
theorem look_had (x : UInt8) {n i : Nat} (hi : i < min n 6) : look (many x n) (wn i) (1 + (i : Int)) 1 = (1, [x, UInt8.ofNat i]) := by
  have hm : mp x i ∈ many x n := List.mem_map.2 ⟨i, List.mem_range.2 hi, rfl⟩
  have ha := at_of Ab.wkr (many_asc x n) hm
  have ha : at? Ab.wkr (wn i) (many x n) = some (mp x i) := ha
  unfold look
  rw [ha]
  dsimp only [mp]
  rw [if_neg (Int.lt_irrefl _), if_neg (Int.lt_irrefl _)]
  rfl
end Ag
end Go.Proofs.Ytfpennnbicclfaa
