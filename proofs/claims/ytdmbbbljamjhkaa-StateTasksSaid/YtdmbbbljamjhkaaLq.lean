/- QueueTopics: the walk. -/
import Derived.Test.YtdmbbbljamjhkaaLp
import Derived.Test.YtdmbbbljamjhkaaOpen
import Derived.Test.YtdmbbbljamjhkaaNumber
namespace Go.Proofs.Ytdmbbbljamjhkaa
open Go.RowKit

namespace Qu
open Ls (T)
/-- A row of numbers. -/
def nκ : Cs Int := ⟨1, fun x => [.int .i64 x], fun _ => rfl, fun x u hu => by
  rw [List.mem_singleton] at hu
  subst hu
  rfl⟩
theorem nrow {w : World} {B n : Nat} {A : Option Addr} {l : List Int} (h : Row w B A n (l.map (Value.int .i64))) : KRow nκ w B A n l := by
  have e : ∀ l : List Int, l.flatMap nκ.cs = l.map (Value.int .i64) := fun l => by
    induction l with
    | nil => rfl
    | cons y r ih =>
      rw [List.flatMap_cons, ih]
      rfl
  unfold KRow
  rw [e]
  exact h
theorem n_at {w : World} {b off n B : Nat} {l : List Int} (h : KRow nκ w B (some ⟨b, off, none⟩) n l) {j : Nat} (hj : j < n) : w.cell? ⟨b, off + j, none⟩ = some (.int .i64 l[j]!) := by
  have := KRow.of (κ := nκ) h (by decide) hj 0 (.int .i64 l[j]!) rfl
  rwa [show off + j * nκ.k + 0 = off + j from by show off + j * 1 + 0 = off + j; omega] at this
theorem and1 (y : Int) : ∃ k : Nat, k ≤ 1 ∧ Go.bits .and .i64 y 1 = (k : Int) := by
  have h : ((BitVec.ofInt 64 y) &&& BitVec.ofInt 64 1).toNat ≤ 1 := by
    rw [BitVec.toNat_and]
    exact Nat.le_trans Nat.and_le_right (by decide)
  refine ⟨((BitVec.ofInt 64 y) &&& BitVec.ofInt 64 1).toNat, h, ?_⟩
  show IntKind.i64.wrap ((BitVec.ofInt 64 y &&& BitVec.ofInt 64 1).toNat : Int) = _
  rw [IntKind.wrap_i64]
  generalize ((BitVec.ofInt 64 y) &&& BitVec.ofInt 64 1).toNat = n at *
  omega
theorem ins_last {x : T} : ∀ {l : List T}, (∀ y ∈ l, y.id < x.id) → ins x l = l ++ [x]
  | [], _ => rfl
  | y :: r, h => by
    have h1 := h y List.mem_cons_self
    unfold ins
    rw [if_neg (by omega), if_neg (by omega), ins_last (fun z hz => h z (List.mem_cons_of_mem _ hz))]
    rfl
def sa : ByteArray := ⟨#[97]⟩
def sb : ByteArray := ⟨#[98]⟩
def sc : ByteArray := ⟨#[99]⟩
/-- What stands in the queue behind j rounds, a of them of topic a. -/
structure TInv (l : List T) (j a : Nat) : Prop where
  len : l.length = j
  ids : ∀ x ∈ l, x.id ≤ (j : Int)
  free : ∀ x ∈ l, x.free 0 = true
  top : ∀ x ∈ l, x.top = sa ∨ x.top = sb
  cnt : (l.filter fun x => decide (x.top = sa)).length = a
def tmk (j : Nat) (tp : ByteArray) : T := ⟨(j : Int) + 1, 1, 1, 0, tp, 0, ⟨#[]⟩, 0, 0, 0, 1, false⟩
theorem TInv.step {l : List T} {j a : Nat} (h : TInv l j a) {tp : ByteArray} (ht : tp = sa ∨ tp = sb) : TInv (ins (tmk j tp) l) (j + 1) (if tp = sa then a + 1 else a) := by
  rw [ins_last (fun y hy => by have := h.ids y hy; show y.id < (j : Int) + 1; omega)]
  refine ⟨by rw [List.length_append, h.len]; rfl, fun x hx => ?_, fun x hx => ?_, fun x hx => ?_, ?_⟩
  · rcases List.mem_append.1 hx with hx | hx
    · have := h.ids x hx
      omega
    · rw [List.mem_singleton] at hx
      subst hx
      show (j : Int) + 1 ≤ _
      omega
  · rcases List.mem_append.1 hx with hx | hx
    · exact h.free x hx
    · rw [List.mem_singleton] at hx
      subst hx
      rfl
  · rcases List.mem_append.1 hx with hx | hx
    · exact h.top x hx
    · rw [List.mem_singleton] at hx
      subst hx
      exact ht
  · rw [List.filter_append, List.length_append, h.cnt]
    by_cases e : tp = sa
    · rw [if_pos e, List.filter_cons, if_pos (by rw [decide_eq_true_iff]; exact e)]
      rfl
    · rw [if_neg e, List.filter_cons, if_neg (by rw [decide_eq_true_iff]; exact e)]
      rfl
theorem TInv.start : TInv [] 0 0 := ⟨rfl, fun _ h => (by cases h), fun _ h => (by cases h), fun _ h => (by cases h), rfl⟩
theorem TInv.ca {l : List T} {j a : Nat} (h : TInv l j a) : (cand l 0 [sa]).length = a := by
  rw [← h.cnt]
  unfold cand
  refine congrArg List.length (List.filter_congr fun x hx => ?_)
  rw [h.free x hx, asks_cons, Bool.and_true]
  show (decide (sa = x.top) || false) = _
  rw [Bool.or_false, Bool.eq_iff_iff, decide_eq_true_iff, decide_eq_true_iff]
  exact eq_comm
theorem sab : sa ≠ sb := by decide
theorem filt_split {α : Type} (p : α → Bool) : ∀ l : List α, (l.filter p).length + (l.filter fun x => !p x).length = l.length
  | [] => rfl
  | y :: r => by
    have := filt_split p r
    rw [List.filter_cons, List.filter_cons, List.length_cons]
    cases h : p y
    · simp
      omega
    · simp
      omega
theorem TInv.cb {l : List T} {j a : Nat} (h : TInv l j a) : (cand l 0 [sb]).length = j - a := by
  have h1 : (cand l 0 [sb]) = l.filter fun x => !decide (x.top = sa) := by
    unfold cand
    refine List.filter_congr fun x hx => ?_
    rw [h.free x hx, asks_cons, Bool.and_true]
    show (decide (sb = x.top) || false) = _
    rcases h.top x hx with e | e <;> rw [e]
    · rfl
    · rfl
  have h2 := filt_split (fun x : T => decide (x.top = sa)) l
  rw [h1]
  have h3 := h.cnt
  have h4 := h.len
  omega
theorem TInv.cab {l : List T} {j a : Nat} (h : TInv l j a) : (cand l 0 [sa, sb]).length = j := by
  rw [← h.len]
  refine congrArg List.length ?_
  unfold cand
  rw [List.filter_eq_self]
  intro x hx
  rw [h.free x hx, asks_cons, asks_cons, Bool.and_true]
  rcases h.top x hx with e | e <;> rw [e] <;> rfl
theorem TInv.cc {l : List T} {j a : Nat} (h : TInv l j a) : (cand l 0 [sc]).length = 0 := by
  rw [List.length_eq_zero_iff]
  unfold cand
  rw [List.filter_eq_nil_iff]
  intro x hx
  rw [asks_cons]
  have h1 : asks [] x.top = false := rfl
  rw [h1]
  rcases h.top x hx with e | e <;> rw [e]
  · rw [show (decide (sc = sa) || false) = false by decide, Bool.false_and]
    decide
  · rw [show (decide (sc = sb) || false) = false by decide, Bool.false_and]
    decide
theorem cand_nil (l : List T) (now : Int) : cand l now [] = [] := by
  unfold cand
  rw [List.filter_eq_nil_iff]
  intro x hx h
  cases h
theorem TInv.le {l : List T} {j a : Nat} (h : TInv l j a) : a ≤ j := by
  rw [← h.cnt, ← h.len]
  exact List.length_filter_le _ _
end Qu
end Go.Proofs.Ytdmbbbljamjhkaa
