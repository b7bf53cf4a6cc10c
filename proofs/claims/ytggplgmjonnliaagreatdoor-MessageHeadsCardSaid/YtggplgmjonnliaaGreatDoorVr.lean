/- Variables: plain mathematics. -/
import Derived.Test.YtggplgmjonnliaaGreatDoorBase
namespace Go.Proofs.YtggplgmjonnliaaGreatDoor
open Go.RowKit

namespace Vr
/-- A byte of which names are made. -/
def sign (c : UInt8) : Bool := (decide (97 ≤ c.toNat) && decide (c.toNat ≤ 122)) || (decide (48 ≤ c.toNat) && decide (c.toNat ≤ 57)) || (c.toNat == 95) || (c.toNat == 45)
theorem sign_yes {c : UInt8} (h : (97 ≤ (c.toNat : Int) ∧ (c.toNat : Int) ≤ 122) ∨ (48 ≤ (c.toNat : Int) ∧ (c.toNat : Int) ≤ 57) ∨ (c.toNat : Int) = 95 ∨ (c.toNat : Int) = 45) : sign c = true := by
  simp only [sign, Bool.or_eq_true, Bool.and_eq_true, decide_eq_true_eq, beq_iff_eq]
  omega
theorem sign_no {c : UInt8} (h : ¬ ((97 ≤ (c.toNat : Int) ∧ (c.toNat : Int) ≤ 122) ∨ (48 ≤ (c.toNat : Int) ∧ (c.toNat : Int) ≤ 57) ∨ (c.toNat : Int) = 95 ∨ (c.toNat : Int) = 45)) : sign c = false := by
  rw [← Bool.not_eq_true]
  simp only [sign, Bool.or_eq_true, Bool.and_eq_true, decide_eq_true_eq, beq_iff_eq]
  omega
theorem sign_iff {c : UInt8} : sign c = true ↔ ((97 ≤ (c.toNat : Int) ∧ (c.toNat : Int) ≤ 122) ∨ (48 ≤ (c.toNat : Int) ∧ (c.toNat : Int) ≤ 57) ∨ (c.toNat : Int) = 95 ∨ (c.toNat : Int) = 45) := by
  simp only [sign, Bool.or_eq_true, Bool.and_eq_true, decide_eq_true_eq, beq_iff_eq]
  omega
/-- Is this a name? -/
def name (s : List UInt8) : Bool := decide (1 ≤ s.length) && decide (s.length ≤ 24) && s.all sign
theorem name_short {s : List UInt8} (h : s.length < 1) : name s = false := by simp [name]; omega
theorem name_long {s : List UInt8} (h : 24 < s.length) : name s = false := by
  rw [← Bool.not_eq_true]; simp [name]; omega
theorem name_all {s : List UInt8} (h1 : 1 ≤ s.length) (h2 : s.length ≤ 24) (h : ∀ k (hk : k < s.length), sign s[k] = true) : name s = true := by
  simp only [name, Bool.and_eq_true, decide_eq_true_eq, List.all_eq_true]
  refine ⟨⟨h1, h2⟩, fun x hx => ?_⟩
  obtain ⟨k, hk, rfl⟩ := List.mem_iff_getElem.1 hx
  exact h k hk
theorem name_not {s : List UInt8} {k : Nat} (hk : k < s.length) (h : sign s[k] = false) : name s = false := by
  rw [← Bool.not_eq_true]
  simp only [name, Bool.and_eq_true, List.all_eq_true]
  intro ⟨_, h2⟩
  have := h2 _ (List.getElem_mem hk)
  rw [h] at this
  cases this

/-- A variable: its name; its value's Kind, N, S. -/
structure V where
  name : ByteArray
  kind : Int
  num : Int
  text : ByteArray
instance : Inhabited V := ⟨⟨⟨#[]⟩, 0, 0, ⟨#[]⟩⟩⟩
def V.cells (v : V) : List Value := [.string v.name, .int .i64 v.kind, .int .i64 v.num, .string v.text]
@[simp] theorem V.cells_len (v : V) : v.cells.length = 4 := rfl
/-- Its bounds in memory. -/
structure InV (v : V) : Prop where
  n : v.name.size ≤ 9223372036854775807
  t : v.text.size ≤ 9223372036854775807
  k0 : -9223372036854775808 ≤ v.kind
  k1 : v.kind ≤ 9223372036854775807
  n0 : -9223372036854775808 ≤ v.num
  n1 : v.num ≤ 9223372036854775807

/-- One text ahead of another one, byte by byte. -/
def lss (a b : ByteArray) : Bool := Op.bytesLess a.toList b.toList
theorem less_irrefl : ∀ l : List UInt8, Op.bytesLess l l = false
  | [] => rfl
  | a :: l => by simp [Op.bytesLess, less_irrefl l]
theorem less_trans : ∀ a b c : List UInt8, Op.bytesLess a b = true → Op.bytesLess b c = true → Op.bytesLess a c = true
  | _, [], _, h, _ => by simp [Op.bytesLess] at h
  | _, _ :: _, [], _, h => by simp [Op.bytesLess] at h
  | [], _ :: _, _ :: _, _, _ => rfl
  | a :: x, b :: y, c :: z, h, k => by
    simp only [Op.bytesLess, Bool.or_eq_true, decide_eq_true_eq, Bool.and_eq_true, beq_iff_eq] at h k ⊢
    rcases h with h | ⟨rfl, h⟩
    · rcases k with k | ⟨rfl, k⟩
      · exact .inl (UInt8.lt_trans h k)
      · exact .inl h
    · rcases k with k | ⟨rfl, k⟩
      · exact .inl k
      · exact .inr ⟨rfl, less_trans x y z h k⟩
theorem less_total : ∀ a b : List UInt8, Op.bytesLess a b = true ∨ a = b ∨ Op.bytesLess b a = true
  | [], [] => .inr (.inl rfl)
  | [], _ :: _ => .inl rfl
  | _ :: _, [] => .inr (.inr rfl)
  | a :: x, b :: y => by
    simp only [Op.bytesLess, Bool.or_eq_true, decide_eq_true_eq, Bool.and_eq_true, beq_iff_eq, List.cons.injEq]
    have hc : a < b ∨ a = b ∨ b < a := by
      rcases Nat.lt_trichotomy a.toNat b.toNat with h | h | h
      · exact .inl h
      · exact .inr (.inl (UInt8.toNat_inj.1 h))
      · exact .inr (.inr h)
    rcases hc with h | rfl | h
    · exact .inl (.inl h)
    · rcases less_total x y with h | rfl | h
      · exact .inl (.inr ⟨rfl, h⟩)
      · exact .inr (.inl ⟨rfl, rfl⟩)
      · exact .inr (.inr (.inr ⟨rfl, h⟩))
    · exact .inr (.inr (.inl h))
theorem ba_eq {a b : ByteArray} (h : a.toList = b.toList) : a = b := by
  rw [ByteArray.toList_eq, ByteArray.toList_eq] at h
  cases a; cases b
  simp only [ByteArray.mk.injEq]
  exact Array.toList_inj.1 h
theorem lss_irrefl (a : ByteArray) : lss a a = false := less_irrefl _
theorem lss_trans {a b c : ByteArray} (h : lss a b = true) (k : lss b c = true) : lss a c = true := less_trans _ _ _ h k
theorem lss_total (a b : ByteArray) : lss a b = true ∨ a = b ∨ lss b a = true := by
  rcases less_total a.toList b.toList with h | h | h
  · exact .inl h
  · exact .inr (.inl (ba_eq h))
  · exact .inr (.inr h)
theorem lss_asymm {a b : ByteArray} (h : lss a b = true) : lss b a = false := by
  rw [← Bool.not_eq_true]
  intro k
  have := lss_trans h k
  rw [lss_irrefl] at this
  cases this
/-- At most. -/
theorem leq_of (a b : ByteArray) : (Op.bytesLess a.toList b.toList || a.toList == b.toList) = !lss b a := by
  rcases lss_total a b with h | rfl | h
  · have h' := lss_asymm h
    unfold lss at h h' ⊢
    rw [h, h']
    simp
  · rw [lss_irrefl]; simp
  · have h' := lss_asymm h
    have hn : (a.toList == b.toList) = false := by
      rw [← Bool.not_eq_true, beq_iff_eq]
      intro e
      obtain rfl := ba_eq e
      rw [lss_irrefl] at h
      cases h
    unfold lss at h h' ⊢
    rw [h, h', hn]
    simp
theorem eq_of (a b : ByteArray) : (a.toList == b.toList) = decide (a = b) := by
  by_cases h : a = b
  · subst h; simp
  · rw [decide_eq_false h, ← Bool.not_eq_true, beq_iff_eq]
    exact fun e => h (ba_eq e)

/-- Is a value of its Kind? -/
def typed (v : V) : Bool := if v.kind = 1 then decide (v.text.size = 0) else if v.kind = 2 then decide (v.text.size = 0) && (decide (v.num = 0) || decide (v.num = 1)) else if v.kind = 3 then decide (v.num = 0) else false
/-- What is amiss with one alone. -/
def fault (v : V) : Int := if name v.name.data.toList = false then 106 else if typed v = false then 110 else if 60 < v.text.size then 105 else 0
/-- What is amiss at a place. -/
def faultAt (l : List V) (k : Nat) : Int := if fault l[k]! ≠ 0 then fault l[k]! else if 0 < k ∧ lss l[k-1]!.name l[k]!.name = false then 109 else 0
/-- What is amiss first, and where. -/
def check (l : List V) : Int × Option Nat :=
  if 12 < l.length then (104, none) else match (List.range l.length).find? (fun k => decide (faultAt l k ≠ 0)) with
    | none => (0, none)
    | some k => (faultAt l k, some k)
theorem check_many {l : List V} (h : 12 < l.length) : check l = (104, none) := if_pos h
theorem check_fine {l : List V} (h : l.length ≤ 12) (hf : ∀ k, k < l.length → faultAt l k = 0) : check l = (0, none) := by
  unfold check
  rw [if_neg (by omega), List.find?_eq_none.2 (fun k hk => by simpa using hf k (List.mem_range.1 hk))]
theorem check_at {l : List V} {k : Nat} (h : l.length ≤ 12) (hk : k < l.length) (hf : ∀ j, j < k → faultAt l j = 0) (hn : faultAt l k ≠ 0) : check l = (faultAt l k, some k) := by
  unfold check
  rw [if_neg (by omega)]
  have : (List.range l.length).find? (fun k => decide (faultAt l k ≠ 0)) = some k := by
    rw [List.find?_range_eq_some]
    refine ⟨by simpa using hn, by simpa using hk, fun j hj => by simpa using hf j hj⟩
  rw [this]
/-- What a list that may be is. -/
theorem check_zero {l : List V} (h : (check l).1 = 0) : l.length ≤ 12 ∧ ∀ k, k < l.length → faultAt l k = 0 := by
  unfold check at h
  split at h
  · cases h
  · rename_i h1
    refine ⟨by omega, fun k hk => ?_⟩
    split at h
    · rename_i h2
      have := List.find?_eq_none.1 h2 k (List.mem_range.2 hk)
      simpa using this
    · rename_i j h2
      have := List.find?_some h2
      simp at this
      exact absurd h this
theorem check_pos {l : List V} : (check l).1 = 0 → (check l).2 = none := by
  intro h
  obtain ⟨h1, h2⟩ := check_zero h
  rw [check_fine h1 h2]
theorem fault_name {v : V} (h : name v.name.data.toList = false) : fault v = 106 := by simp [fault, h]
theorem fault_type {v : V} (h : name v.name.data.toList = true) (h2 : typed v = false) : fault v = 110 := by simp [fault, h, h2]
theorem fault_long {v : V} (h : name v.name.data.toList = true) (h2 : typed v = true) (h3 : 60 < v.text.size) : fault v = 105 := by simp [fault, h, h2, h3]
theorem fault_none {v : V} (h : name v.name.data.toList = true) (h2 : typed v = true) (h3 : v.text.size ≤ 60) : fault v = 0 := by
  simp [fault, h, h2]; omega
theorem fault_cases (v : V) : fault v = 0 ∨ fault v = 105 ∨ fault v = 106 ∨ fault v = 110 := by
  unfold fault
  split
  · exact .inr (.inr (.inl rfl))
  · split
    · exact .inr (.inr (.inr rfl))
    · split
      · exact .inr (.inl rfl)
      · exact .inl rfl
end Vr
end Go.Proofs.YtggplgmjonnliaaGreatDoor
