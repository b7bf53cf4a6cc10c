/- The statement VarsOrder: its mathematics. -/
import Derived.Test.YthkgjdhbibialaaDoorVo
namespace Go.Proofs.YthkgjdhbibialaaDoor
open Go.RowKit

theorem i64_and7 (y : Int) : ∃ k : Nat, k ≤ 7 ∧ Go.bits .and .i64 y 7 = (k : Int) := by
  have h : ((BitVec.ofInt 64 y) &&& BitVec.ofInt 64 7).toNat ≤ 7 := by
    rw [BitVec.toNat_and]
    exact Nat.le_trans Nat.and_le_right (by decide)
  refine ⟨((BitVec.ofInt 64 y) &&& BitVec.ofInt 64 7).toNat, h, ?_⟩
  show IntKind.i64.wrap ((BitVec.ofInt 64 y &&& BitVec.ofInt 64 7).toNat : Int) = _
  rw [IntKind.wrap_i64]
  generalize ((BitVec.ofInt 64 y) &&& BitVec.ofInt 64 7).toNat = n at *
  omega
namespace Vr
def vn (k : Nat) : ByteArray := ⟨#[118, UInt8.ofNat (48 + k)]⟩
theorem vn_cat (k : Nat) : (⟨#[118]⟩ : ByteArray) ++ ⟨#[UInt8.ofNat (48 + k)]⟩ = vn k := by
  apply ByteArray.ext
  simp [vn]
def ov (k : Nat) (x : Int) : V := ⟨vn k, 1, x, ⟨#[]⟩⟩
theorem ov_fault {k : Nat} (x : Int) (hk : k ≤ 7) : fault (ov k x) = 0 := by
  have h : ∀ i : Fin 8, name [118, UInt8.ofNat (48 + i.val)] = true := by decide
  exact fault_none (show name [118, UInt8.ofNat (48 + k)] = true from h ⟨k, by omega⟩) (by simp [typed, ov]; rfl) (by show 0 ≤ 60; omega)
theorem ov_in {k : Nat} {x : Int} (h0 : -9223372036854775808 ≤ x) (h1 : x ≤ 9223372036854775807) : InV (ov k x) :=
  ⟨by show 2 ≤ _; omega, by show 0 ≤ _; omega, by show (-9223372036854775808 : Int) ≤ 1; omega, by show (1 : Int) ≤ _; omega, h0, h1⟩

def Asc (o : List V) : Prop := ∀ i, i + 1 < o.length → lss o[i]!.name o[i + 1]!.name = true
/-- The first one that is not above the one ahead; -1: there is none. -/
def First (o : List V) (f : Int) : Prop := (f = -1 ∧ Asc o) ∨ ∃ b : Nat, f = (b : Int) + 1 ∧ b + 1 < o.length ∧ lss o[b]!.name o[b + 1]!.name = false ∧ ∀ i, i < b → lss o[i]!.name o[i + 1]!.name = true
theorem app_lt {o : List V} {v : V} {i : Nat} (h : i < o.length) : (o ++ [v])[i]! = o[i]! := by
  rw [getElem!_pos _ i (by simp; omega), getElem!_pos o i h, List.getElem_append_left h]
theorem app_last (o : List V) (v : V) : (o ++ [v])[o.length]! = v := by
  rw [getElem!_pos _ o.length (by simp)]
  simp
theorem first_nil : First [] (-1) := .inl ⟨rfl, fun i h => by simp at h⟩
theorem first_keep {o : List V} {f : Int} (v : V) (h : First o f) (hf : 0 ≤ f) : First (o ++ [v]) f := by
  rcases h with ⟨rfl, _⟩ | ⟨b, rfl, hb, h1, h2⟩
  · omega
  · refine .inr ⟨b, rfl, by simp; omega, ?_, fun i hi => ?_⟩
    · rw [app_lt (by omega), app_lt hb]; exact h1
    · rw [app_lt (by omega), app_lt (by omega)]; exact h2 i hi
theorem asc_go {o : List V} {v : V} (h : Asc o) (hv : ∀ j, o.length = j + 1 → lss o[j]!.name v.name = true) : Asc (o ++ [v]) := by
  intro i hi
  rw [List.length_append, List.length_singleton] at hi
  by_cases e : i + 1 = o.length
  · rw [app_lt (by omega), e, app_last]
    exact hv i e.symm
  · rw [app_lt (by omega), app_lt (by omega)]
    exact h i (by omega)
theorem first_stop {o : List V} {v : V} {j : Nat} (h : Asc o) (hj : o.length = j + 1) (hv : lss o[j]!.name v.name = false) : First (o ++ [v]) ((j : Int) + 1) := by
  refine .inr ⟨j, rfl, by simp; omega, ?_, fun i hi => ?_⟩
  · rw [app_lt (by omega), ← hj, app_last]
    exact hv
  · rw [app_lt (by omega), app_lt (by omega)]
    exact h i (by omega)
/-- One more: where the first one out of order stands then. -/
theorem first_next {o : List V} {v : V} {j : Nat} {f : Int} {Q : Bool} (hl : o.length = j) (hj : j ≤ 8) (h : First o f) (hf : f ≤ 8) (hQ : Q = (decide (0 < j) && !(lss o[j - 1]!.name v.name) && decide (f < 0))) :
    First (o ++ [v]) (if Q = true then (j : Int) else f) ∧ ((if Q = true then (j : Int) else f) < 0 → f < 0 ∧ Asc (o ++ [v])) ∧ -1 ≤ (if Q = true then (j : Int) else f) ∧ (if Q = true then (j : Int) else f) ≤ 8 := by
  have hm : -1 ≤ f := by rcases h with ⟨rfl, _⟩ | ⟨b, rfl, _⟩ <;> omega
  have hA : f < 0 → Asc o := fun h0 => by
    rcases h with ⟨_, h⟩ | ⟨b, rfl, _⟩
    · exact h
    · omega
  cases Q with
  | true =>
    have hQ := hQ.symm
    rw [Bool.and_eq_true, Bool.and_eq_true, decide_eq_true_eq, decide_eq_true_eq, Bool.not_eq_true'] at hQ
    obtain ⟨⟨h0, h1⟩, h2⟩ := hQ
    rw [if_pos rfl]
    obtain ⟨t, rfl⟩ : ∃ t, j = t + 1 := ⟨j - 1, by omega⟩
    refine ⟨?_, fun hn => by omega, by omega, by omega⟩
    rw [Int.natCast_succ]
    exact first_stop (hA h2) hl h1
  | false =>
    rw [if_neg (by decide)]
    by_cases h0 : f < 0
    · have hasc : Asc (o ++ [v]) := asc_go (hA h0) fun t ht => by
        obtain rfl : j = t + 1 := by omega
        cases hq : lss o[t]!.name v.name with
        | true => rfl
        | false => rw [show t + 1 - 1 = t from rfl, hq] at hQ; simp [h0] at hQ
      exact ⟨.inl ⟨by omega, hasc⟩, fun _ => ⟨h0, hasc⟩, hm, hf⟩
    · exact ⟨first_keep v h (by omega), fun hn => absurd hn h0, hm, hf⟩
theorem faultAt_asc {o : List V} {k : Nat} (hk : k < o.length) (hf : ∀ x ∈ o, fault x = 0) (h : ∀ j, k = j + 1 → lss o[j]!.name o[j + 1]!.name = true) : faultAt o k = 0 := by
  have h0 : fault o[k]! = 0 := by rw [at_get hk]; exact hf _ (List.getElem_mem hk)
  unfold faultAt
  rw [if_neg (by rw [h0]; simp), if_neg]
  intro ⟨h1, h2⟩
  obtain ⟨j, rfl⟩ : ∃ j, k = j + 1 := ⟨k - 1, by omega⟩
  rw [show j + 1 - 1 = j from rfl, h j rfl] at h2
  cases h2
theorem asc_good {o : List V} (h : Asc o) (hf : ∀ x ∈ o, fault x = 0) : Good o := good_of fun k hk => faultAt_asc hk hf fun j e => h j (by omega)
theorem check_first {o : List V} {b : Nat} (hl : o.length ≤ 12) (hf : ∀ x ∈ o, fault x = 0) (hb : b + 1 < o.length) (h1 : lss o[b]!.name o[b + 1]!.name = false) (h2 : ∀ i, i < b → lss o[i]!.name o[i + 1]!.name = true) : check o = (109, some (b + 1)) := by
  have h9 : faultAt o (b + 1) = 109 := by
    have h0 : fault o[b + 1]! = 0 := by rw [at_get hb]; exact hf _ (List.getElem_mem hb)
    unfold faultAt
    rw [if_neg (by rw [h0]; simp), if_pos ⟨by omega, by simpa using h1⟩]
  rw [check_at (k := b + 1) hl hb (fun j hj => faultAt_asc (by omega) hf fun i e => h2 i (by omega)) (by rw [h9]; decide), h9]
/-- Where all stand in order, what is set one by one is what was put one behind the other. -/
theorem asc_set {o : List V} {v : V} (h : Asc (o ++ [v])) (hf : ∀ x ∈ o ++ [v], fault x = 0) : setOne o v = o ++ [v] := by
  have hg := (asc_good h hf).srt
  exact setOne_last fun x hx => (List.pairwise_append.1 hg).2.2 x hx v (by simp)
theorem setV_one {l : List V} {v : V} (hg : Good l) (hv : fault v = 0) (hl : l.length ≤ 11) : setV l [v] = (setOne l v, 0, none) := by
  have hG : Good (setOne l v) := hg.setOne hv
  have hc := hG.check (by have := setOne_len l v; omega)
  unfold setV
  have : sets l [v] = setOne l v := rfl
  rw [this, hc, if_pos rfl]
end Vr
end Go.Proofs.YthkgjdhbibialaaDoor
