/- The statement VarsBack: its walk. -/
import Derived.Test.YthkgjdhbibialaaDoorVo
import Derived.Test.YthkgjdhbibialaaDoorVp
import Derived.Test.YthkgjdhbibialaaDoorVx
import Derived.Test.YthkgjdhbibialaaDoorVf
import Derived.Test.YthkgjdhbibialaaDoorOpen
import Derived.Test.YthkgjdhbibialaaDoorFrame
namespace Go.Proofs.YthkgjdhbibialaaDoor
open Go.RowKit

def pos8 (c : Int) : Nat := if c = 101 then 0 else if c = 102 then 1 else if c = 104 then 2 else if c = 105 then 3 else if c = 106 then 4 else if c = 107 then 5 else if c = 109 then 6 else if c = 110 then 7 else 1000
theorem vaErrs8 {W : World} {ads : List Addr} (hE : Errs W 104 [7, 6, 0, 4, 2, 5, 1, 3] ads) : VaErrs W (errMap pos8 ads) where
  e104 := errIn_of hE 104 2 _ rfl rfl
  e105 := errIn_of hE 105 3 _ rfl rfl
  e106 := errIn_of hE 106 4 _ rfl rfl
  e109 := errIn_of hE 109 6 _ rfl rfl
  e110 := errIn_of hE 110 7 _ rfl rfl
theorem rdErrs8 {W : World} {ads : List Addr} (hE : Errs W 104 [7, 6, 0, 4, 2, 5, 1, 3] ads) : RdErrs W (errMap pos8 ads) where
  e101 := errIn_of hE 101 0 _ rfl rfl
  e102 := errIn_of hE 102 1 _ rfl rfl
  e105 := errIn_of hE 105 3 _ rfl rfl
  e107 := errIn_of hE 107 5 _ rfl rfl

namespace Vr
/-- One that may be alone. -/
theorem fault_fine {v : V} (h : fault v = 0) : name v.name.data.toList = true ∧ typed v = true ∧ v.text.size ≤ 60 := by
  unfold fault at h
  split at h
  · cases h
  · rename_i h1
    split at h
    · cases h
    · rename_i h2
      split at h
      · cases h
      · exact ⟨by simpa using h1, by simpa using h2, by omega⟩
theorem name_size {v : V} (h : fault v = 0) : v.name.size ≤ 24 := by
  have h1 := (fault_fine h).1
  rcases Nat.lt_or_ge 24 v.name.size with h2 | h2
  · rw [name_long (by have : v.name.data.toList.length = v.name.size := by simp
                      omega)] at h1
    cases h1
  · exact h2
theorem fault_small {v : V} (i : InV v) (h : fault v = 0) : Small v := ⟨i, by have := name_size h; omega, by have := (fault_fine h).2.2; omega⟩
theorem typed_kind {v : V} (h : typed v = true) : 1 ≤ v.kind ∧ v.kind ≤ 3 := by
  unfold typed at h
  split at h
  · omega
  · split at h
    · omega
    · split at h
      · omega
      · cases h
theorem takeV_put {v : V} (i : InV v) (h : fault v = 0) (t : List UInt8) : takeV (put v ++ t) 0 = (v, t, 0) := by
  have hn := name_size h
  obtain ⟨_, h2, h3⟩ := fault_fine h
  obtain ⟨k0, k1⟩ := typed_kind h2
  have e : put v ++ t = textOf v.name ++ (enc (zig v.kind) ++ (enc (zig v.num) ++ (textOf v.text ++ t))) := by
    simp [put, textsOf, encs]
  have a := textSays_in (most := 24) (s := v.name) (t := enc (zig v.kind) ++ (enc (zig v.num) ++ (textOf v.text ++ t))) (by omega) (by omega)
  have b := intSays_in (lo := 1) (hi := 3) (n := v.kind) (t := enc (zig v.num) ++ (textOf v.text ++ t)) i.k0 i.k1 k0 k1
  have c := intSays_in (lo := -9223372036854775808) (hi := 9223372036854775807) (n := v.num) (t := textOf v.text ++ t) i.n0 i.n1 i.n0 i.n1
  have d := textSays_in (most := 60) (s := v.text) (t := t) (by omega) (by omega)
  rw [e]
  unfold takeV
  simp only [a, b, c, d, ba_toList]
theorem takeN_puts (l : List V) (t : List UInt8) (hi : ∀ v ∈ l, InV v) (hf : ∀ v ∈ l, fault v = 0) : ∀ k, k ≤ l.length → takeN k (puts l ++ t, 0) = (l.take k, puts (l.drop k) ++ t, 0) := by
  intro k
  induction k with
  | zero => intro _; simp [takeN]
  | succ k ih =>
    intro hk
    have hkl : k < l.length := by omega
    have hm := List.getElem_mem hkl
    have hd : puts (l.drop k) = put l[k] ++ puts (l.drop (k + 1)) := by
      show (l.drop k).flatMap put = _
      rw [List.drop_eq_getElem_cons hkl, List.flatMap_cons]
      rfl
    unfold takeN
    rw [ih (by omega)]
    simp only
    rw [hd, List.append_assoc, takeV_put (hi _ hm) (hf _ hm), List.take_succ_eq_append_getElem hkl]
theorem takeAll_puts (l : List V) (t : List UInt8) (hl : l.length ≤ 12) (hi : ∀ v ∈ l, InV v) (hf : ∀ v ∈ l, fault v = 0) : takeAll ((encs [(l.length : Int)] ++ puts l) ++ t) 0 = (l, t, 0) := by
  have a := intSays_in (lo := 0) (hi := 12) (n := (l.length : Int)) (t := puts l ++ t) (by omega) (by omega) (by omega) (by omega)
  have e : (encs [(l.length : Int)] ++ puts l) ++ t = enc (zig (l.length : Int)) ++ (puts l ++ t) := by simp [encs]
  unfold takeAll
  rw [e, a]
  simp only [Int.toNat_natCast]
  rw [takeN_puts l t hi hf l.length (Nat.le_refl _)]
  simp [puts]
/-- The three of the statement. -/
def v1 (n : Int) : V := ⟨⟨#[97]⟩, 1, n, ⟨#[]⟩⟩
def v2 (f : Int) : V := ⟨⟨#[98]⟩, 2, f, ⟨#[]⟩⟩
def v3 (s : ByteArray) : V := ⟨⟨#[99]⟩, 3, 0, s⟩
theorem three_fine (n f : Int) (s : ByteArray) (hf : f = 0 ∨ f = 1) (hs : s.size ≤ 60) : check [v1 n, v2 f, v3 s] = (0, none) := by
  have g1 : fault (v1 n) = 0 := fault_none (show name [97] = true by decide) (by simp [typed, v1]; rfl) (by show 0 ≤ 60; omega)
  have g2 : fault (v2 f) = 0 := fault_none (show name [98] = true by decide) (by rcases hf with rfl | rfl <;> (simp [typed, v2]; rfl)) (by show 0 ≤ 60; omega)
  have g3 : fault (v3 s) = 0 := fault_none (show name [99] = true by decide) (by simp [typed, v3]) hs
  have o1 : R (v1 n) (v2 f) := by show lss ⟨#[97]⟩ ⟨#[98]⟩ = true; unfold lss; rw [ByteArray.toList_eq, ByteArray.toList_eq]; decide
  have o2 : R (v1 n) (v3 s) := by show lss ⟨#[97]⟩ ⟨#[99]⟩ = true; unfold lss; rw [ByteArray.toList_eq, ByteArray.toList_eq]; decide
  have o3 : R (v2 f) (v3 s) := by show lss ⟨#[98]⟩ ⟨#[99]⟩ = true; unfold lss; rw [ByteArray.toList_eq, ByteArray.toList_eq]; decide
  refine Good.check ⟨?_, ?_⟩ (by simp)
  · simp [o1, o2, o3]
  · intro x hx
    simp only [List.mem_cons, List.not_mem_nil, or_false] at hx
    rcases hx with rfl | rfl | rfl
    · exact g1
    · exact g2
    · exact g3
end Vr
theorem varRow_lit3 (w : World) (n f : Int) (s : ByteArray) : VRow (w.alloc (.cells #[.string ⟨#[97]⟩, .int .i64 1, .int .i64 n, .string ⟨#[]⟩, .string ⟨#[98]⟩, .int .i64 2, .int .i64 f, .string ⟨#[]⟩, .string ⟨#[99]⟩, .int .i64 3, .int .i64 0, .string s] 45)) (w.heap.size + 1) (some ⟨w.heap.size, 0, none⟩) 3 [Vr.v1 n, Vr.v2 f, Vr.v3 s] := by
  refine ⟨rfl, fun _ => ⟨w.heap.size, 0, rfl, by omega, fun k x hx => ?_⟩⟩
  have := cell_of_row (w.alloc (.cells #[.string ⟨#[97]⟩, .int .i64 1, .int .i64 n, .string ⟨#[]⟩, .string ⟨#[98]⟩, .int .i64 2, .int .i64 f, .string ⟨#[]⟩, .string ⟨#[99]⟩, .int .i64 3, .int .i64 0, .string s] 45)) w.heap.size k _ _ (0, 0) (heap_alloc_new w _)
  rw [Nat.zero_add]
  exact this.trans (by simpa [Vr.V.cells, Vr.v1, Vr.v2, Vr.v3] using hx)
/-- A value in a block of its own. -/
structure Box3 (w : World) (b : Nat) (k n : Int) (s : ByteArray) : Prop where
  c0 : w.cell? ⟨b, 0, none⟩ = some (.int .i64 k)
  c1 : w.cell? ⟨b, 1, none⟩ = some (.int .i64 n)
  c2 : w.cell? ⟨b, 2, none⟩ = some (.string s)
theorem Box3.below {w w' : World} {b : Nat} {k n : Int} {s : ByteArray} (h : Box3 w b k n s) (hb : Below w.heap.size w w') : Box3 w' b k n s :=
  ⟨below_cells hb h.c0, below_cells hb h.c1, below_cells hb h.c2⟩
theorem Box3.new (w : World) (k n : Int) (s : ByteArray) : Box3 (w.alloc (.cells #[.int .i64 k, .int .i64 n, .string s] 26)) w.heap.size k n s := by
  have hh := heap_alloc_new w (.cells #[.int .i64 k, .int .i64 n, .string s] 26)
  exact ⟨cell_of_row _ w.heap.size 0 _ _ (0, 0) hh, cell_of_row _ w.heap.size 1 _ _ (0, 0) hh, cell_of_row _ w.heap.size 2 _ _ (0, 0) hh⟩
end Go.Proofs.YthkgjdhbibialaaDoor
