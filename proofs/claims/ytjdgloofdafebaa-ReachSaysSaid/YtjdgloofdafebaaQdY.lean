/- Package reach: isPlace, joins; the rows that lead on, back. -/
import Derived.Test.YtjdgloofdafebaaUdY
import Derived.Test.YtjdgloofdafebaaQcY
namespace Go.Proofs.Ytjdgloofdafebaa
open Go.RowKit

namespace Pr
/-- Are both ends of a flow nodes? -/
def okF (n : Nat) (f : Fl) : Bool := (decide (0 ≤ f.frm) && decide (f.frm < n)) && (decide (0 ≤ f.til) && decide (f.til < n))
theorem okF_iff {n : Nat} {f : Fl} : okF n f = true ↔ ∃ a b : Nat, f.frm = a ∧ f.til = b ∧ a < n ∧ b < n := by
  unfold okF
  simp only [Bool.and_eq_true, decide_eq_true_eq]
  exact ⟨fun h => ⟨f.frm.toNat, f.til.toNat, by omega, by omega, by omega, by omega⟩, fun ⟨a, b, h1, h2, h3, h4⟩ => by omega⟩
/-- Where the first j flows lead from u; where those to u come from. -/
def nxt (n : Nat) (fl : List Fl) (j u : Nat) : List Nat := ((fl.take j).filter fun f => okF n f && f.frm == (u : Int)).map fun f => f.til.toNat
def bck (n : Nat) (fl : List Fl) (j u : Nat) : List Nat := ((fl.take j).filter fun f => okF n f && f.til == (u : Int)).map fun f => f.frm.toNat
theorem take_one {fl : List Fl} {j : Nat} (hj : j < fl.length) : fl.take (j + 1) = fl.take j ++ [fl[j]!] := by
  rw [List.take_add_one, List.getElem?_eq_getElem hj, getElem!_pos fl j hj]; rfl
theorem nxt_bad {n : Nat} {fl : List Fl} {j : Nat} (hj : j < fl.length) (h : okF n fl[j]! = false) : nxt n fl (j + 1) = nxt n fl j := by
  funext u
  unfold nxt
  rw [take_one hj, List.filter_append, List.filter_cons, h]
  simp
theorem bck_bad {n : Nat} {fl : List Fl} {j : Nat} (hj : j < fl.length) (h : okF n fl[j]! = false) : bck n fl (j + 1) = bck n fl j := by
  funext u
  unfold bck
  rw [take_one hj, List.filter_append, List.filter_cons, h]
  simp
theorem nxt_good {n : Nat} {fl : List Fl} {j a b : Nat} (hj : j < fl.length) (h : okF n fl[j]! = true) (ha : (fl[j]!).frm = a) (hb : (fl[j]!).til = b) : (fun u => if u = a then nxt n fl j u ++ [b] else nxt n fl j u) = nxt n fl (j + 1) := by
  funext u
  unfold nxt
  rw [take_one hj, List.filter_append, List.filter_cons, h, ha]
  by_cases e : u = a
  · subst e
    generalize fl[j]! = f at *
    simp [hb]
  · have e' : ¬ (a : Int) = (u : Int) := by omega
    simp [e, e']
theorem bck_good {n : Nat} {fl : List Fl} {j a b : Nat} (hj : j < fl.length) (h : okF n fl[j]! = true) (ha : (fl[j]!).til = a) (hb : (fl[j]!).frm = b) : (fun u => if u = a then bck n fl j u ++ [b] else bck n fl j u) = bck n fl (j + 1) := by
  funext u
  unfold bck
  rw [take_one hj, List.filter_append, List.filter_cons, h, ha]
  by_cases e : u = a
  · subst e
    generalize fl[j]! = f at *
    simp [hb]
  · have e' : ¬ (a : Int) = (u : Int) := by omega
    simp [e, e']
theorem nxt_len (n : Nat) (fl : List Fl) (j u : Nat) : (nxt n fl j u).length ≤ j := by
  unfold nxt
  rw [List.length_map]
  exact Nat.le_trans (List.length_filter_le _ _) (by rw [List.length_take]; omega)
theorem bck_len (n : Nat) (fl : List Fl) (j u : Nat) : (bck n fl j u).length ≤ j := by
  unfold bck
  rw [List.length_map]
  exact Nat.le_trans (List.length_filter_le _ _) (by rw [List.length_take]; omega)
theorem nxt_mem {n : Nat} {fl : List Fl} {j u v : Nat} : v ∈ nxt n fl j u ↔ ∃ f ∈ fl.take j, okF n f = true ∧ f.frm = (u : Int) ∧ f.til = (v : Int) := by
  unfold nxt
  simp only [List.mem_map, List.mem_filter, Bool.and_eq_true, beq_iff_eq]
  constructor
  · rintro ⟨f, ⟨h1, h2, h3⟩, h4⟩
    obtain ⟨a, b, e1, e2, _, _⟩ := okF_iff.1 h2
    exact ⟨f, h1, h2, h3, by omega⟩
  · rintro ⟨f, h1, h2, h3, h4⟩
    exact ⟨f, ⟨h1, h2, h3⟩, by omega⟩
theorem bck_mem {n : Nat} {fl : List Fl} {j u v : Nat} : v ∈ bck n fl j u ↔ ∃ f ∈ fl.take j, okF n f = true ∧ f.til = (u : Int) ∧ f.frm = (v : Int) := by
  unfold bck
  simp only [List.mem_map, List.mem_filter, Bool.and_eq_true, beq_iff_eq]
  constructor
  · rintro ⟨f, ⟨h1, h2, h3⟩, h4⟩
    obtain ⟨a, b, e1, e2, _, _⟩ := okF_iff.1 h2
    exact ⟨f, h1, h2, h3, by omega⟩
  · rintro ⟨f, h1, h2, h3, h4⟩
    exact ⟨f, ⟨h1, h2, h3⟩, by omega⟩
theorem nxt_lt {n : Nat} {fl : List Fl} {j u v : Nat} (h : v ∈ nxt n fl j u) : u < n ∧ v < n := by
  obtain ⟨f, _, h2, h3, h4⟩ := nxt_mem.1 h
  obtain ⟨a, b, e1, e2, h5, h6⟩ := okF_iff.1 h2
  omega
theorem bck_lt {n : Nat} {fl : List Fl} {j u v : Nat} (h : v ∈ bck n fl j u) : u < n ∧ v < n := by
  obtain ⟨f, _, h2, h3, h4⟩ := bck_mem.1 h
  obtain ⟨a, b, e1, e2, h5, h6⟩ := okF_iff.1 h2
  omega
theorem nxt_bck {n : Nat} {fl : List Fl} {j u v : Nat} : v ∈ nxt n fl j u ↔ u ∈ bck n fl j v := by
  rw [nxt_mem, bck_mem]
  exact ⟨fun ⟨f, a, b, c, d⟩ => ⟨f, a, b, d, c⟩, fun ⟨f, a, b, c, d⟩ => ⟨f, a, b, d, c⟩⟩

section
variable {w : World}
set_option maxHeartbeats 400000 in
theorem isplace_any (k n : Int) (w : World) : Calls Try.prog 39 #[.int .i64 k, .int .i64 n] w fun e w' => e = .returned (.bool (decide (0 ≤ k) && decide (k < n))) ∧ w = w' := by
  obtain ⟨R, hR⟩ : ∃ R, (decide (0 ≤ k) && decide (k < n)) = R := ⟨_, rfl⟩
  rw [hR]
  by_cases h1 : 0 ≤ k
  · by_cases h2 : k < n
    · obtain rfl : R = true := by rw [← hR, decide_eq_true h1, decide_eq_true h2]; rfl
      clear hR
      go_enter Try.func39, Try.ntmps39
      go_wp2
      go_ret
      exact ⟨rfl, rfl⟩
    · obtain rfl : R = false := by rw [← hR, decide_eq_true h1, decide_eq_false h2]; rfl
      clear hR
      go_enter Try.func39, Try.ntmps39
      go_wp2
      go_ret
      exact ⟨rfl, rfl⟩
  · obtain rfl : R = false := by rw [← hR, decide_eq_false h1]; rfl
    clear hR
    go_enter Try.func39, Try.ntmps39
    go_wp2
    go_ret
    exact ⟨rfl, rfl⟩
set_option maxHeartbeats 800000 in
theorem joins_any (s : ByteArray) (A : Option Addr) (n c : Nat) (F : Option Addr) (m d : Nat) (f : Fl) (w : World) :
    Calls Try.prog 35 #[.agg #[.string s, .slice A n c, .slice F m d], .agg #[.int .i64 f.frm, .int .i64 f.til, .string f.cond]] w fun e w' => e = .returned (.bool (okF n f)) ∧ Below w.heap.size w w' := by
  obtain ⟨R, hR⟩ : ∃ R, okF n f = R := ⟨_, rfl⟩
  rw [hR]
  unfold okF at hR
  have hp1 := Cel.lit w #[.string s, .slice A n c, .slice F m d] 25
  have hb1 := (Below.refl w.heap.size w).alloc (Nat.le_refl _) (.cells #[.string s, .slice A n c, .slice F m d] 25)
  have hp2 := Cel.lit (w.alloc (.cells #[.string s, .slice A n c, .slice F m d] 25)) #[.int .i64 f.frm, .int .i64 f.til, .string f.cond] 40
  have HB := Lib.hid (hb1.alloc hb1.size (.cells #[.int .i64 f.frm, .int .i64 f.til, .string f.cond] 40))
  have HP := Lib.hid (hp1.alloc (.cells #[.int .i64 f.frm, .int .i64 f.til, .string f.cond] 40))
  have HF := Lib.hid hp2
  have s1 : (w.alloc (.cells #[.string s, .slice A n c, .slice F m d] 25)).heap.size = w.heap.size + 1 := by simp
  rw [s1] at HF
  clear hb1 hp1 hp2 s1
  go_enter Try.func35, Try.ntmps35
  go_upto_region 1 with (fail)
  generalize (w.alloc _).alloc _ = wb at *
  obtain ⟨⟨z0, z1, z2⟩, _⟩ := tri_facts HP.out
  obtain ⟨⟨y0, y1, y2⟩, _⟩ := tri_facts HF.out
  go_wp2_with fail
  refine (isplace_any f.frm (n : Int) _).mono ?_
  rintro e wy ⟨rfl, rfl⟩
  by_cases h1 : (decide (0 ≤ f.frm) && decide (f.frm < (n : Int))) = true
  · rw [h1, Bool.true_and] at hR
    rw [h1]
    clear h1
    go_wp2_with fail
    refine (isplace_any f.til (n : Int) _).mono ?_
    rintro e wy ⟨rfl, rfl⟩
    rw [hR]
    clear hR
    go_wp2
    go_ret
    exact ⟨rfl, HB.out⟩
  · rw [Bool.not_eq_true] at h1
    rw [h1, Bool.false_and] at hR
    subst hR
    rw [h1]
    clear h1
    go_wp2
    go_ret
    exact ⟨rfl, HB.out⟩
end
end Pr
end Go.Proofs.Ytjdgloofdafebaa
