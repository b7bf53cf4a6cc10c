/- Walks of package cond: a bracket's or operator's length; a text; the word that begins at a place. Package reach: isPlace, joins; the rows that lead on, back. -/
import Derived.Test.YtlmlhjepolefaaaGreatDoorYTokenChoices2
import Derived.Test.YtlmlhjepolefaaaGreatDoorYTokenChoices13
namespace Go.Proofs.YtlmlhjepolefaaaGreatDoor
open Go.RowKit

theorem Co.index_has : ∀ (m : List UInt8) (x : UInt8), (m.contains x = true → 0 ≤ Lib.indexByte m x) ∧ (m.contains x = false → Lib.indexByte m x = -1)
  | [], _ => ⟨by simp, fun _ => rfl⟩
  | b :: m, x => by
    have ih := Co.index_has m x
    unfold Lib.indexByte
    by_cases e : b = x
    · subst e; simp
    · have e1 : (b == x) = false := by simpa using e
      have e2 : (x == b) = false := by simpa using fun h => e h.symm
      rw [List.contains_cons, e1, e2, if_neg (by simp), Bool.false_or]
      refine ⟨fun h => ?_, fun h => ?_⟩
      · have h1 := ih.1 h
        rw [if_neg (by simp; omega)]
        omega
      · rw [ih.2 h]; rfl
theorem at_list (s : ByteArray) (k : Nat) (h : k < s.size) : s.data.toList[k]! = s[k] := by
  rw [getElem!_pos s.data.toList k (by simpa using h)]
  simp [ByteArray.getElem_eq_getElem_data]
theorem index_byte (s : ByteArray) (m : List UInt8) (x : UInt8) (hs : s.data.toList = m) (w : World) :
    Calls Tryz.prog 99 #[.string s, .int .u8 (x.toNat : Int)] w fun e w' => e = .returned (.int .i64 (Lib.indexByte m x)) ∧ w = w' := by
  have h : Calls Tryz.prog 99 #[.string s, .int .u8 (x.toNat : Int)] w fun e w' => e = .returned (.int .i64 (Lib.indexByte s.data.toList ((x.toNat : Int).toNat.toUInt8))) ∧ w' = w :=
    Any.strings_IndexByte shLays137 s (x.toNat : Int) w
  have hx : (x.toNat : Int).toNat.toUInt8 = x := by simp
  rw [hx, hs] at h
  refine h.mono ?_
  rintro e w' ⟨h1, h2⟩
  exact ⟨h1, h2.symm⟩

set_option maxHeartbeats 1600000 in
theorem cmark_any (s : ByteArray) (w : World) (h0 : 0 < s.size) (hsz : s.size ≤ 80) :
    Calls Tryz.prog 90 #[.string s] w fun e w' => e = .returned (.int .i64 (Co.markLen s.data.toList : Int)) ∧ w = w' := by
  have hl : s.data.toList.length = s.size := by simp
  have hF := fun W => index_byte ⟨#[61, 33, 60, 62]⟩ [61, 33, 60, 62] s[0] rfl W
  have hN := fun W => index_byte ⟨#[40, 41, 60, 62, 43, 45, 42, 47, 37]⟩ Co.marks s[0] rfl W
  have hf := Co.index_has [61, 33, 60, 62] s[0]
  have hn := Co.index_has Co.marks s[0]
  have hm : Co.markLen s.data.toList = if 1 < s.data.toList.length ∧ s.data.toList[1]! = 61 ∧ ([61, 33, 60, 62] : List UInt8).contains (s.data.toList[0]!) = true then 2
    else if Co.marks.contains (s.data.toList[0]!) = true then 1 else 0 := rfl
  rw [at_list s 0 h0, hl] at hm
  have h0' : (0 : Int) < (s.size : Int) := by omega
  have hz : (Co.marks.contains s[0] = true ∧ 0 ≤ Lib.indexByte Co.marks s[0]) ∨ (Co.marks.contains s[0] = false ∧ Lib.indexByte Co.marks s[0] < 0) := by
    cases h : Co.marks.contains s[0] with
    | true => exact .inl ⟨rfl, hn.1 h⟩
    | false => exact .inr ⟨rfl, by rw [hn.2 h]; omega⟩
  have hy : (([61, 33, 60, 62] : List UInt8).contains s[0] = true ∧ 0 ≤ Lib.indexByte [61, 33, 60, 62] s[0]) ∨ (([61, 33, 60, 62] : List UInt8).contains s[0] = false ∧ Lib.indexByte [61, 33, 60, 62] s[0] < 0) := by
    cases h : ([61, 33, 60, 62] : List UInt8).contains s[0] with
    | true => exact .inl ⟨rfl, hf.1 h⟩
    | false => exact .inr ⟨rfl, by rw [hf.2 h]; omega⟩
  clear hf hn hl
  generalize Lib.indexByte Co.marks s[0] = z9 at *
  generalize Lib.indexByte [61, 33, 60, 62] s[0] = z4 at *
  generalize Co.marks.contains s[0] = c9 at *
  generalize ([61, 33, 60, 62] : List UInt8).contains s[0] = c4 at *
  have HF := Lib.hid hF
  have HN := Lib.hid hN
  clear hF hN
  by_cases h1 : 1 < s.size
  · rw [at_list s 1 h1] at hm
    have h1' : (1 : Int) < (s.size : Int) := by omega
    have he : s[1] = 61 ↔ (s[1].toNat : Int) = 61 := ⟨fun h => by rw [h]; rfl, fun h => UInt8.toNat_inj.1 (by simp; omega)⟩
    simp only [he] at hm
    have HM := Lib.hid hm
    clear hm he
    by_cases e61 : (s[1].toNat : Int) = 61
    · rcases hy with ⟨rfl, hy⟩ | ⟨rfl, hy⟩
      · have HR : Hid (Co.markLen s.data.toList = 2) := HM.out.trans (if_pos ⟨h1, e61, rfl⟩)
        clear HM hz HN
        go_enter Tryz.func90, Tryz.ntmps90
        go_wp2_with fail
        refine (HF.out _).mono ?_
        rintro e w' ⟨rfl, rfl⟩
        go_wp2
        go_ret
        rw [HR.out]
        exact ⟨rfl, rfl⟩
      · have HM : Hid (Co.markLen s.data.toList = if c9 = true then 1 else 0) := HM.out.trans (if_neg (by simp))
        rcases hz with ⟨rfl, hz⟩ | ⟨rfl, hz⟩
        all_goals
          go_enter Tryz.func90, Tryz.ntmps90
          go_wp2_with fail
          refine (HF.out _).mono ?_
          rintro e w' ⟨rfl, rfl⟩
          go_wp2_with fail
          refine (HN.out _).mono ?_
          rintro e w' ⟨rfl, rfl⟩
          go_wp2
          go_ret
          rw [HM.out]
          exact ⟨rfl, rfl⟩
    · have HM : Hid (Co.markLen s.data.toList = if c9 = true then 1 else 0) := HM.out.trans (if_neg (fun h => e61 h.2.1))
      clear hy HF
      rcases hz with ⟨rfl, hz⟩ | ⟨rfl, hz⟩
      all_goals
        go_enter Tryz.func90, Tryz.ntmps90
        go_wp2_with fail
        refine (HN.out _).mono ?_
        rintro e w' ⟨rfl, rfl⟩
        go_wp2
        go_ret
        rw [HM.out]
        exact ⟨rfl, rfl⟩
  · rw [if_neg (by simp [h1])] at hm
    have h1' : ¬ (1 : Int) < (s.size : Int) := by omega
    clear h1 hsz
    have HM := Lib.hid hm
    clear hm hy HF
    rcases hz with ⟨rfl, hz⟩ | ⟨rfl, hz⟩
    all_goals
      go_enter Tryz.func90, Tryz.ntmps90
      go_wp2_with fail
      refine (HN.out _).mono ?_
      rintro e w' ⟨rfl, rfl⟩
      go_wp2
      go_ret
      rw [HM.out]
      exact ⟨rfl, rfl⟩
end Go.Proofs.YtlmlhjepolefaaaGreatDoor
namespace Go.Proofs.YtlmlhjepolefaaaGreatDoor
open Go.RowKit

namespace Pr
/-- Are both ends of a flow nodes? -/
def okF (n : Nat) (f : Fl) : Bool := (decide (0 ≤ f.frm) && decide (f.frm < n)) && (decide (0 ≤ f.til) && decide (f.til < n))
theorem okF_iff {n : Nat} {f : Fl} : okF n f = true ↔ ∃ a b : Nat, f.frm = a ∧ f.til = b ∧ a < n ∧ b < n := by
  unfold okF
  simp only [Bool.and_eq_true, decide_eq_true_eq]
  exact ⟨fun h => ⟨f.frm.toNat, f.til.toNat, by omega, by omega, by omega, by omega⟩, fun ⟨a, b, h1, h2, h3, h4⟩ => by omega⟩
/-- Where the first j flows lead from u; where those to u come from. -/
def nxt (n : Nat) (fl : List Fl) (j u : Nat) : List Nat := ((fl.take j).filter fun f => okF n f && f.frm == (u : Int)).map fun f => f.til.toNat
def bck (n : Nat) (fl : List Fl) (j u : Nat) : List Nat := ((fl.take j).filter fun f => okF n f && f.til == (u : Int)).map fun f => f.frm.toNat
theorem take_one {fl : List Fl} {j : Nat} (hj : j < fl.length) : fl.take (j + 1) = fl.take j ++ [fl[j]!] := by
  rw [List.take_add_one, List.getElem?_eq_getElem hj, getElem!_pos fl j hj]; rfl
theorem nxt_bad {n : Nat} {fl : List Fl} {j : Nat} (hj : j < fl.length) (h : okF n fl[j]! = false) : nxt n fl (j + 1) = nxt n fl j := by
  funext u
  unfold nxt
  rw [take_one hj, List.filter_append, List.filter_cons, h]
  simp
theorem bck_bad {n : Nat} {fl : List Fl} {j : Nat} (hj : j < fl.length) (h : okF n fl[j]! = false) : bck n fl (j + 1) = bck n fl j := by
  funext u
  unfold bck
  rw [take_one hj, List.filter_append, List.filter_cons, h]
  simp
theorem nxt_good {n : Nat} {fl : List Fl} {j a b : Nat} (hj : j < fl.length) (h : okF n fl[j]! = true) (ha : (fl[j]!).frm = a) (hb : (fl[j]!).til = b) : (fun u => if u = a then nxt n fl j u ++ [b] else nxt n fl j u) = nxt n fl (j + 1) := by
  funext u
  unfold nxt
  rw [take_one hj, List.filter_append, List.filter_cons, h, ha]
  by_cases e : u = a
  · subst e
    generalize fl[j]! = f at *
    simp [hb]
  · have e' : ¬ (a : Int) = (u : Int) := by omega
    simp [e, e']
theorem bck_good {n : Nat} {fl : List Fl} {j a b : Nat} (hj : j < fl.length) (h : okF n fl[j]! = true) (ha : (fl[j]!).til = a) (hb : (fl[j]!).frm = b) : (fun u => if u = a then bck n fl j u ++ [b] else bck n fl j u) = bck n fl (j + 1) := by
  funext u
  unfold bck
  rw [take_one hj, List.filter_append, List.filter_cons, h, ha]
  by_cases e : u = a
  · subst e
    generalize fl[j]! = f at *
    simp [hb]
  · have e' : ¬ (a : Int) = (u : Int) := by omega
    simp [e, e']
theorem nxt_len (n : Nat) (fl : List Fl) (j u : Nat) : (nxt n fl j u).length ≤ j := by
  unfold nxt
  rw [List.length_map]
  exact Nat.le_trans (List.length_filter_le _ _) (by rw [List.length_take]; omega)
theorem bck_len (n : Nat) (fl : List Fl) (j u : Nat) : (bck n fl j u).length ≤ j := by
  unfold bck
  rw [List.length_map]
  exact Nat.le_trans (List.length_filter_le _ _) (by rw [List.length_take]; omega)
theorem nxt_mem {n : Nat} {fl : List Fl} {j u v : Nat} : v ∈ nxt n fl j u ↔ ∃ f ∈ fl.take j, okF n f = true ∧ f.frm = (u : Int) ∧ f.til = (v : Int) := by
  unfold nxt
  simp only [List.mem_map, List.mem_filter, Bool.and_eq_true, beq_iff_eq]
  constructor
  · rintro ⟨f, ⟨h1, h2, h3⟩, h4⟩
    obtain ⟨a, b, e1, e2, _, _⟩ := okF_iff.1 h2
    exact ⟨f, h1, h2, h3, by omega⟩
  · rintro ⟨f, h1, h2, h3, h4⟩
    exact ⟨f, ⟨h1, h2, h3⟩, by omega⟩
theorem bck_mem {n : Nat} {fl : List Fl} {j u v : Nat} : v ∈ bck n fl j u ↔ ∃ f ∈ fl.take j, okF n f = true ∧ f.til = (u : Int) ∧ f.frm = (v : Int) := by
  unfold bck
  simp only [List.mem_map, List.mem_filter, Bool.and_eq_true, beq_iff_eq]
  constructor
  · rintro ⟨f, ⟨h1, h2, h3⟩, h4⟩
    obtain ⟨a, b, e1, e2, _, _⟩ := okF_iff.1 h2
    exact ⟨f, h1, h2, h3, by omega⟩
  · rintro ⟨f, h1, h2, h3, h4⟩
    exact ⟨f, ⟨h1, h2, h3⟩, by omega⟩
theorem nxt_lt {n : Nat} {fl : List Fl} {j u v : Nat} (h : v ∈ nxt n fl j u) : u < n ∧ v < n := by
  obtain ⟨f, _, h2, h3, h4⟩ := nxt_mem.1 h
  obtain ⟨a, b, e1, e2, h5, h6⟩ := okF_iff.1 h2
  omega
theorem bck_lt {n : Nat} {fl : List Fl} {j u v : Nat} (h : v ∈ bck n fl j u) : u < n ∧ v < n := by
  obtain ⟨f, _, h2, h3, h4⟩ := bck_mem.1 h
  obtain ⟨a, b, e1, e2, h5, h6⟩ := okF_iff.1 h2
  omega
theorem nxt_bck {n : Nat} {fl : List Fl} {j u v : Nat} : v ∈ nxt n fl j u ↔ u ∈ bck n fl j v := by
  rw [nxt_mem, bck_mem]
  exact ⟨fun ⟨f, a, b, c, d⟩ => ⟨f, a, b, d, c⟩, fun ⟨f, a, b, c, d⟩ => ⟨f, a, b, d, c⟩⟩

section
variable {w : World}
set_option maxHeartbeats 400000 in
theorem isplace_any (k n : Int) (w : World) : Calls Tryz.prog 58 #[.int .i64 k, .int .i64 n] w fun e w' => e = .returned (.bool (decide (0 ≤ k) && decide (k < n))) ∧ w = w' := by
  obtain ⟨R, hR⟩ : ∃ R, (decide (0 ≤ k) && decide (k < n)) = R := ⟨_, rfl⟩
  rw [hR]
  by_cases h1 : 0 ≤ k
  · by_cases h2 : k < n
    · obtain rfl : R = true := by rw [← hR, decide_eq_true h1, decide_eq_true h2]; rfl
      clear hR
      go_enter Tryz.func58, Tryz.ntmps58
      go_wp2
      go_ret
      exact ⟨rfl, rfl⟩
    · obtain rfl : R = false := by rw [← hR, decide_eq_true h1, decide_eq_false h2]; rfl
      clear hR
      go_enter Tryz.func58, Tryz.ntmps58
      go_wp2
      go_ret
      exact ⟨rfl, rfl⟩
  · obtain rfl : R = false := by rw [← hR, decide_eq_false h1]; rfl
    clear hR
    go_enter Tryz.func58, Tryz.ntmps58
    go_wp2
    go_ret
    exact ⟨rfl, rfl⟩
set_option maxHeartbeats 800000 in
theorem joins_any (s : ByteArray) (A : Option Addr) (n c : Nat) (F : Option Addr) (m d : Nat) (f : Fl) (w : World) :
    Calls Tryz.prog 59 #[.agg #[.string s, .slice A n c, .slice F m d], .agg #[.int .i64 f.frm, .int .i64 f.til, .string f.cond]] w fun e w' => e = .returned (.bool (okF n f)) ∧ Below w.heap.size w w' := by
  obtain ⟨R, hR⟩ : ∃ R, okF n f = R := ⟨_, rfl⟩
  rw [hR]
  unfold okF at hR
  have hp1 := Cel.lit w #[.string s, .slice A n c, .slice F m d] 32
  have hb1 := (Below.refl w.heap.size w).alloc (Nat.le_refl _) (.cells #[.string s, .slice A n c, .slice F m d] 32)
  have hp2 := Cel.lit (w.alloc (.cells #[.string s, .slice A n c, .slice F m d] 32)) #[.int .i64 f.frm, .int .i64 f.til, .string f.cond] 29
  have HB := Lib.hid (hb1.alloc hb1.size (.cells #[.int .i64 f.frm, .int .i64 f.til, .string f.cond] 29))
  have HP := Lib.hid (hp1.alloc (.cells #[.int .i64 f.frm, .int .i64 f.til, .string f.cond] 29))
  have HF := Lib.hid hp2
  have s1 : (w.alloc (.cells #[.string s, .slice A n c, .slice F m d] 32)).heap.size = w.heap.size + 1 := by simp
  rw [s1] at HF
  clear hb1 hp1 hp2 s1
  go_enter Tryz.func59, Tryz.ntmps59
  go_upto_region 1 with (fail)
  generalize (w.alloc _).alloc _ = wb at *
  obtain ⟨⟨z0, z1, z2⟩, _⟩ := tri_facts HP.out
  obtain ⟨⟨y0, y1, y2⟩, _⟩ := tri_facts HF.out
  go_wp2_with fail
  refine (isplace_any f.frm (n : Int) _).mono ?_
  rintro e wy ⟨rfl, rfl⟩
  by_cases h1 : (decide (0 ≤ f.frm) && decide (f.frm < (n : Int))) = true
  · rw [h1, Bool.true_and] at hR
    rw [h1]
    clear h1
    go_wp2_with fail
    refine (isplace_any f.til (n : Int) _).mono ?_
    rintro e wy ⟨rfl, rfl⟩
    rw [hR]
    clear hR
    go_wp2
    go_ret
    exact ⟨rfl, HB.out⟩
  · rw [Bool.not_eq_true] at h1
    rw [h1, Bool.false_and] at hR
    subst hR
    rw [h1]
    clear h1
    go_wp2
    go_ret
    exact ⟨rfl, HB.out⟩
end
end Pr
end Go.Proofs.YtlmlhjepolefaaaGreatDoor
