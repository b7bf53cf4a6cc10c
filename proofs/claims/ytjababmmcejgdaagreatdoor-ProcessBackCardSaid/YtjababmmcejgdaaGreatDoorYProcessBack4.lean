/- Walks of package cond: a bracket's or operator's length; a text; the word that begins at a place. The rows of package cond's walks: the words that it lists, the sentinels that it tells. From the reading of an argument that is a slice to what a walk is told of it. -/
import Derived.Test.YtjababmmcejgdaaGreatDoorCkY
import Derived.Test.YtjababmmcejgdaaGreatDoorYProcessBack11
import Derived.Test.YtjababmmcejgdaaGreatDoorYProcessBack13
import Derived.Test.YtjababmmcejgdaaGreatDoorYProcessBack6
import Derived.Lib.LaidTab
import Derived.Test.YtjababmmcejgdaaGreatDoorYProcessBack1
import Derived.Deep.Slices
import Derived.ChangeArms
import Derived.OpenShut
import Derived.ShutString
import Derived.ChangeOld
namespace Go.Proofs.YtjababmmcejgdaaGreatDoor
open Go.RowKit

theorem Co.index_has : ∀ (m : List UInt8) (x : UInt8), (m.contains x = true → 0 ≤ Lib.indexByte m x) ∧ (m.contains x = false → Lib.indexByte m x = -1)
  | [], _ => ⟨by simp, fun _ => rfl⟩
  | b :: m, x => by
    have ih := Co.index_has m x
    unfold Lib.indexByte
    by_cases e : b = x
    · subst e; simp
    · have e1 : (b == x) = false := by simpa using e
      have e2 : (x == b) = false := by simpa using fun h => e h.symm
      rw [List.contains_cons, e1, e2, if_neg (by simp), Bool.false_or]
      refine ⟨fun h => ?_, fun h => ?_⟩
      · have h1 := ih.1 h
        rw [if_neg (by simp; omega)]
        omega
      · rw [ih.2 h]; rfl
theorem at_list (s : ByteArray) (k : Nat) (h : k < s.size) : s.data.toList[k]! = s[k] := by
  rw [getElem!_pos s.data.toList k (by simpa using h)]
  simp [ByteArray.getElem_eq_getElem_data]
theorem index_byte (s : ByteArray) (m : List UInt8) (x : UInt8) (hs : s.data.toList = m) (w : World) :
    Calls Tryz.prog 116 #[.string s, .int .u8 (x.toNat : Int)] w fun e w' => e = .returned (.int .i64 (Lib.indexByte m x)) ∧ w = w' := by
  have h : Calls Tryz.prog 116 #[.string s, .int .u8 (x.toNat : Int)] w fun e w' => e = .returned (.int .i64 (Lib.indexByte s.data.toList ((x.toNat : Int).toNat.toUInt8))) ∧ w' = w :=
    Any.strings_IndexByte shLays137 s (x.toNat : Int) w
  have hx : (x.toNat : Int).toNat.toUInt8 = x := by simp
  rw [hx, hs] at h
  refine h.mono ?_
  rintro e w' ⟨h1, h2⟩
  exact ⟨h1, h2.symm⟩

set_option maxHeartbeats 1600000 in
theorem cmark_any (s : ByteArray) (w : World) (h0 : 0 < s.size) (hsz : s.size ≤ 80) :
    Calls Tryz.prog 106 #[.string s] w fun e w' => e = .returned (.int .i64 (Co.markLen s.data.toList : Int)) ∧ w = w' := by
  have hl : s.data.toList.length = s.size := by simp
  have hF := fun W => index_byte ⟨#[61, 33, 60, 62]⟩ [61, 33, 60, 62] s[0] rfl W
  have hN := fun W => index_byte ⟨#[40, 41, 60, 62, 43, 45, 42, 47, 37]⟩ Co.marks s[0] rfl W
  have hf := Co.index_has [61, 33, 60, 62] s[0]
  have hn := Co.index_has Co.marks s[0]
  have hm : Co.markLen s.data.toList = if 1 < s.data.toList.length ∧ s.data.toList[1]! = 61 ∧ ([61, 33, 60, 62] : List UInt8).contains (s.data.toList[0]!) = true then 2
    else if Co.marks.contains (s.data.toList[0]!) = true then 1 else 0 := rfl
  rw [at_list s 0 h0, hl] at hm
  have h0' : (0 : Int) < (s.size : Int) := by omega
  have hz : (Co.marks.contains s[0] = true ∧ 0 ≤ Lib.indexByte Co.marks s[0]) ∨ (Co.marks.contains s[0] = false ∧ Lib.indexByte Co.marks s[0] < 0) := by
    cases h : Co.marks.contains s[0] with
    | true => exact .inl ⟨rfl, hn.1 h⟩
    | false => exact .inr ⟨rfl, by rw [hn.2 h]; omega⟩
  have hy : (([61, 33, 60, 62] : List UInt8).contains s[0] = true ∧ 0 ≤ Lib.indexByte [61, 33, 60, 62] s[0]) ∨ (([61, 33, 60, 62] : List UInt8).contains s[0] = false ∧ Lib.indexByte [61, 33, 60, 62] s[0] < 0) := by
    cases h : ([61, 33, 60, 62] : List UInt8).contains s[0] with
    | true => exact .inl ⟨rfl, hf.1 h⟩
    | false => exact .inr ⟨rfl, by rw [hf.2 h]; omega⟩
  clear hf hn hl
  generalize Lib.indexByte Co.marks s[0] = z9 at *
  generalize Lib.indexByte [61, 33, 60, 62] s[0] = z4 at *
  generalize Co.marks.contains s[0] = c9 at *
  generalize ([61, 33, 60, 62] : List UInt8).contains s[0] = c4 at *
  have HF := Lib.hid hF
  have HN := Lib.hid hN
  clear hF hN
  by_cases h1 : 1 < s.size
  · rw [at_list s 1 h1] at hm
    have h1' : (1 : Int) < (s.size : Int) := by omega
    have he : s[1] = 61 ↔ (s[1].toNat : Int) = 61 := ⟨fun h => by rw [h]; rfl, fun h => UInt8.toNat_inj.1 (by simp; omega)⟩
    simp only [he] at hm
    have HM := Lib.hid hm
    clear hm he
    by_cases e61 : (s[1].toNat : Int) = 61
    · rcases hy with ⟨rfl, hy⟩ | ⟨rfl, hy⟩
      · have HR : Hid (Co.markLen s.data.toList = 2) := HM.out.trans (if_pos ⟨h1, e61, rfl⟩)
        clear HM hz HN
        go_enter Tryz.func106, Tryz.ntmps106
        go_wp2_with fail
        refine (HF.out _).mono ?_
        rintro e w' ⟨rfl, rfl⟩
        go_wp2
        go_ret
        rw [HR.out]
        exact ⟨rfl, rfl⟩
      · have HM : Hid (Co.markLen s.data.toList = if c9 = true then 1 else 0) := HM.out.trans (if_neg (by simp))
        rcases hz with ⟨rfl, hz⟩ | ⟨rfl, hz⟩
        all_goals
          go_enter Tryz.func106, Tryz.ntmps106
          go_wp2_with fail
          refine (HF.out _).mono ?_
          rintro e w' ⟨rfl, rfl⟩
          go_wp2_with fail
          refine (HN.out _).mono ?_
          rintro e w' ⟨rfl, rfl⟩
          go_wp2
          go_ret
          rw [HM.out]
          exact ⟨rfl, rfl⟩
    · have HM : Hid (Co.markLen s.data.toList = if c9 = true then 1 else 0) := HM.out.trans (if_neg (fun h => e61 h.2.1))
      clear hy HF
      rcases hz with ⟨rfl, hz⟩ | ⟨rfl, hz⟩
      all_goals
        go_enter Tryz.func106, Tryz.ntmps106
        go_wp2_with fail
        refine (HN.out _).mono ?_
        rintro e w' ⟨rfl, rfl⟩
        go_wp2
        go_ret
        rw [HM.out]
        exact ⟨rfl, rfl⟩
  · rw [if_neg (by simp [h1])] at hm
    have h1' : ¬ (1 : Int) < (s.size : Int) := by omega
    clear h1 hsz
    have HM := Lib.hid hm
    clear hm hy HF
    rcases hz with ⟨rfl, hz⟩ | ⟨rfl, hz⟩
    all_goals
      go_enter Tryz.func106, Tryz.ntmps106
      go_wp2_with fail
      refine (HN.out _).mono ?_
      rintro e w' ⟨rfl, rfl⟩
      go_wp2
      go_ret
      rw [HM.out]
      exact ⟨rfl, rfl⟩
end Go.Proofs.YtjababmmcejgdaaGreatDoor
namespace Go.Proofs.YtjababmmcejgdaaGreatDoor
open Go.RowKit

/-- An array of texts that reads as a list holds the list's texts. -/
theorem cells_of_texts {H : Type} {enc : TypeId × Value → H} {P : Program} {w : World} {base : Nat} {sp : Nat → Bool} {held : Bool} {fuel : Nat} {t e : TypeId} {n : Nat} {cs : List Value} {ss : List (List UInt8)} {p : List MemPlace}
    (ht : P.underlying t = some (.array n e)) (he : P.underlying e = some .string) (hce : P.cellsOf e = 1) (hct : P.cellsOf t = n)
    (h : DataW.trod enc P w base sp held fuel t cs = some (.agg (ss.map fun s => .lit (.string s)), p)) : cs = ss.map fun s => Value.string ⟨s.toArray⟩ := by
  cases fuel with
  | zero => simp [DataW.trod] at h
  | succ fuel =>
    simp only [DataW.trod, ht, hce, hct, Nat.mul_one] at h
    split at h
    · rename_i hl
      obtain ⟨xs, hm, hx⟩ := Option.map_eq_some_iff.1 h
      have hxs : xs.map (·.1) = ss.map fun s => (DataW.lit (.string s) : DataW H) := by
        have := congrArg Prod.fst hx
        simpa using this
      have hxl : xs.length = n := by simpa using Lib.mapM_length hm
      have hzl : ss.length = n := by
        have := congrArg List.length hxs
        simp at this
        omega
      apply List.ext_getElem?
      intro i
      by_cases hi : i < n
      · obtain ⟨b, hb, hf⟩ := Lib.mapM_at hm i i (by simp [hi])
        obtain ⟨z, hc, rfl, _⟩ := DataW.trod_string he hf
        have h1 : cs[i]? = some (.string z) := by
          have := congrArg (·[0]?) hc
          simpa [List.getElem?_take, List.getElem?_drop] using this
        have h2 : (xs.map (·.1))[i]? = some (DataW.lit (.string z.data.toList) : DataW H) := by simp [hb]
        rw [hxs] at h2
        simp only [List.getElem?_map, Option.map_eq_some_iff, DataW.lit.injEq, Lit.string.injEq] at h2
        obtain ⟨z', hz', rfl⟩ := h2
        simp [h1, hz']
      · rw [List.getElem?_eq_none (by omega), List.getElem?_eq_none (by simp; omega)]
    · cases h

/-- The words of package cond lie in its table. -/
def CoWords (W : World) : Prop := ∀ i : Nat, i < 18 → W.cell? ⟨17, i, none⟩ = some (.string ⟨(Co.words[i]!).toArray⟩)
theorem tab_cond_words {W : World} {rest : List (String × DataW Unit)} (h : laidMet Tryz.prog (("leasehold/cond.words", Rows.laid_leasehold_cond_words) :: rest) W) : CoWords W := by
  have hg : Tryz.prog.globalNamed "leasehold/cond.words" = some 17 := by kernel_rfl
  have hty : (Tryz.prog.globals[17]?).map (·.type) = some 174 := by kernel_rfl
  obtain ⟨ps, ⟨g', t', cs, fuel, p, q, hg', ht', hvar, hd, _, _⟩, _⟩ := h
  obtain rfl := Option.some.inj (hg.symm.trans hg')
  obtain rfl := Option.some.inj (hty.symm.trans ht')
  have hcs := cells_of_texts (ss := Co.words) Tryz.underlying174 Tryz.underlying9 (by kernel_rfl) (by kernel_rfl) hd
  intro i hi
  have hv : W.var? Tryz.prog "leasehold/cond.words" = some (Co.words.map fun s => Value.string ⟨s.toArray⟩).toArray := by rw [hvar, ← hcs]
  have := World.var?_cell hg hv i
  have hl : Co.words.length = 18 := rfl
  rw [this]
  simp [hl, hi]
section
variable {W : World} {ads : List Addr}
def pos6 (c : Int) : Nat := if c = 105 then 0 else if c = 108 then 1 else if c = 110 then 2 else if c = 111 then 3 else if c = 112 then 4 else if c = 113 then 5 else 100
theorem coErrs6 (hE : Errs W 213 [4, 9, 11, 6, 12, 13] ads) (hW : CoWords W) : CoErrs W (errMap pos6 ads) where
  e105 := errIn_of hE 105 0 _ rfl rfl
  e111 := errIn_of hE 111 3 _ rfl rfl
  e112 := errIn_of hE 112 4 _ rfl rfl
  words := hW
theorem coErrs16 (hE : Errs W 213 sents ads) (hW : CoWords W) : CoErrs W (errMap pos16 ads) where
  e105 := errIn_of hE 105 4 _ rfl rfl
  e111 := errIn_of hE 111 10 _ rfl rfl
  e112 := errIn_of hE 112 11 _ rfl rfl
  words := hW
end
end Go.Proofs.YtjababmmcejgdaaGreatDoor
namespace Go.Proofs.YtjababmmcejgdaaGreatDoor
open Go.ChangeShapes Go.WideShapes Go.RowKit

/-- A slice that came in, its elements sz cells wide. -/
structure InRow (w : World) (sz : Nat) (A : Option Addr) (n c : Nat) (l : List Value) : Prop where
  row : RowS w w.heap.size sz A n l
  nn : A = none → n = 0 ∧ c = 0
  cap : n ≤ c
  most : c ≤ maxLen

theorem open_row1 {α : Type} [Inhabited α] {H : Type} {enc : TypeId × Value → H} {P : Program} {W : World} {t e : TypeId} {a : Option Addr} {len cap : Nat} {d : DataW H} {ps : List MemPlace}
    (f : α → Value) (ok : α → Prop) (ht : P.underlying t = some (.slice e)) (hc : P.cellsOf e = 1)
    (hel : ∀ n V x, DataW.trod enc P W 0 (fun _ => true) true n e [V] = some x → ∃ y, V = f y ∧ ok y)
    (h : DataW.Trod enc P W 0 (fun _ => true) true t (.slice a len cap) d ps) : ∃ l : List α, InRow W 1 a len cap (l.map f) ∧ ∀ y ∈ l, ok y := by
  obtain ⟨fuel, hf⟩ := h
  rcases Deep.open_slice1 ht hc hf with ⟨hcs, _⟩ | ⟨x, l, c, m, n, V, D, Pl, hcs, _, hl, hm, hmm, _, hx⟩
  · simp [Value.cells] at hcs
    obtain ⟨rfl, rfl, rfl⟩ := hcs
    exact ⟨[], ⟨RowS.nil _ _ _ _, fun _ => ⟨rfl, rfl⟩, Nat.le_refl _, by simp [maxLen]⟩, fun y h => by cases h⟩
  · simp [Value.cells] at hcs
    obtain ⟨rfl, rfl, rfl⟩ := hcs
    simp only [if_true] at hmm
    subst hmm
    obtain ⟨Y, hY⟩ := Deep.choose_lt (α := α) (p := fun i y => V i = f y ∧ ok y) (fun i hi => hel _ _ _ (hx i hi).2)
    refine ⟨(List.range len).map Y, ⟨⟨by simp, fun h0 => ?_⟩, (fun h => by cases h), hl, hm⟩, fun y hy => ?_⟩
    · have h1 := (hx 0 (by omega)).1
      obtain ⟨b, off, spot⟩ := x
      obtain rfl : spot = none := by simpa [Addr.add] using World.cell?_spot h1
      have hlt : b < W.heap.size := by simpa [Addr.add] using cell_lt h1
      refine ⟨b, off, rfl, hlt, fun k v hv => ?_⟩
      have hk : k < len := by simpa using (List.getElem?_eq_some_iff.1 hv).1
      rw [← addr_add b off k, (hx k (by omega)).1, (hY k (by omega)).1]
      simpa [hk] using hv
    · obtain ⟨i, hi, rfl⟩ := List.mem_map.1 hy
      exact (hY i (by have := List.mem_range.1 hi; omega)).2

section
variable {H : Type} {enc : TypeId × Value → H} {P : Program} {W : World} {t e : TypeId} {a : Option Addr} {len cap : Nat} {d : DataW H} {ps : List MemPlace}
theorem open_ints64 (ht : P.underlying t = some (.slice e)) (he : P.underlying e = some (.int .i64)) (hc : P.cellsOf e = 1) (h : DataW.Trod enc P W 0 (fun _ => true) true t (.slice a len cap) d ps) :
    ∃ l : List Int, InRow W 1 a len cap (l.map (Value.int .i64)) ∧ ∀ y ∈ l, -9223372036854775808 ≤ y ∧ y ≤ 9223372036854775807 :=
  open_row1 (Value.int .i64) _ ht hc (fun n V x hx => by
    obtain ⟨y, h1, _, h2⟩ := DataW.trod_int he hx
    have := bounds_i64 h2
    exact ⟨y, by simpa using h1, by omega⟩) h
theorem open_strs (ht : P.underlying t = some (.slice e)) (he : P.underlying e = some .string) (hc : P.cellsOf e = 1) (h : DataW.Trod enc P W 0 (fun _ => true) true t (.slice a len cap) d ps) :
    ∃ l : List ByteArray, InRow W 1 a len cap (l.map Value.string) ∧ ∀ y ∈ l, y.size ≤ maxLen :=
  open_row1 Value.string _ ht hc (fun n V x hx => by
    obtain ⟨y, h1, _, h2⟩ := DataW.trod_string he hx
    exact ⟨y, by simpa using h1, h2⟩) h
theorem open_boolrow (ht : P.underlying t = some (.slice e)) (he : P.underlying e = some .bool) (hc : P.cellsOf e = 1) (h : DataW.Trod enc P W 0 (fun _ => true) true t (.slice a len cap) d ps) :
    ∃ l : List Bool, InRow W 1 a len cap (l.map Value.bool) := by
  obtain ⟨l, h, _⟩ := open_row1 Value.bool (fun _ => True) ht hc (fun n V x hx => by
    obtain ⟨y, h1, _⟩ := DataW.trod_bool he hx
    exact ⟨y, by simpa using h1, trivial⟩) h
  exact ⟨l, h⟩
end
end Go.Proofs.YtjababmmcejgdaaGreatDoor
