/- The rows of package cond's walks: the words that it lists, the sentinels that it tells. The sentinels that the rows of package token lay. TokenWaits: the walk, as the frame wants it. -/
import Derived.Test.YtlmlhjepolefaaaGreatDoorYTokenWaits16
import Derived.Test.YtlmlhjepolefaaaGreatDoorYTokenWaits13
import Derived.Test.YtlmlhjepolefaaaGreatDoorLaidY
import Derived.Lib.LaidTab
import Derived.Test.YtlmlhjepolefaaaGreatDoorZyY
namespace Go.Proofs.YtlmlhjepolefaaaGreatDoor
open Go.RowKit

/-- An array of texts that reads as a list holds the list's texts. -/
theorem cells_of_texts {H : Type} {enc : TypeId × Value → H} {P : Program} {w : World} {base : Nat} {sp : Nat → Bool} {held : Bool} {fuel : Nat} {t e : TypeId} {n : Nat} {cs : List Value} {ss : List (List UInt8)} {p : List MemPlace}
    (ht : P.underlying t = some (.array n e)) (he : P.underlying e = some .string) (hce : P.cellsOf e = 1) (hct : P.cellsOf t = n)
    (h : DataW.trod enc P w base sp held fuel t cs = some (.agg (ss.map fun s => .lit (.string s)), p)) : cs = ss.map fun s => Value.string ⟨s.toArray⟩ := by
  cases fuel with
  | zero => simp [DataW.trod] at h
  | succ fuel =>
    simp only [DataW.trod, ht, hce, hct, Nat.mul_one] at h
    split at h
    · rename_i hl
      obtain ⟨xs, hm, hx⟩ := Option.map_eq_some_iff.1 h
      have hxs : xs.map (·.1) = ss.map fun s => (DataW.lit (.string s) : DataW H) := by
        have := congrArg Prod.fst hx
        simpa using this
      have hxl : xs.length = n := by simpa using Lib.mapM_length hm
      have hzl : ss.length = n := by
        have := congrArg List.length hxs
        simp at this
        omega
      apply List.ext_getElem?
      intro i
      by_cases hi : i < n
      · obtain ⟨b, hb, hf⟩ := Lib.mapM_at hm i i (by simp [hi])
        obtain ⟨z, hc, rfl, _⟩ := DataW.trod_string he hf
        have h1 : cs[i]? = some (.string z) := by
          have := congrArg (·[0]?) hc
          simpa [List.getElem?_take, List.getElem?_drop] using this
        have h2 : (xs.map (·.1))[i]? = some (DataW.lit (.string z.data.toList) : DataW H) := by simp [hb]
        rw [hxs] at h2
        simp only [List.getElem?_map, Option.map_eq_some_iff, DataW.lit.injEq, Lit.string.injEq] at h2
        obtain ⟨z', hz', rfl⟩ := h2
        simp [h1, hz']
      · rw [List.getElem?_eq_none (by omega), List.getElem?_eq_none (by simp; omega)]
    · cases h

/-- The words of package cond lie in its table. -/
def CoWords (W : World) : Prop := ∀ i : Nat, i < 18 → W.cell? ⟨16, i, none⟩ = some (.string ⟨(Co.words[i]!).toArray⟩)
theorem tab_cond_words {W : World} {rest : List (String × DataW Unit)} (h : laidMet Tryz.prog (("leasehold/cond.words", Rows.laid_leasehold_cond_words) :: rest) W) : CoWords W := by
  have hg : Tryz.prog.globalNamed "leasehold/cond.words" = some 16 := by kernel_rfl
  have hty : (Tryz.prog.globals[16]?).map (·.type) = some 147 := by kernel_rfl
  obtain ⟨ps, ⟨g', t', cs, fuel, p, q, hg', ht', hvar, hd, _, _⟩, _⟩ := h
  obtain rfl := Option.some.inj (hg.symm.trans hg')
  obtain rfl := Option.some.inj (hty.symm.trans ht')
  have hcs := cells_of_texts (ss := Co.words) Tryz.underlying147 Tryz.underlying9 (by kernel_rfl) (by kernel_rfl) hd
  intro i hi
  have hv : W.var? Tryz.prog "leasehold/cond.words" = some (Co.words.map fun s => Value.string ⟨s.toArray⟩).toArray := by rw [hvar, ← hcs]
  have := World.var?_cell hg hv i
  have hl : Co.words.length = 18 := rfl
  rw [this]
  simp [hl, hi]
section
variable {W : World} {ads : List Addr}
def pos6 (c : Int) : Nat := if c = 105 then 0 else if c = 108 then 1 else if c = 110 then 2 else if c = 111 then 3 else if c = 112 then 4 else if c = 113 then 5 else 100
theorem coErrs6 (hE : Errs W 185 [6, 8, 10, 11, 12, 13] ads) (hW : CoWords W) : CoErrs W (errMap pos6 ads) where
  e105 := errIn_of hE 105 0 _ rfl rfl
  e111 := errIn_of hE 111 3 _ rfl rfl
  e112 := errIn_of hE 112 4 _ rfl rfl
  words := hW
theorem coErrsE6 (hE : Errs W 185 [6, 8, 10, 11, 12, 13] ads) (hW : CoWords W) : CoErrsE W (errMap pos6 ads) where
  toCoErrs := coErrs6 hE hW
  e108 := errIn_of hE 108 1 _ rfl rfl
  e110 := errIn_of hE 110 2 _ rfl rfl
  e113 := errIn_of hE 113 5 _ rfl rfl
theorem coErrs16 (hE : Errs W 185 sents ads) (hW : CoWords W) : CoErrs W (errMap pos16 ads) where
  e105 := errIn_of hE 105 4 _ rfl rfl
  e111 := errIn_of hE 111 10 _ rfl rfl
  e112 := errIn_of hE 112 11 _ rfl rfl
  words := hW
theorem coErrsE16 (hE : Errs W 185 sents ads) (hW : CoWords W) : CoErrsE W (errMap pos16 ads) where
  toCoErrs := coErrs16 hE hW
  e108 := errIn_of hE 108 7 _ rfl rfl
  e110 := errIn_of hE 110 9 _ rfl rfl
  e113 := errIn_of hE 113 12 _ rfl rfl
end
end Go.Proofs.YtlmlhjepolefaaaGreatDoor
namespace Go.Proofs.YtlmlhjepolefaaaGreatDoor
open Go.RowKit

namespace Pr
abbrev sents9 : List Nat := [1, 6, 0, 8, 10, 11, 12, 13, 2]
def pos9 (c : Int) : Nat := if c = 104 then 0 else if c = 105 then 1 else if c = 107 then 2 else if c = 108 then 3 else if c = 110 then 4 else if c = 111 then 5 else if c = 112 then 6 else if c = 113 then 7 else if c = 116 then 8 else 100
theorem stuck9 {W : World} {ads : List Addr} (hE : Errs W 185 sents9 ads) : ErrIn W (errMap pos9 ads) 116 2 := errIn_of hE 116 8 _ rfl rfl
theorem many9 {W : World} {ads : List Addr} (hE : Errs W 185 sents9 ads) : ErrIn W (errMap pos9 ads) 104 1 := errIn_of hE 104 0 _ rfl rfl
end Pr
end Go.Proofs.YtlmlhjepolefaaaGreatDoor
namespace Go.Proofs.YtlmlhjepolefaaaGreatDoor
open Go.RowKit
open Pr
theorem tokenWaits_walk (th st n : Int) (ads : List Addr) (w : World) (h1 : -9223372036854775808 ≤ th) (h2 : th ≤ 9223372036854775807) (h3 : -9223372036854775808 ≤ st) (h4 : st ≤ 9223372036854775807) (hn1 : -9223372036854775808 ≤ n) (hn2 : n ≤ 9223372036854775807)
    (hE : Errs w 185 sents9 ads) (_ : CoWords w) :
    Calls Tryz.prog 5 #[.int .i64 th, .int .i64 st, .int .i64 n] w fun e w' => e = .returned (.bool true) ∧ Below w.heap.size w w' :=
  tokenWaits_core (errMap pos9 ads) th st n w h1 h2 h3 h4 hn1 hn2 (stuck9 hE) (many9 hE)
end Go.Proofs.YtlmlhjepolefaaaGreatDoor
