/- Package again: Look. -/
import Derived.Test.YtfpennnbicclfaaAgc
import Derived.Deep.RegionHeld3
namespace Go.Proofs.Ytfpennnbicclfaa
open Go.RowKit

namespace Ag
theorem zeroPg (w : World) : (zeroValue 51).run Try.prog w = .ok Rw.zero.val w := by kernel_rfl
/-- What a map tells of a worker. -/
def rawAt (s : ByteArray) (l : List Pg) : Rw := ((at? Pg.wkr s l).map Pg.raw).getD Rw.zero
def hasAt (s : ByteArray) (l : List Pg) : Bool := (at? Pg.wkr s l).isSome
set_option maxRecDepth 20000 in
theorem look_run {w : World} {b : Nat} {l : List Pg} {s : ByteArray} (ho : Owns w b l) (hs : s.size ≤ maxLen) :
    (Instr.lookup 25 (.map (some b)) (.string s) true).run Try.prog w = .ok (.tuple #[(rawAt s l).val, .bool (hasAt s l)]) w := by
  obtain ⟨v, ps, h1, h2⟩ := World.ownsMap.look_ok ho law Try.underlying25 (zeroPg w) (rwR_mk Rw.zero) (key_str hs)
  obtain ⟨x, rfl, h3⟩ := rwR_inv h2
  rw [has_mapD] at h1
  injection h3 with h3 h4
  rw [at_mapD] at h3
  have e : x = rawAt s l := by
    unfold rawAt
    cases hf : at? Pg.wkr s l with
    | none =>
      rw [hf] at h3
      injection h3 with h3
      exact h3.symm
    | some y =>
      rw [hf] at h3
      injection h3 with h3
      exact h3.symm
  rw [e] at h1
  exact h1
/-- What Look tells, and the reply. -/
def look (M : List Ab) (s : ByteArray) (i k : Int) : Int × List UInt8 :=
  match at? Ab.wkr s M with
  | none => if M.length < 6 then (0, []) else (3, [])
  | some p => if p.inc < i then (0, []) else if i < p.inc then (2, []) else
    if Lib.idxBy (fun x y => decide (x = y)) p.keys k < 0 then (0, []) else (1, p.reps[(Lib.idxBy (fun x y => decide (x = y)) p.keys k).toNat]!)
theorem ab_wkr (x : Pg) : x.ab.wkr = x.wkr := rfl
theorem eql_int (T : TypeId) : EqlAt Try.prog T (Value.int .i64) (fun x y => decide (x = y)) := ⟨fun x y w => by rw [(EqlAt.int Try.prog T .i64).1 x y w]; by_cases h : x = y <;> simp [h], .int Try.prog T .i64⟩
theorem idx_any (A : Option Addr) (n c : Nat) (l : List Int) (x : Int) (w : World) (h : OwnK iκ w 0 3 A n c l) (hn : n ≤ 4) :
    Calls Try.prog 30 #[.slice A n c, .int .i64 x] w fun e w' => e = .returned (.int .i64 (Lib.idxBy (fun x y => decide (x = y)) l x)) ∧ w' = w := by
  have hl := h.len
  have hr := h.row
  by_cases h0 : n = 0
  · subst h0
    obtain rfl : l = [] := List.eq_nil_of_length_eq_zero hl
    exact AnyE.slices_Index_empty sgIx A c (.int .i64 x) w
  · obtain ⟨b, off, rfl, hb, hc⟩ := hr.2 (by omega)
    have h1 := AnyE.slices_Index sgIx (Value.int .i64) (fun x y => decide (x = y)) (eql_int _) b off n c l x w (by omega) (by omega) (fun j hj => by
      refine hc j _ ?_
      rw [i_flat, List.getElem?_map, List.getElem?_eq_getElem hj, getElem!_pos l j hj]
      rfl)
    rw [show l.take n = l from List.take_of_length_le (by omega)] at h1
    exact h1
end Ag
end Go.Proofs.Ytfpennnbicclfaa
