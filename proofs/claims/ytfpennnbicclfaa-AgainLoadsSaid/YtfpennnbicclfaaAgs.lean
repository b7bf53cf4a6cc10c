/- Package again: twice, fits. -/
import Derived.Test.YtfpennnbicclfaaAgp
namespace Go.Proofs.Ytfpennnbicclfaa
open Go.RowKit

namespace Ag
theorem i_cell {w : World} {b off n B : Nat} {l : List Int} (h : KRow iκ w B (some ⟨b, off, none⟩) n l) {j : Nat} (hj : j < l.length) : w.cell? ⟨b, off + j, none⟩ = some (.int .i64 l[j]!) := by
  have hl := h.len (by decide)
  obtain ⟨b', off', he, _, hcc⟩ := h.2 (by omega)
  injection he with he
  injection he with e1 e2
  subst e1
  subst e2
  rw [i_flat] at hcc
  refine hcc j _ ?_
  rw [List.getElem?_map, List.getElem?_eq_getElem hj, getElem!_pos l j hj]
  rfl
theorem nodup_step {l : List Int} {j : Nat} (hj : j < l.length) (h : (l.take j).Nodup) : ((l.take j).any (fun y => decide (l[j]! = y)) = true → ¬ l.Nodup) ∧ ((l.take j).any (fun y => decide (l[j]! = y)) = false → (l.take (j + 1)).Nodup) := by
  have e : l[j]! = l[j] := getElem!_pos l j hj
  have ht : l.take (j + 1) = l.take j ++ [l[j]] := List.take_succ_eq_append_getElem hj
  constructor
  · intro ha hn
    have h1 : (l.take (j + 1)).Nodup := hn.sublist (List.take_sublist _ _)
    rw [ht, List.nodup_append] at h1
    rw [List.any_eq_true] at ha
    obtain ⟨y, hy, he⟩ := ha
    simp only [decide_eq_true_eq] at he
    exact h1.2.2 y hy l[j] (List.mem_singleton.2 rfl) (by rw [← he, e])
  · intro ha
    rw [ht, List.nodup_append]
    refine ⟨h, by simp, fun a ha1 b hb he => ?_⟩
    rw [List.mem_singleton] at hb
    rw [List.any_eq_false] at ha
    exact ha a ha1 (by simp only [decide_eq_true_eq]; rw [e, he, hb])
set_option maxRecDepth 10000 in
set_option maxHeartbeats 1600000 in
theorem twice_any (A : Option Addr) (n c : Nat) (l : List Int) (w : World) (hA : Pl A n c) (h : KRow iκ w w.heap.size A n l) (hn : n ≤ 1000) (hc : n ≤ c) (hm : c ≤ maxLen) :
    Calls Try.prog 42 #[.slice A n c] w fun e w' => e = .returned (.bool (!decide l.Nodup)) ∧ w = w' := by
  have hl := h.len (by decide)
  have H := Lib.hid h
  have HA := Lib.hid hA
  have HL := Lib.hid hl
  have HM := Lib.hid hm
  obtain ⟨r, hr⟩ : ∃ r, (!decide l.Nodup) = r := ⟨_, rfl⟩
  rw [hr]
  have HR := Lib.hid hr
  clear h hA hl hr hm
  go_enter Try.func42, Try.ntmps42
  go_wp2_with fail
  go_loopw [7] (fun s7 wr => (∃ j : Nat, s7 = .int .i64 j ∧ j ≤ n ∧ (l.take j).Nodup) ∧ wr = w) (fun s7 _ => n - (intOf s7).toNat)
  case atStart => exact ⟨⟨0, rfl, Nat.zero_le _, List.nodup_nil⟩, rfl⟩
  case round =>
    obtain ⟨⟨j, rfl, hj, hnd⟩, rfl⟩ := hrel
    have hj0 : (0 : Int) ≤ (j : Int) := by omega
    have HND := Lib.hid hnd
    clear hnd
    by_cases hlt : j < n
    · have hI : (j : Int) < (n : Int) := by omega
      have hI2 : (j : Int) ≤ (c : Int) := by omega
      obtain ⟨b, off, rfl⟩ : ∃ b off, A = some ⟨b, off, none⟩ := by
        rcases HA.out with ⟨_, h0, _⟩ | h
        · omega
        · exact h
      have hel := i_cell H.out (j := j) (by have := HL.out; omega)
      have hst := nodup_step (by have := HL.out; omega) HND.out
      have hct := AnyE.slices_Contains sgCt (Value.int .i64) (fun x y => decide (x = y)) (eql_int _) b off j c l l[j]! wr (by have := HL.out; omega) (by omega) (fun k hk => i_cell H.out hk)
      generalize l[j]! = x at *
      obtain ⟨B, hB⟩ : ∃ B, (l.take j).any (fun y => decide (x = y)) = B := ⟨_, rfl⟩
      rw [hB] at hct hst
      have HCT : Hid (Calls Try.prog 46 #[.slice (some ⟨b, off, none⟩) j c, .int .i64 x] wr fun e w' => e = .returned (.bool B) ∧ w' = wr) := hct
      have HST := Lib.hid hst
      clear hct hst hB
      cases B with
      | true =>
        obtain rfl : r = true := by
          have h1 := HST.out.1 rfl
          rw [← HR.out, decide_eq_false h1]
          rfl
        go_wp2_with (go_at_call 46; (with_reducible refine HCT.out.mono ?_); rintro e w2 ⟨rfl, hw⟩; subst hw)
        go_ret
        exact ⟨rfl, rfl⟩
      | false =>
        have HN2 := Lib.hid (HST.out.2 rfl)
        go_wp2_with (go_at_call 46; (with_reducible refine HCT.out.mono ?_); rintro e w2 ⟨rfl, hw⟩; subst hw)
        go_roundw
        case rel => exact ⟨⟨j + 1, by first | rfl | go_num, by omega, HN2.out⟩, by first | trivial | rfl⟩
        case measure =>
          simp only [intOf]
          omega
    · obtain rfl : j = n := by omega
      obtain rfl : r = false := by
        have h1 := HND.out
        rw [List.take_of_length_le (by have := HL.out; omega)] at h1
        rw [← HR.out, decide_eq_true h1]
        rfl
      go_wp2
      go_ret
      exact ⟨rfl, rfl⟩
def fitsA (p : Ab) : Bool := decide (p.keys.length = p.reps.length) && decide (1 ≤ p.keys.length) && decide (p.keys.length ≤ 4) && decide p.keys.Nodup
end Ag
end Go.Proofs.Ytfpennnbicclfaa
