/- Package queue: the document's Free and HasText. -/
import Derived.Test.YtglmhpmiphkjlaaLp
namespace Go.Proofs.Ytglmhpmiphkjlaa
open Go.RowKit

namespace Qu
open Ls (T one_lit dz_facts)
theorem bnot_lt {a b : Int} : (decide (a ≤ b)) = !decide (b < a) := by
  by_cases h : a ≤ b
  · rw [decide_eq_true h, decide_eq_false (show ¬ b < a by omega)]; rfl
  · rw [decide_eq_false h, decide_eq_true (show b < a by omega)]; rfl
theorem free_is (x : T) (now : Int) : x.free now = (!x.bro && decide (x.aft ≤ now) && decide (x.exp ≤ now) && decide (x.epo < 60)) := by
  unfold T.free T.avail T.due
  cases x.bro
  · by_cases h1 : x.aft ≤ now <;> by_cases h2 : x.exp ≤ now <;> by_cases h3 : x.epo < 60 <;> by_cases h4 : x.aft < x.exp <;> simp [h1, h2, h3, h4] <;> omega
  · simp
set_option maxHeartbeats 1600000 in
theorem dfree_any (x : T) (now : Int) (w : World) : Calls Try.prog 24 #[x.val, .int .i64 now] w fun e w' => e = .returned (.bool (x.free now)) ∧ Below w.heap.size w w' := by
  obtain ⟨hc, hb⟩ := one_lit w #[.int .i64 x.id, .int .i64 x.ins, .int .i64 x.tok, .int .i64 x.nod, .string x.top, .int .i64 x.prio, .string x.wkr, .int .i64 x.epo, .int .i64 x.exp, .int .i64 x.aft, .int .i64 x.ret, .bool x.bro] 38
  have hR := free_is x now
  generalize x.free now = R at *
  obtain ⟨id, ins, tok, nod, top, prio, wkr, epo, exp, aft, ret, bro⟩ := x
  unfold T.val at *
  dsimp only at *
  go_enter Try.func24, Try.ntmps24
  go_upto_region 1 with (fail)
  generalize w.alloc _ = wa at *
  have HB := Lib.hid hb
  obtain ⟨⟨c0, c1, c2, c3, c4, c5, c6, c7, c8, c9, c10, c11⟩, _⟩ := dz_facts hc
  clear hb hc
  cases bro with
  | true =>
    obtain rfl : R = false := by rw [hR]; rfl
    clear hR
    go_wp2
    go_ret
    exact ⟨rfl, HB.out⟩
  | false =>
    by_cases h1 : aft ≤ now
    · by_cases h2 : exp ≤ now
      · by_cases h3 : epo < 60
        · obtain rfl : R = true := by rw [hR]; simp [h1, h2, h3]
          clear hR
          go_wp2
          go_ret
          exact ⟨by simp, HB.out⟩
        · obtain rfl : R = false := by rw [hR]; simp [h3]
          clear hR
          go_wp2
          go_ret
          exact ⟨by simp, HB.out⟩
      · obtain rfl : R = false := by rw [hR]; simp [h2]
        clear hR
        go_wp2
        go_ret
        exact ⟨rfl, HB.out⟩
    · obtain rfl : R = false := by rw [hR]; simp [h1]
      clear hR
      go_wp2
      go_ret
      exact ⟨rfl, HB.out⟩
theorem asks_at {ts : List ByteArray} {s : ByteArray} : asks ts s = true ↔ ∃ j, j < ts.length ∧ ts[j]! = s := by
  unfold asks
  rw [List.any_eq_true]
  constructor
  · rintro ⟨y, hy, h⟩
    obtain ⟨j, hj, e⟩ := List.getElem_of_mem hy
    exact ⟨j, hj, by rw [getElem!_pos ts j hj, e]; exact of_decide_eq_true h⟩
  · rintro ⟨j, hj, h⟩
    rw [getElem!_pos ts j hj] at h
    exact ⟨ts[j], List.getElem_mem hj, decide_eq_true h⟩
set_option maxHeartbeats 800000 in
theorem hastext_any (A : Option Addr) (n c : Nat) (ts : List ByteArray) (B : Nat) (s : ByteArray) (w : World) (hr : KRow xκ w B A n ts) (hn : n ≤ 100000) :
    Calls Try.prog 25 #[.slice A n c, .string s] w fun e w' => e = .returned (.bool (asks ts s)) ∧ w = w' := by
  have HR := Lib.hid hr
  have HL := Lib.hid (hr.len (by decide))
  clear hr
  go_enter Try.func25, Try.ntmps25
  go_wp2_with fail
  go_loopw [5] (fun i wr => ∃ j : Nat, j ≤ n ∧ i = .int .i64 j ∧ w = wr ∧ ∀ k, k < j → ts[k]! ≠ s) (fun i _ => n - (intOf i).toNat)
  case atStart => exact ⟨0, Nat.zero_le _, rfl, rfl, fun k hk => by omega⟩
  case round =>
    obtain ⟨j, hj, rfl, rfl, hno⟩ := hrel
    have HNO := Lib.hid hno
    clear hno
    have hj0 : (0 : Int) ≤ (j : Int) := by omega
    by_cases hlt : j < n
    · obtain ⟨b, off, rfl, _, _⟩ := HR.out.2 (by omega)
      have c1 := x_at HR.out hlt
      have hI : (j : Int) < (n : Int) := by omega
      by_cases he : ts[j]! = s
      · have HA : Hid (asks ts s = true) := asks_at.2 ⟨j, by have := HL.out; omega, he⟩
        rw [he] at c1
        go_wp2_with fail
        go_ret
        exact ⟨by rw [HA.out]; rfl, by first | trivial | rfl⟩
      · have HN2 : Hid (∀ k, k < j + 1 → ts[k]! ≠ s) := fun k hk => by
          by_cases h : k = j
          · subst h; exact he
          · exact HNO.out k (by omega)
        have hB : ((ts[j]!).toList == s.toList) = false := by
          rw [beq_eq_false_iff_ne, ByteArray.toList_eq, ByteArray.toList_eq]
          exact fun h => he (by
            generalize ts[j]! = y at *
            cases y
            cases s
            simp only [ByteArray.mk.injEq]
            exact Array.toList_inj.1 h)
        clear he
        generalize ts[j]! = y at *
        go_wp2_with fail
        go_roundw
        case measure => simp [intOf]; omega
        case rel => exact ⟨j + 1, by omega, by go_num, by first | trivial | rfl, HN2.out⟩
    · obtain rfl : j = n := by omega
      have hI : ¬ (j : Int) < (j : Int) := by omega
      have HA : Hid (asks ts s = false) := by
        show asks ts s = false
        cases h : asks ts s with
        | false => rfl
        | true =>
          obtain ⟨k, hk, e⟩ := asks_at.1 h
          exact absurd e (HNO.out k (by have := HL.out; omega))
      go_wp2
      go_ret
      exact ⟨by rw [HA.out]; rfl, by first | trivial | rfl⟩
end Qu
end Go.Proofs.Ytglmhpmiphkjlaa
