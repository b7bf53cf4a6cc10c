/- Walks of package cond: a text; the word that begins at a place. -/
import Derived.Test.YtlmlhjepolefaaaGreatDoorYTokenChoices3
namespace Go.Proofs.YtlmlhjepolefaaaGreatDoor
open Go.RowKit

/-- A word as a value. -/
def wordV (r : Nat × Nat × Nat) : Value := .agg #[.int .i64 (r.1 : Int), .int .i64 (r.2.1 : Int), .int .i64 (r.2.2 : Int)]
theorem Co.text_yes {l : List UInt8} {k m : Nat} (h : k + 1 ≤ m) (hm : m < l.length) (ha : ∀ j, k + 1 ≤ j → j < m → Co.inText l[j]! = true) (h34 : l[m]! = 34) : Co.textAt l k = (3, k, m + 1) := by
  have he : Co.ends Co.inText l (k + 1) = m := Co.ends_eq h (by omega) ha (.inr (by rw [h34]; decide))
  unfold Co.textAt
  rw [he, if_pos ⟨hm, h34⟩]
theorem Co.text_no {l : List UInt8} {k m : Nat} (h : k + 1 ≤ m) (hm : m ≤ l.length) (ha : ∀ j, k + 1 ≤ j → j < m → Co.inText l[j]! = true) (hn : m = l.length ∨ (Co.inText l[m]! = false ∧ l[m]! ≠ 34)) : Co.textAt l k = (0, k, k) := by
  have he : Co.ends Co.inText l (k + 1) = m := Co.ends_eq h hm ha (hn.imp id (·.1))
  unfold Co.textAt
  rw [he, if_neg (by rcases hn with rfl | hn <;> simp_all)]

set_option maxHeartbeats 1600000 in
theorem ctext_any (s : ByteArray) (k : Nat) (w : World) (hk : k < s.size) (hsz : s.size ≤ 80) :
    Calls Tryz.prog 89 #[.string s, .int .i64 (k : Int)] w fun e w' => e = .returned (wordV (Co.textAt s.data.toList k)) ∧ Below w.heap.size w w' := by
  have hl : s.data.toList.length = s.size := by simp
  have HL := Lib.hid hl
  clear hl
  go_enter Tryz.func89, Tryz.ntmps89
  go_wp2_with fail
  go_loop [5] (fun i => ∃ m : Nat, k + 1 ≤ m ∧ m ≤ s.size ∧ i = .int .i64 m ∧ Hid (∀ j, k + 1 ≤ j → j < m → Co.inText s.data.toList[j]! = true)) (fun i => s.size - (intOf i).toNat)
  case atStart => exact ⟨k + 1, Nat.le_refl _, by omega, by simp, fun j h1 h2 => by omega⟩
  case round =>
    obtain ⟨m, hm1, hm, rfl, hall⟩ := hrel
    by_cases hlt : m < s.size
    · have hat := at_list s m hlt
      have hc := s[m].toNat_lt
      have hin : Co.inText s[m] = true ↔ (32 ≤ (s[m].toNat : Int) ∧ (s[m].toNat : Int) ≤ 126 ∧ ¬ (s[m].toNat : Int) = 34) := by
        unfold Co.inText; simp; omega
      have h34 : (s[m].toNat : Int) = 34 → s[m] = 34 := fun h => UInt8.toNat_inj.1 (by simp; omega)
      have H1 := Lib.hid (@Co.text_yes s.data.toList k m hm1 (by rw [HL.out]; exact hlt) hall.out)
      have H2 := Lib.hid (@Co.text_no s.data.toList k m hm1 (by rw [HL.out]; exact hm) hall.out)
      rw [hat] at H1 H2
      have HI := Lib.hid hin
      have HQ := Lib.hid h34
      have HA := Lib.hid hat
      clear hin h34 hat
      go_wp2_with fail
      · have hc : ((s[m].toNat : Int) == 34) = true := by assumption
        have e34 := HQ.out (by simpa using hc)
        refine bodyPost_ret (v := .agg #[.int .i64 3, .int .i64 (k : Int), .int .i64 ((m : Int) + 1)]) (by simp [results, Tryz.results89, go_sem]) rfl ⟨?_, (Below.refl _ _).alloc (Nat.le_refl _) _⟩
        rw [H1.out (by rw [e34])]
        rfl
      · have ha : 32 ≤ (s[m].toNat : Int) := by assumption
        have hb : (s[m].toNat : Int) ≤ 126 := by assumption
        have hc : ((s[m].toNat : Int) == 34) = false := by assumption
        go_round
        case measure => simp [intOf]; omega
        case rel =>
          refine ⟨m + 1, by omega, by omega, by go_num, fun j hj hjm => ?_⟩
          by_cases e : j = m
          · subst e
            rw [HA.out, HI.out]
            exact ⟨ha, hb, by simpa using hc⟩
          · exact hall.out j hj (by omega)
      · have hb : 126 < (s[m].toNat : Int) := by assumption
        refine bodyPost_ret (v := .agg #[.int .i64 0, .int .i64 (k : Int), .int .i64 (k : Int)]) (by simp [results, Tryz.results89, go_sem]) rfl ⟨?_, (Below.refl _ _).alloc (Nat.le_refl _) _⟩
        rw [H2.out (.inr ⟨by rw [Bool.eq_false_iff, ne_eq, HI.out]; omega, fun e => by rw [e] at hb; revert hb; decide⟩)]
        rfl
      · have ha : (s[m].toNat : Int) < 32 := by assumption
        refine bodyPost_ret (v := .agg #[.int .i64 0, .int .i64 (k : Int), .int .i64 (k : Int)]) (by simp [results, Tryz.results89, go_sem]) rfl ⟨?_, (Below.refl _ _).alloc (Nat.le_refl _) _⟩
        rw [H2.out (.inr ⟨by rw [Bool.eq_false_iff, ne_eq, HI.out]; omega, fun e => by rw [e] at ha; revert ha; decide⟩)]
        rfl
    · have : m = s.size := by omega
      subst this
      go_wp2
      have H2 := @Co.text_no s.data.toList k s.size hm1 (by rw [HL.out]; exact Nat.le_refl _) hall.out (.inl HL.out.symm)
      refine bodyPost_ret (v := .agg #[.int .i64 0, .int .i64 (k : Int), .int .i64 (k : Int)]) (by simp [results, Tryz.results89, go_sem]) rfl ⟨?_, ?_⟩
      · rw [H2]; rfl
      · exact (Below.refl _ _).alloc (Nat.le_refl _) _
end Go.Proofs.YtlmlhjepolefaaaGreatDoor
