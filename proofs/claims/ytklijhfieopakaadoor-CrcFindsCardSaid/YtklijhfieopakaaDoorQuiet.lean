/- SameBytes only reads: it leaves the world as it was, but for what it drew. -/
import Derived.Test.YtklijhfieopakaaDoorWd
namespace Go.Proofs.YtklijhfieopakaaDoor
open Go.RowKit

theorem drewN_drew (w : World) (q : Nat) : (w.drewN q).drew = w.drewN (q + 1) := rfl
theorem Bytes.drewN {w : World} {B n : Nat} {A : Option Addr} {l : List UInt8} (h : Bytes w B A n l) (q : Nat) : Bytes (w.drewN q) B A n l := h.below (b0 := B) (below_drewN (Below.refl _ _) q) (Nat.le_refl _)

set_option maxHeartbeats 800000 in
theorem same_quiet (A A' : Option Addr) (n n' c c' : Nat) (l l' : List UInt8) (w : World) (B B' : Nat) (hr : Bytes w B A n l) (hr' : Bytes w B' A' n' l') (hn : n ≤ 70368744177664) (hn' : n' ≤ 70368744177664) :
    Calls Tryd.prog 16 #[.slice A n c, .slice A' n' c'] w fun e w' => e = .returned (.bool (l == l')) ∧ ∃ q, w' = w.drewN q := by
  by_cases hne : n = n'
  · subst hne
    have h0 : (bne (n : Int) (n : Int)) = false := by simp
    go_enter Tryd.func16, Tryd.ntmps16
    go_wp2
    go_loopw [5] (fun i wr => ∃ k : Nat, k ≤ n ∧ i = .int .i64 k ∧ l.take k = l'.take k ∧ ∃ q, wr = w.drewN q) (fun i _ => n - (intOf i).toNat)
    case atStart => exact ⟨0, Nat.zero_le _, rfl, rfl, 0, rfl⟩
    case round =>
      obtain ⟨k, hk, rfl, htk, hq⟩ := hrel
      have HT := Lib.hid htk
      have hrw : Bytes wr B A n l := by obtain ⟨q, rfl⟩ := hq; exact hr.drewN q
      have hrw' : Bytes wr B' A' n l' := by obtain ⟨q, rfl⟩ := hq; exact hr'.drewN q
      have HQ : Hid (∀ k, ∃ q, wr.drewN k = w.drewN q) := Lib.hid fun k => by
        obtain ⟨q, rfl⟩ := hq
        exact ⟨q + k, by simp [World.drewN, Nat.add_assoc]⟩
      clear htk hq
      by_cases hlt : k < n
      · obtain ⟨b, off, rfl, hb, hc⟩ := hrw.at_ hlt
        obtain ⟨b', off', rfl, hb', hc'⟩ := hrw'.at_ hlt
        have hk1 : k < l.length := by rw [hr.len]; exact hlt
        have hk2 : k < l'.length := by rw [hr'.len]; exact hlt
        by_cases hxy : l[k]'hk1 = l'[k]'hk2
        · have H := Lib.hid (take_eq_succ l l' k hk1 hk2 HT.out hxy)
          rw [← hxy] at hc'
          generalize l[k]'hk1 = x at *
          have hbb : ((x.toNat : Int) == (x.toNat : Int)) = true := by simp
          clear hxy
          go_wp2
          go_quiet (fail)
          go_wp2
          go_roundw
          case measure => simp [intOf]; omega
          case rel => exact ⟨k + 1, by omega, by go_num, H.out, HQ.out _⟩
        · have hbb := u8_ne hxy
          have H : Hid ((l == l') = false) := by
            refine Lib.hid ?_
            rw [beq_eq_false_iff_ne]
            intro e
            subst e
            exact hxy rfl
          generalize l[k]'hk1 = x at *
          generalize l'[k]'hk2 = y at *
          clear hxy
          go_wp2
          go_quiet (fail)
          go_wp2
          go_ret
          rw [H.out]
          exact ⟨rfl, HQ.out _⟩
      · have hkn : k = n := by omega
        have H : Hid ((l == l') = true) := by
          refine Lib.hid ?_
          have h := HT.out
          rw [List.take_of_length_le (by rw [hr.len]; omega), List.take_of_length_le (by rw [hr'.len]; omega)] at h
          rw [h]; simp
        clear hkn
        go_wp2
        go_ret
        rw [H.out]
        exact ⟨rfl, HQ.out 0⟩
  · have h0 : (bne (n : Int) (n' : Int)) = true := by simp; omega
    have h1 : (l == l') = false := by
      rw [beq_eq_false_iff_ne]
      intro h
      apply hne
      rw [← hr.len, ← hr'.len, h]
    rw [h1]
    go_enter Tryd.func16, Tryd.ntmps16
    go_wp2
    go_ret
    exact ⟨rfl, 0, rfl⟩
end Go.Proofs.YtklijhfieopakaaDoor
