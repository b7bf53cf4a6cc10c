/- The document's side: the value of a name, what is amiss with a value. -/
import Derived.Test.YthkgjdhbibialaaDoorVi
import Derived.Test.YthkgjdhbibialaaDoorVk
import Derived.Test.YthkgjdhbibialaaDoorSa
namespace Go.Proofs.YthkgjdhbibialaaDoor
open Go.RowKit

namespace Vr
theorem get_hit {l : List V} {s : ByteArray} {k : Nat} (hk : k < l.length) (h : l[k]!.name = s) (h0 : ∀ j, j < k → l[j]!.name ≠ s) : get l s = (l[k]!, true) := by
  have hi : idx (named s) l = k := idx_hit hk (by simpa [named] using h) fun j hj => by simpa [named] using h0 j hj
  unfold get
  rw [hi, if_pos (by omega)]
  simp
theorem get_miss {l : List V} {s : ByteArray} (h0 : ∀ j, j < l.length → l[j]!.name ≠ s) : get l s = (default, false) := by
  have hi : idx (named s) l = -1 := idx_miss fun j hj => by simpa [named] using h0 j hj
  unfold get
  rw [hi, if_neg (by omega)]
/-- What is amiss with a value. -/
def worth (v : V) : Int := if typed v = false then 110 else if 60 < v.text.size then 105 else 0
theorem fault_worth (v : V) : fault v = if name v.name.data.toList = false then 106 else worth v := rfl
theorem worth_empty {v : V} (h : v.text.size = 0) : worth v = if typed v = true then 0 else 110 := by
  unfold worth
  rw [h]
  cases typed v <;> simp
end Vr

set_option maxHeartbeats 1600000 in
theorem refget_any {w : World} (A : Option Addr) (n c : Nat) (l : List Vr.V) (s : ByteArray) (hr : VRow w w.heap.size A n l) (hn : n ≤ 9223372036854775807) :
    Calls Tryd.prog 11 #[.slice A n c, .string s] w fun e w' => e = .returned (getV (Vr.get l s)) ∧ Below w.heap.size w w' := by
  have HL := Lib.hid hr.len
  have hb1 : Below w.heap.size w (w.alloc (.cells #[.int .i64 0, .int .i64 0, .string ⟨#[]⟩] 26)) := (Below.refl _ _).alloc (Nat.le_refl _) _
  obtain ⟨R, hR⟩ : ∃ R, R = Vr.get l s := ⟨_, rfl⟩
  rw [← hR]
  have HR := Lib.hid hR
  clear hR
  go_enter Tryd.func11, Tryd.ntmps11
  go_wp2_with fail
  go_loop [6] (fun i => ∃ k : Nat, k ≤ n ∧ i = .int .i64 k ∧ Hid (∀ j, j < k → l[j]!.name ≠ s)) (fun i => n - (intOf i).toNat)
  case atStart => exact ⟨0, Nat.zero_le _, rfl, fun j h => absurd h (Nat.not_lt_zero j)⟩
  case round =>
    obtain ⟨k, hk, rfl, hall⟩ := hrel
    by_cases hkn : k < n
    · obtain ⟨b, off, rfl, hbb, c0, c1, c2, c3⟩ := (hr.below hb1 (Nat.le_refl _)).at_ hkn
      have hq := Vr.eq_of l[k]!.name s
      have HG := Lib.hid (fun h => Vr.get_hit (s := s) (show k < l.length by rw [HL.out]; exact hkn) h hall.out)
      have HN : Hid (l[k]!.name ≠ s → ∀ j, j < k + 1 → l[j]!.name ≠ s) := fun h j hj => by
        by_cases e : j = k
        · subst e; exact h
        · exact hall.out j (by omega)
      generalize l[k]! = v at *
      have hkI : (k : Int) < (n : Int) := by omega
      have hk0 : (0 : Int) ≤ (k : Int) := by omega
      by_cases he : v.name = s
      · rw [decide_eq_true he] at hq
        obtain rfl : R = (v, true) := HR.out.trans (HG.out he)
        clear HG HN HR he hall
        go_wp2
        refine bodyPost_ret (v := .tuple #[.agg #[.int .i64 v.kind, .int .i64 v.num, .string v.text], .bool true]) (by simp [results, Tryd.results11, go_sem]) rfl ⟨rfl, ?_⟩
        exact (Below.refl _ _).alloc (Nat.le_refl _) _
      · rw [decide_eq_false he] at hq
        have HE := Lib.hid (HN.out he)
        clear HG HN he hall
        go_wp2
        go_round
        case measure => simp [intOf]; omega
        case rel => exact ⟨k + 1, by omega, by go_num, HE⟩
    · obtain rfl : R = (default, false) := HR.out.trans (Vr.get_miss fun j hj => hall.out j (by rw [HL.out] at hj; omega))
      go_wp2
      refine bodyPost_ret (v := .tuple #[.agg #[.int .i64 0, .int .i64 0, .string ⟨#[]⟩], .bool false]) (by simp [results, Tryd.results11, go_sem]) rfl ⟨rfl, ?_⟩
      exact (Below.refl _ _).alloc (Nat.le_refl _) _

set_option maxHeartbeats 3200000 in
theorem refworth_any (v : Vr.V) (w : World) (hv : Vr.InV v) :
    Calls Tryd.prog 41 #[v.inner] w fun e w' => e = .returned (.int .i64 (Vr.worth v)) ∧ Below w.heap.size w w' := by
  have ht := hv.t
  clear hv
  obtain ⟨s0, kind, num, text⟩ := v
  unfold Vr.V.inner
  dsimp only at ht ⊢
  obtain ⟨z, hz⟩ : ∃ z : Nat, z = text.size := ⟨_, rfl⟩
  have HW : Hid (Vr.worth ⟨s0, kind, num, text⟩ = if (if kind = 1 then decide (z = 0) else if kind = 2 then decide (z = 0) && (decide (num = 0) || decide (num = 1)) else if kind = 3 then decide (num = 0) else false) = false then 110 else if 60 < z then 105 else 0) := by rw [hz]; rfl
  generalize Vr.worth ⟨s0, kind, num, text⟩ = r at *
  have hzI : (text.size : Int) = (z : Int) := by rw [hz]
  have HZ := Lib.hid hzI
  rw [← hz] at ht
  clear hz hzI
  have hk : kind = 1 ∨ kind = 2 ∨ kind = 3 ∨ (¬ kind = 1 ∧ ¬ kind = 2 ∧ ¬ kind = 3) := by omega
  rcases hk with rfl | rfl | rfl | ⟨q1, q2, q3⟩
  all_goals
    go_enter Tryd.func41, Tryd.ntmps41
    go_wp2
  all_goals
    go_ret
    refine ⟨congrArg (fun x => Ending.returned (Value.int .i64 x)) (?_ : _ = r), (Below.refl _ _).alloc (Nat.le_refl _) _⟩
    rw [HW.out]
    have hz := HZ.out
    clear HW HZ
    (repeat' split) <;> first | omega | (simp_all; done) | (simp_all; omega)
end Go.Proofs.YthkgjdhbibialaaDoor
