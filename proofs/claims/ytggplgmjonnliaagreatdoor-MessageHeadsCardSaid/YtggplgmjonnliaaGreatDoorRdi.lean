/- Walks of package num: Int of a Reader. -/
import Derived.Test.YtggplgmjonnliaaGreatDoorRn
namespace Go.Proofs.YtggplgmjonnliaaGreatDoor
open Go.RowKit

theorem numAt_lt : ∀ (l : List UInt8) (k acc : Nat), acc < 128 ^ k → k ≤ 9 → (numAt k acc l).1 < 18446744073709551616
  | [], k, acc, _, _ => by simp [numAt]
  | x :: t, k, acc, ha, hk => by
    have hx := x.toNat_lt
    by_cases hz : (k = 9 ∧ 1 < x.toNat) ∨ (0 < k ∧ x.toNat = 0)
    · rw [numAt_bad hz]
      show 0 < _
      omega
    · by_cases h : x.toNat < 128
      · rw [numAt_end hz h]
        show acc + x.toNat * 128 ^ k < _
        by_cases h9 : k = 9
        · subst h9
          have : x.toNat ≤ 1 := by omega
          have := Nat.mul_le_mul_right (128 ^ 9) this
          omega
        · have h2 : 128 ^ k ≤ 128 ^ 8 := Nat.pow_le_pow_right (by decide) (by omega)
          have := Nat.mul_le_mul (show x.toNat ≤ 127 by omega) h2
          omega
      · rw [numAt_on hz h]
        exact numAt_lt t (k + 1) _ (acc_step ha) (by omega)

section
variable {E : Int → Option Addr} {W w : World} {p : Nat} {l : List UInt8} {e : Int}

set_option maxHeartbeats 400000 in
theorem number_err (he : e ≠ 0) (hE : RdErrs W E) (hb : Below W.heap.size W w) (hR : RdC E w p l e) :
    Calls Tryz.prog 46 #[.pointer (some ⟨p, 0, none⟩)] w fun x w' => x = .returned (.int .u64 0) ∧ RdC E w' p l e ∧ w.grownBy w' (some p) := by
  go_enter Tryz.func46, Tryz.ntmps46
  go_wp2_with fail
  go_loopw [3, 6] (fun u i wr => i = .int .i64 0 ∧ wr = w) (fun _ i _ => 10 - (intOf i).toNat)
  case atStart => exact ⟨rfl, rfl⟩
  case round =>
    obtain ⟨rfl, hw⟩ := hrel
    subst hw
    go_wp2_with fail
    refine (next_err he hE hb hR).mono ?_
    rintro x w1 ⟨rfl, hR1, hg1⟩
    obtain ⟨A, n, c, ev, h0, h1, f0, f1, hr, hA, hnc, hc, ha, hs⟩ := hR1.ex
    obtain ⟨a, rfl⟩ := seen_not hs he
    unfold errV at h1
    go_wp2
    go_ret
    exact ⟨rfl, hR1, hg1⟩

set_option maxHeartbeats 400000 in
theorem withSign_any (u : Nat) (w : World) (h : u < 18446744073709551616) :
    Calls Tryz.prog 45 #[.int .u64 (u : Int)] w fun e w' => e = .returned (.int .i64 (zag u)) ∧ w = w' := by
  go_enter Tryz.func45, Tryz.ntmps45
  go_wp2
  go_ret
  exact ⟨ret_int (sign_back h), rfl⟩

/-- What Int answers, what is then left, the error. -/
def intSays (lo hi : Int) (l : List UInt8) (e : Int) : Int × List UInt8 × Int :=
  if e ≠ 0 then (0, l, e) else if (numAt 0 0 l).2.2 ≠ 0 then (0, (numAt 0 0 l).2) else
    if zag (numAt 0 0 l).1 < lo ∨ hi < zag (numAt 0 0 l).1 then (0, (numAt 0 0 l).2.1, 107) else (zag (numAt 0 0 l).1, (numAt 0 0 l).2.1, 0)

theorem zag_zero : zag 0 = 0 := by decide

set_option maxHeartbeats 800000 in
theorem int_any (lo hi : Int) (hE : RdErrs W E) (hb : Below W.heap.size W w) (hp : W.heap.size ≤ p) (hR : RdC E w p l e) :
    Calls Tryz.prog 20 #[.pointer (some ⟨p, 0, none⟩), .int .i64 lo, .int .i64 hi] w fun x w' => x = .returned (.int .i64 (intSays lo hi l e).1) ∧ RdC E w' p (intSays lo hi l e).2.1 (intSays lo hi l e).2.2 ∧ w.grownBy w' (some p) := by
  have hgr : ∀ {w1 : World}, w.grownBy w1 (some p) → Below W.heap.size W w1 := fun hg => hb.grown hg hb.size (fun k hk => by cases hk; exact hp)
  by_cases he : e = 0
  · subst he
    have hlt := numAt_lt l 0 0 (by decide) (by decide)
    have hN := number_fine hE hb hp hR
    have hS : intSays lo hi l 0 = if (numAt 0 0 l).2.2 ≠ 0 then (0, (numAt 0 0 l).2) else
      if zag (numAt 0 0 l).1 < lo ∨ hi < zag (numAt 0 0 l).1 then (0, (numAt 0 0 l).2.1, 107) else (zag (numAt 0 0 l).1, (numAt 0 0 l).2.1, 0) := by simp [intSays]
    generalize intSays lo hi l 0 = R at *
    generalize numAt 0 0 l = r at *
    obtain ⟨u, l', e'⟩ := r
    simp only at *
    have HS := Lib.hid hS
    clear hS
    go_enter Tryz.func20, Tryz.ntmps20
    go_wp2_with fail
    refine hN.mono ?_
    rintro x w1 ⟨rfl, hR1, hg1⟩
    go_wp2_with fail
    refine (withSign_any u _ hlt).mono ?_
    rintro x w2 ⟨rfl, rfl⟩
    obtain ⟨A, n, c, ev, h0, h1, f0, f1, hr, hA, hnc, hc, ha, hs⟩ := hR1.ex
    by_cases he' : e' = 0
    · subst he'
      obtain rfl := seen_nil hs
      generalize zag u = z at *
      obtain ⟨a, hka, hgl⟩ := hE.at107 ((hgr hg1))
      unfold errV at hgl
      by_cases hlo : z < lo
      · obtain rfl : R = (0, l', 107) := by rw [HS.out, if_neg (by simp), if_pos (.inl hlo)]
        clear HS
        go_wp2
        go_ret
        exact ⟨rfl, RdC.set1 h0 h1 f0 f1 hr hA hnc hc ha (SeenBy.err 107 a hka (by decide)), hg1.trans (grown_setCell _ _ _)⟩
      · by_cases hhi : hi < z
        · obtain rfl : R = (0, l', 107) := by rw [HS.out, if_neg (by simp), if_pos (.inr hhi)]
          clear HS
          go_wp2
          go_ret
          exact ⟨rfl, RdC.set1 h0 h1 f0 f1 hr hA hnc hc ha (SeenBy.err 107 a hka (by decide)), hg1.trans (grown_setCell _ _ _)⟩
        · obtain rfl : R = (z, l', 0) := by rw [HS.out, if_neg (by simp), if_neg (by omega)]
          clear HS
          go_wp2
          go_ret
          exact ⟨rfl, hR1, hg1⟩
    · obtain rfl : R = (0, l', e') := by rw [HS.out, if_pos he']
      clear HS
      obtain ⟨a, rfl⟩ := seen_not hs he'
      unfold errV at h1
      go_wp2
      go_ret
      exact ⟨rfl, hR1, hg1⟩
  · rw [show intSays lo hi l e = (0, l, e) from by simp [intSays, he]]
    go_enter Tryz.func20, Tryz.ntmps20
    go_wp2_with fail
    refine (number_err he hE hb hR).mono ?_
    rintro x w1 ⟨rfl, hR1, hg1⟩
    go_wp2_with fail
    refine (withSign_any 0 _ (by decide)).mono ?_
    rintro x w2 ⟨rfl, rfl⟩
    obtain ⟨A, n, c, ev, h0, h1, f0, f1, hr, hA, hnc, hc, ha, hs⟩ := hR1.ex
    obtain ⟨a, rfl⟩ := seen_not hs he
    unfold errV at h1
    go_wp2
    go_ret
    exact ⟨rfl, hR1, hg1⟩

/-- What Flag answers. -/
def flagSays (l : List UInt8) (e : Int) : Bool × List UInt8 × Int :=
  if e ≠ 0 then (false, l, e) else match l with
    | [] => (false, [], 101)
    | x :: t => if 1 < x.toNat then (false, t, 102) else (x.toNat == 1, t, 0)

end
end Go.Proofs.YtggplgmjonnliaaGreatDoor
