/- slices.Contains of numbers; the program's led. -/
import Derived.Test.YtjababmmcejgdaaGreatDoorBaY
namespace Go.Proofs.YtjababmmcejgdaaGreatDoor
open Go.RowKit

namespace Pr
set_option maxHeartbeats 800000 in
theorem index_any (A : Option Addr) (n c : Nat) (l : List Int) (B : Nat) (x : Int) (w : World) (hr : KRow iκ w B A n l) (hn : n ≤ 100000) :
    Calls Tryz.prog 99 #[.slice A n c, .int .i64 x] w fun e w' => (∃ k : Int, e = .returned (.int .i64 k) ∧ decide (k ≥ 0) = l.any fun y => y == x) ∧ w = w' := by
  have hl := hr.len (by decide)
  have HR := Lib.hid hr
  clear hr
  go_enter Tryz.func99, Tryz.ntmps99
  go_wp2_with fail
  go_loopw [8] (fun i wr => ∃ j : Nat, j ≤ n ∧ i = .int .i64 j ∧ (∀ t, t < j → l[t]! ≠ x) ∧ w = wr) (fun i _ => n - (intOf i).toNat)
  case atStart => exact ⟨0, Nat.zero_le _, rfl, fun t h => absurd h (Nat.not_lt_zero t), rfl⟩
  case round =>
    obtain ⟨j, hj, rfl, hall, rfl⟩ := hrel
    have hj0 : (0 : Int) ≤ (j : Int) := by omega
    by_cases hlt : j < n
    · obtain ⟨b, off, rfl, _, _⟩ := HR.out.2 (by omega)
      have c1 := iκ_cells HR.out hlt
      have hI : (j : Int) < (n : Int) := by omega
      by_cases hx : l[j]! = x
      · have hB : (l[j]! == x) = true := beq_iff_eq.2 hx
        have hany : (l.any fun y => y == x) = true := by
          rw [List.any_eq_true]
          exact ⟨l[j]!, by rw [getElem!_pos l j (by omega)]; exact List.getElem_mem _, hB⟩
        have HA := Lib.hid hany
        rw [hx] at c1
        clear hany hall hx hB
        go_wp2
        go_ret
        exact ⟨⟨j, rfl, by rw [HA.out]; exact decide_eq_true (by omega)⟩, rfl⟩
      · have hB : (x == l[j]!) = false := by rw [beq_eq_false_iff_ne]; exact fun e => hx e.symm
        have HALL := Lib.hid hall
        have HX := Lib.hid hx
        obtain ⟨y, hy⟩ : ∃ y, l[j]! = y := ⟨_, rfl⟩
        rw [hy] at hB c1
        clear hall hx hy
        go_wp2_with fail
        go_roundw
        case measure => simp [intOf]; omega
        case rel =>
          refine ⟨j + 1, by omega, by go_num, fun t ht => ?_, by first | trivial | rfl⟩
          by_cases e : t = j
          · subst e; exact HX.out
          · exact HALL.out t (by omega)
    · obtain rfl : j = n := by omega
      have hI : ¬ (j : Int) < (j : Int) := by omega
      have hany : (l.any fun y => y == x) = false := by
        rw [List.any_eq_false]
        intro y hy
        obtain ⟨t, ht, rfl⟩ := List.getElem_of_mem hy
        have := hall t (by omega)
        rw [getElem!_pos l t ht] at this
        simpa using this
      have HA := Lib.hid hany
      clear hany hall
      go_wp2
      go_ret
      exact ⟨⟨-1, rfl, by rw [HA.out]; rfl⟩, rfl⟩
set_option maxHeartbeats 800000 in
theorem contains_any (A : Option Addr) (n c : Nat) (l : List Nat) (B : Nat) (x : Int) (w : World) (hr : KRow iκ w B A n (l.map Int.ofNat)) (hn : n ≤ 100000) :
    Calls Tryz.prog 82 #[.slice A n c, .int .i64 x] w fun e w' => e = .returned (.bool (has l x)) ∧ w = w' := by
  have HI := Lib.hid (index_any A n c (l.map Int.ofNat) B x w hr hn)
  rw [has_map] at HI
  clear hr
  go_enter Tryz.func82, Tryz.ntmps82
  go_wp2_with fail
  refine HI.out.mono ?_
  rintro e wy ⟨⟨k, rfl, hk⟩, rfl⟩
  have HK := Lib.hid hk
  clear hk
  go_wp2
  all_goals
    go_ret
    refine ⟨ret_bool ?_, rfl⟩
    rw [← HK.out]
/-- What led asks. -/
def nb2 (x : Nd) (o : List Nat) : Bool := if (!(x.dflt == -1) && !((x.kind == 5 || x.kind == 7) && has o x.dflt)) = true then false else if (x.caught.size == 0) = true then x.tgt == -1 else has o x.tgt
theorem c102_nb (x : Nd) (o : List Nat) : c102 x o = !nb2 x o := by
  unfold c102 nb2
  have pos : decide (0 < x.caught.size) = !(x.caught.size == 0) := by
    by_cases h : x.caught.size = 0
    · rw [h]; rfl
    · have h1 : 0 < x.caught.size := by omega
      have h2 : (x.caught.size == 0) = false := by rw [beq_eq_false_iff_ne]; exact h
      rw [decide_eq_true h1, h2]; rfl
  rw [pos]
  generalize (x.kind == 5 || x.kind == 7) = g
  generalize has o x.dflt = h1
  generalize has o x.tgt = h2
  generalize (x.dflt == -1) = d
  generalize (x.tgt == -1) = t
  generalize (x.caught.size == 0) = z
  cases g <;> cases h1 <;> cases h2 <;> cases d <;> cases t <;> cases z <;> rfl
set_option maxHeartbeats 1600000 in
theorem led_any (x : Nd) (A : Option Addr) (n c : Nat) (o : List Nat) (w : World) (hr : KRow iκ w w.heap.size A n (o.map Int.ofNat)) (hn : n ≤ 100000) :
    Calls Tryz.prog 63 #[x.val, .slice A n c] w fun e w' => e = .returned (.bool (nb2 x o)) ∧ Below w.heap.size w w' := by
  have HX := Lib.hid (Cel.lit w #[.int .i64 x.kind, .string x.topic, .int .i64 x.prio, .int .i64 x.retr, .int .i64 x.dflt, .string x.code, .string x.caught, .int .i64 x.tgt] 36)
  have HB := Lib.hid ((Below.refl w.heap.size w).alloc (Nat.le_refl _) (.cells #[.int .i64 x.kind, .string x.topic, .int .i64 x.prio, .int .i64 x.retr, .int .i64 x.dflt, .string x.code, .string x.caught, .int .i64 x.tgt] 36))
  obtain ⟨R, hR⟩ : ∃ R, nb2 x o = R := ⟨_, rfl⟩
  rw [hR]
  have HRow := Lib.hid hr
  clear hr
  unfold nb2 at hR
  have HC := Lib.hid (fun W => chooses_any x W)
  obtain ⟨g, hg⟩ : ∃ g, (x.kind == 5 || x.kind == 7) = g := ⟨_, rfl⟩
  rw [hg] at HC hR
  rw [← emp_iff] at hR
  obtain ⟨h1, hh1⟩ : ∃ h, has o x.dflt = h := ⟨_, rfl⟩
  obtain ⟨h2, hh2⟩ : ∃ h, has o x.tgt = h := ⟨_, rfl⟩
  rw [hh1, hh2] at hR
  have H1 := Lib.hid (fun W hW => contains_any A n c o w.heap.size x.dflt W (HRow.out.below (w' := W) hW (Nat.le_refl _)) hn)
  have H2 := Lib.hid (fun W hW => contains_any A n c o w.heap.size x.tgt W (HRow.out.below (w' := W) hW (Nat.le_refl _)) hn)
  rw [hh1] at H1
  rw [hh2] at H2
  clear hg hh1 hh2
  obtain ⟨z, hz⟩ : ∃ z, x.caught.toList.isEmpty = z := ⟨_, rfl⟩
  rw [hz] at hR
  have HZ := Lib.hid hz
  clear hz
  unfold Nd.val at HC ⊢
  go_enter Tryz.func63, Tryz.ntmps63
  go_upto_region 1 with (fail)
  generalize w.alloc _ = wb at *
  obtain ⟨x0, x1, x2, x3, x4, x5, x6, x7⟩ := nd_facts HX.out
  by_cases hd : x.dflt = -1
  · have hdB : (x.dflt == -1) = true := beq_iff_eq.2 hd
    rw [hdB] at hR
    simp only [Bool.not_true, Bool.false_and, Bool.false_eq_true, if_false] at hR
    clear hdB
    have hz := HZ.out
    cases z with
    | true =>
      obtain rfl : (x.tgt == -1) = R := by rw [← hR]; rfl
      clear hR
      go_wp2
      all_goals
        go_ret
        exact ⟨rfl, HB.out⟩
    | false =>
      obtain rfl : h2 = R := by rw [← hR]; rfl
      clear hR
      go_wp2_with fail
      refine (H2.out _ HB.out).mono ?_
      rintro e wy ⟨rfl, rfl⟩
      go_wp2
      go_ret
      exact ⟨rfl, HB.out⟩
  · have hdB : (x.dflt == -1) = false := by rw [beq_eq_false_iff_ne]; exact hd
    rw [hdB] at hR
    go_wp2_with fail
    refine (HC.out _).mono ?_
    rintro e w2 ⟨rfl, hb2⟩
    have HX2 := Lib.hid (HX.out.below hb2 (Nat.le_refl _))
    have HB2 := Lib.hid (HB.out.trans (hb2.mono HB.out.size))
    clear hb2 x0 x1 x2 x3 x4 x5 x6 x7
    obtain ⟨x0, x1, x2, x3, x4, x5, x6, x7⟩ := nd_facts HX2.out
    cases g with
    | false =>
      obtain rfl : false = R := by rw [← hR]; rfl
      clear hR
      go_wp2
      go_ret
      exact ⟨rfl, HB2.out⟩
    | true =>
      go_wp2_with fail
      refine (H1.out _ HB2.out).mono ?_
      rintro e wy ⟨rfl, rfl⟩
      cases h1 with
      | false =>
        obtain rfl : false = R := by rw [← hR]; rfl
        clear hR
        go_wp2
        go_ret
        exact ⟨rfl, HB2.out⟩
      | true =>
        simp only [Bool.not_false, Bool.not_true, Bool.and_self, Bool.and_false, Bool.false_eq_true, if_false] at hR
        have hz := HZ.out
        cases z with
        | true =>
          obtain rfl : (x.tgt == -1) = R := by rw [← hR]; rfl
          clear hR
          go_wp2
          all_goals
            go_ret
            exact ⟨rfl, HB2.out⟩
        | false =>
          obtain rfl : h2 = R := by rw [← hR]; rfl
          clear hR
          go_wp2_with fail
          refine (H2.out _ HB2.out).mono ?_
          rintro e wy ⟨rfl, rfl⟩
          go_wp2
          go_ret
          exact ⟨rfl, HB2.out⟩
end Pr
end Go.Proofs.YtjababmmcejgdaaGreatDoor
