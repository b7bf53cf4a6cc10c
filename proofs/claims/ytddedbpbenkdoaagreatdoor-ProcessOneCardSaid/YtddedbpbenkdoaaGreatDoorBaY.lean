/- The program's small questions of a node. -/
import Derived.Test.YtddedbpbenkdoaaGreatDoorNo2Y
import Derived.Test.YtddedbpbenkdoaaGreatDoorUaY
namespace Go.Proofs.YtddedbpbenkdoaaGreatDoor
open Go.RowKit

namespace Pr
theorem nm_any (s : ByteArray) (w : World) (hs : s.size ≤ 9223372036854775807) :
    Calls Tryz.prog 18 #[.string s] w fun e w' => e = .returned (.bool (nm s)) ∧ w = w' := by
  have := name_any s w hs
  rwa [show Vr.name s.data.toList = nm s from by unfold nm; rw [ByteArray.toList_eq]] at this
theorem emp_iff (s : ByteArray) : s.toList.isEmpty = (s.size == 0) := by
  rw [ByteArray.toList_eq, Bool.eq_iff_iff, List.isEmpty_iff_length_eq_zero, beq_iff_eq]
  simp
def fit (s : ByteArray) (b : Bool) : Bool := if b = true then nm s else s.size == 0
set_option maxHeartbeats 800000 in
theorem fits_any (s : ByteArray) (b : Bool) (w : World) (hs : s.size ≤ 9223372036854775807) :
    Calls Tryz.prog 55 #[.string s, .bool b] w fun e w' => e = .returned (.bool (fit s b)) ∧ w = w' := by
  unfold fit
  cases b with
  | true =>
    have HN := Lib.hid (nm_any s w hs)
    rw [if_pos rfl]
    go_enter Tryz.func55, Tryz.ntmps55
    go_wp2_with fail
    refine HN.out.mono ?_
    rintro e wy ⟨rfl, rfl⟩
    go_wp2
    go_ret
    exact ⟨rfl, rfl⟩
  | false =>
    rw [if_neg (by decide)]
    go_enter Tryz.func55, Tryz.ntmps55
    go_wp2
    go_ret
    exact ⟨ret_bool (emp_iff s), rfl⟩
theorem nat_beq (a k : Nat) : ((a : Int) == (k : Int)) = (a == k) := by
  rw [Bool.eq_iff_iff, beq_iff_eq, beq_iff_eq]; omega
set_option maxHeartbeats 800000 in
theorem chooses_any (x : Nd) (w : World) :
    Calls Tryz.prog 36 #[x.val] w fun e w' => e = .returned (.bool (x.kind == 5 || x.kind == 7)) ∧ Below w.heap.size w w' := by
  have HX := Lib.hid (Cel.lit w #[.int .i64 x.kind, .string x.topic, .int .i64 x.prio, .int .i64 x.retr, .int .i64 x.dflt, .string x.code, .string x.caught, .int .i64 x.tgt] 36)
  have HB := Lib.hid ((Below.refl w.heap.size w).alloc (Nat.le_refl _) (.cells #[.int .i64 x.kind, .string x.topic, .int .i64 x.prio, .int .i64 x.retr, .int .i64 x.dflt, .string x.code, .string x.caught, .int .i64 x.tgt] 36))
  obtain ⟨R, hR⟩ : ∃ R, (x.kind == 5 || x.kind == 7) = R := ⟨_, rfl⟩
  rw [hR]
  unfold Nd.val
  go_enter Tryz.func36, Tryz.ntmps36
  go_upto_region 1 with (fail)
  generalize w.alloc _ = wb at *
  obtain ⟨x0, x1, x2, x3, x4, x5, x6, x7⟩ := nd_facts HX.out
  generalize x.kind = kd at *
  go_wp2
  all_goals
    go_ret
    refine ⟨ret_bool ?_, HB.out⟩
    clear HX HB x0 x1 x2 x3 x4 x5 x6 x7
    subst hR
    first | rfl | (simp_all; done) | (simp_all; omega)
/-- What joined asks. -/
def jn (kd : Int) (a b cs : Nat) : Bool :=
  if kd = 1 then a == 0 && b == 1
  else if kd = 2 ∨ kd = 3 then decide (0 < a) && b == 0
  else if kd = 4 then decide (0 < a) && (cs == 0 && b == 1 || !(cs == 0) && b == 2)
  else if kd = 5 ∨ kd = 6 ∨ kd = 7 then decide (0 < a) && decide (0 < b)
  else false
theorem shaped_jn (kd : Int) (i a b cs : Nat) : shapedR kd i a b cs = (!((kd == 1) != (i == 0)) && jn kd a b cs) := by
  unfold shapedR jn
  by_cases h1 : kd = 1
  · subst h1
    by_cases hi : i = 0
    · subst hi; simp
    · simp [hi]
  · have e1 : (kd == 1) = false := by rw [beq_eq_false_iff_ne]; exact h1
    rw [e1]
    by_cases hi : i = 0
    · subst hi; simp
    · have e2 : (i == 0) = false := by rw [beq_eq_false_iff_ne]; exact hi
      rw [e2]
      simp only [h1, if_false]
      by_cases h2 : kd = 2 ∨ kd = 3
      · simp [h2]
      · simp only [h2, if_false]
        by_cases h4 : kd = 4
        · simp only [h4, if_true]
          by_cases hc : cs = 0
          · subst hc; simp
          · have e3 : (cs == 0) = false := by rw [beq_eq_false_iff_ne]; exact hc
            have e4 : decide (0 < cs) = true := decide_eq_true (by omega)
            rw [e3, e4]
            simp
        · simp [h4]
set_option maxHeartbeats 3200000 in
theorem joined_any (x : Nd) (a b : Nat) (w : World) :
    Calls Tryz.prog 39 #[x.val, .int .i64 a, .int .i64 b] w fun e w' => e = .returned (.bool (jn x.kind a b x.caught.size)) ∧ Below w.heap.size w w' := by
  have HX := Lib.hid (Cel.lit w #[.int .i64 x.kind, .string x.topic, .int .i64 x.prio, .int .i64 x.retr, .int .i64 x.dflt, .string x.code, .string x.caught, .int .i64 x.tgt] 36)
  have HB := Lib.hid ((Below.refl w.heap.size w).alloc (Nat.le_refl _) (.cells #[.int .i64 x.kind, .string x.topic, .int .i64 x.prio, .int .i64 x.retr, .int .i64 x.dflt, .string x.code, .string x.caught, .int .i64 x.tgt] 36))
  obtain ⟨R, hR⟩ : ∃ R, (jn x.kind a b x.caught.size) = R := ⟨_, rfl⟩
  rw [hR]
  unfold Nd.val
  go_enter Tryz.func39, Tryz.ntmps39
  go_upto_region 1 with (fail)
  generalize w.alloc _ = wb at *
  obtain ⟨x0, x1, x2, x3, x4, x5, x6, x7⟩ := nd_facts HX.out
  obtain ⟨cz, hcz⟩ : ∃ cz, x.caught.toList.isEmpty = cz := ⟨_, rfl⟩
  have hz := emp_iff x.caught
  rw [hcz] at hz
  generalize x.kind = kd at *
  generalize x.caught.size = cs at *
  generalize x.caught = ct at *
  by_cases h1 : kd = 1
  · subst h1
    by_cases ha : a = 0
    · subst ha
      obtain rfl : ((b : Int) == 1) = R := by rw [show ((b : Int) == 1) = (b == 1) from nat_beq b 1, ← hR]; unfold jn; simp
      clear hR
      go_wp2
      all_goals
        go_ret
        exact ⟨rfl, HB.out⟩
    · have haB : ((a : Int) == 0) = false := by rw [beq_eq_false_iff_ne]; omega
      obtain rfl : false = R := by rw [← hR]; unfold jn; simp [ha]
      clear hR
      go_wp2
      all_goals
        go_ret
        exact ⟨rfl, HB.out⟩
  have e1 : (kd == 1) = false := by rw [beq_eq_false_iff_ne]; exact h1
  by_cases h2 : kd = 2
  · subst h2
    by_cases ha : 0 < a
    · have haI : (a : Int) > 0 := by omega
      have haP : 0 < a := ha
      clear ha
      obtain rfl : ((b : Int) == 0) = R := by rw [show ((b : Int) == 0) = (b == 0) from nat_beq b 0, ← hR]; unfold jn; simp [haP]
      clear hR
      go_wp2
      all_goals
        go_ret
        exact ⟨rfl, HB.out⟩
    · obtain rfl : a = 0 := by omega
      have haZ : ¬ ((0 : Nat) : Int) > 0 := by decide
      obtain rfl : false = R := by rw [← hR]; unfold jn; simp
      clear hR
      go_wp2
      all_goals
        go_ret
        exact ⟨rfl, HB.out⟩
  have e2 : (kd == 2) = false := by rw [beq_eq_false_iff_ne]; exact h2
  by_cases h3 : kd = 3
  · subst h3
    by_cases ha : 0 < a
    · have haI : (a : Int) > 0 := by omega
      have haP : 0 < a := ha
      clear ha
      obtain rfl : ((b : Int) == 0) = R := by rw [show ((b : Int) == 0) = (b == 0) from nat_beq b 0, ← hR]; unfold jn; simp [haP]
      clear hR
      go_wp2
      all_goals
        go_ret
        exact ⟨rfl, HB.out⟩
    · obtain rfl : a = 0 := by omega
      have haZ : ¬ ((0 : Nat) : Int) > 0 := by decide
      obtain rfl : false = R := by rw [← hR]; unfold jn; simp
      clear hR
      go_wp2
      all_goals
        go_ret
        exact ⟨rfl, HB.out⟩
  have e3 : (kd == 3) = false := by rw [beq_eq_false_iff_ne]; exact h3
  by_cases h4 : kd = 4
  · subst h4
    by_cases ha : 0 < a
    · have haI : (a : Int) > 0 := by omega
      have haP : 0 < a := ha
      clear ha
      by_cases hc : cs = 0
      · subst hc
        replace hz : cz = true := hz
        subst hz
        obtain rfl : ((b : Int) == 1) = R := by rw [show ((b : Int) == 1) = (b == 1) from nat_beq b 1, ← hR]; unfold jn; simp [haP]
        clear hR
        go_wp2
        all_goals
          go_ret
          exact ⟨rfl, HB.out⟩
      · have hcB : (cs == 0) = false := by rw [beq_eq_false_iff_ne]; exact hc
        rw [hcB] at hz
        subst hz
        obtain rfl : ((b : Int) == 2) = R := by rw [show ((b : Int) == 2) = (b == 2) from nat_beq b 2, ← hR]; unfold jn; simp [haP, hcB]
        clear hR
        go_wp2
        all_goals
          go_ret
          exact ⟨rfl, HB.out⟩
    · obtain rfl : a = 0 := by omega
      have haZ : ¬ ((0 : Nat) : Int) > 0 := by decide
      obtain rfl : false = R := by rw [← hR]; unfold jn; simp
      clear hR
      go_wp2
      all_goals
        go_ret
        exact ⟨rfl, HB.out⟩
  have e4 : (kd == 4) = false := by rw [beq_eq_false_iff_ne]; exact h4
  by_cases h5 : kd = 5
  · subst h5
    by_cases ha : 0 < a
    · have haI : (a : Int) > 0 := by omega
      have haP : 0 < a := ha
      clear ha
      by_cases hb : 0 < b
      · have hbI : (b : Int) > 0 := by omega
        obtain rfl : true = R := by rw [← hR]; unfold jn; simp [haP, hb]
        clear hR
        go_wp2
        all_goals
          go_ret
          exact ⟨rfl, HB.out⟩
      · have hbI : ¬ (b : Int) > 0 := by omega
        obtain rfl : false = R := by rw [← hR]; unfold jn; simp [haP, hb]
        clear hR
        go_wp2
        all_goals
          go_ret
          exact ⟨rfl, HB.out⟩
    · obtain rfl : a = 0 := by omega
      have haZ : ¬ ((0 : Nat) : Int) > 0 := by decide
      obtain rfl : false = R := by rw [← hR]; unfold jn; simp
      clear hR
      go_wp2
      all_goals
        go_ret
        exact ⟨rfl, HB.out⟩
  have e5 : (kd == 5) = false := by rw [beq_eq_false_iff_ne]; exact h5
  by_cases h6 : kd = 6
  · subst h6
    by_cases ha : 0 < a
    · have haI : (a : Int) > 0 := by omega
      have haP : 0 < a := ha
      clear ha
      by_cases hb : 0 < b
      · have hbI : (b : Int) > 0 := by omega
        obtain rfl : true = R := by rw [← hR]; unfold jn; simp [haP, hb]
        clear hR
        go_wp2
        all_goals
          go_ret
          exact ⟨rfl, HB.out⟩
      · have hbI : ¬ (b : Int) > 0 := by omega
        obtain rfl : false = R := by rw [← hR]; unfold jn; simp [haP, hb]
        clear hR
        go_wp2
        all_goals
          go_ret
          exact ⟨rfl, HB.out⟩
    · obtain rfl : a = 0 := by omega
      have haZ : ¬ ((0 : Nat) : Int) > 0 := by decide
      obtain rfl : false = R := by rw [← hR]; unfold jn; simp
      clear hR
      go_wp2
      all_goals
        go_ret
        exact ⟨rfl, HB.out⟩
  have e6 : (kd == 6) = false := by rw [beq_eq_false_iff_ne]; exact h6
  by_cases h7 : kd = 7
  · subst h7
    by_cases ha : 0 < a
    · have haI : (a : Int) > 0 := by omega
      have haP : 0 < a := ha
      clear ha
      by_cases hb : 0 < b
      · have hbI : (b : Int) > 0 := by omega
        obtain rfl : true = R := by rw [← hR]; unfold jn; simp [haP, hb]
        clear hR
        go_wp2
        all_goals
          go_ret
          exact ⟨rfl, HB.out⟩
      · have hbI : ¬ (b : Int) > 0 := by omega
        obtain rfl : false = R := by rw [← hR]; unfold jn; simp [haP, hb]
        clear hR
        go_wp2
        all_goals
          go_ret
          exact ⟨rfl, HB.out⟩
    · obtain rfl : a = 0 := by omega
      have haZ : ¬ ((0 : Nat) : Int) > 0 := by decide
      obtain rfl : false = R := by rw [← hR]; unfold jn; simp
      clear hR
      go_wp2
      all_goals
        go_ret
        exact ⟨rfl, HB.out⟩
  have e7 : (kd == 7) = false := by rw [beq_eq_false_iff_ne]; exact h7
  obtain rfl : false = R := by rw [← hR]; unfold jn; simp [h1, h2, h3, h4, h5, h6, h7]
  clear hR
  go_wp2
  all_goals
    go_ret
    exact ⟨rfl, HB.out⟩
/-- What numbered asks. -/
def nb7 (kd pr rt : Int) : Bool := if kd = 4 then within pr 0 9 && within rt 1 9 else pr == 0 && rt == 0
theorem c107_nb (x : Nd) : c107 x = !nb7 x.kind x.prio x.retr := by
  unfold c107 nb7
  by_cases h4 : x.kind = 4
  · have e : (x.kind == 4) = true := by rw [h4]; rfl
    rw [e, if_pos h4]
    simp
  · have e : (x.kind == 4) = false := by rw [beq_eq_false_iff_ne]; exact h4
    rw [e, if_neg h4]
    simp
set_option maxHeartbeats 3200000 in
theorem numbered_any (x : Nd) (w : World) :
    Calls Tryz.prog 42 #[x.val] w fun e w' => e = .returned (.bool (nb7 x.kind x.prio x.retr)) ∧ Below w.heap.size w w' := by
  have HX := Lib.hid (Cel.lit w #[.int .i64 x.kind, .string x.topic, .int .i64 x.prio, .int .i64 x.retr, .int .i64 x.dflt, .string x.code, .string x.caught, .int .i64 x.tgt] 36)
  have HB := Lib.hid ((Below.refl w.heap.size w).alloc (Nat.le_refl _) (.cells #[.int .i64 x.kind, .string x.topic, .int .i64 x.prio, .int .i64 x.retr, .int .i64 x.dflt, .string x.code, .string x.caught, .int .i64 x.tgt] 36))
  obtain ⟨R, hR⟩ : ∃ R, (nb7 x.kind x.prio x.retr) = R := ⟨_, rfl⟩
  rw [hR]
  unfold Nd.val
  go_enter Tryz.func42, Tryz.ntmps42
  go_upto_region 1 with (fail)
  generalize w.alloc _ = wb at *
  obtain ⟨x0, x1, x2, x3, x4, x5, x6, x7⟩ := nd_facts HX.out
  generalize x.kind = kd at *
  generalize x.prio = pr at *
  generalize x.retr = rt at *
  by_cases h4 : kd = 4
  · subst h4
    by_cases c1 : 0 ≤ pr
    · by_cases c2 : pr ≤ 9
      · by_cases c3 : 1 ≤ rt
        · by_cases c4 : rt ≤ 9
          · obtain rfl : true = R := by rw [← hR]; unfold nb7; simp [within, c1, c2, c3, c4]
            clear hR
            go_wp2
            all_goals
              go_ret
              exact ⟨rfl, HB.out⟩
          · obtain rfl : false = R := by rw [← hR]; unfold nb7; simp [within, c1, c2, c3, c4]
            clear hR
            go_wp2
            all_goals
              go_ret
              exact ⟨rfl, HB.out⟩
        · obtain rfl : false = R := by rw [← hR]; unfold nb7; simp [within, c1, c2, c3]
          clear hR
          go_wp2
          all_goals
            go_ret
            exact ⟨rfl, HB.out⟩
      · obtain rfl : false = R := by rw [← hR]; unfold nb7; simp [within, c1, c2]
        clear hR
        go_wp2
        all_goals
          go_ret
          exact ⟨rfl, HB.out⟩
    · obtain rfl : false = R := by rw [← hR]; unfold nb7; simp [within, c1]
      clear hR
      go_wp2
      all_goals
        go_ret
        exact ⟨rfl, HB.out⟩
  have e4 : (kd == 4) = false := by rw [beq_eq_false_iff_ne]; exact h4
  by_cases c1 : pr = 0
  · subst c1
    obtain rfl : (rt == 0) = R := by rw [← hR]; unfold nb7; simp [h4]
    clear hR
    go_wp2
    all_goals
      go_ret
      exact ⟨rfl, HB.out⟩
  · have c1B : (pr == 0) = false := by rw [beq_eq_false_iff_ne]; exact c1
    obtain rfl : false = R := by rw [← hR]; unfold nb7; simp [h4, c1]
    clear hR
    go_wp2
    all_goals
      go_ret
      exact ⟨rfl, HB.out⟩
/-- What named asks. -/
def nb6 (x : Nd) : Bool := fit x.topic (x.kind == 4) && (fit x.code (x.kind == 3) && fit x.caught (x.kind == 4 && !(x.caught.size == 0)))
theorem c106_nb (x : Nd) : c106 x = !nb6 x := by
  unfold c106 nb6 fit
  have pos : ∀ s : ByteArray, decide (0 < s.size) = !(s.size == 0) := by
    intro s
    by_cases h : s.size = 0
    · rw [h]; rfl
    · have h1 : 0 < s.size := by omega
      have h2 : (s.size == 0) = false := by rw [beq_eq_false_iff_ne]; exact h
      rw [decide_eq_true h1, h2]; rfl
  rw [pos, pos, pos]
  generalize (x.kind == 4) = k4
  generalize (x.kind == 3) = k3
  generalize (x.topic.size == 0) = z1
  generalize (x.code.size == 0) = z2
  generalize (x.caught.size == 0) = z3
  generalize nm x.topic = m1
  generalize nm x.code = m2
  generalize nm x.caught = m3
  cases k4 <;> cases k3 <;> cases z1 <;> cases z2 <;> cases z3 <;> cases m1 <;> cases m2 <;> cases m3 <;> rfl
set_option maxHeartbeats 3200000 in
theorem named_any (x : Nd) (w : World) (hs : Small x) :
    Calls Tryz.prog 41 #[x.val] w fun e w' => e = .returned (.bool (nb6 x)) ∧ Below w.heap.size w w' := by
  have HX := Lib.hid (Cel.lit w #[.int .i64 x.kind, .string x.topic, .int .i64 x.prio, .int .i64 x.retr, .int .i64 x.dflt, .string x.code, .string x.caught, .int .i64 x.tgt] 36)
  have HB := Lib.hid ((Below.refl w.heap.size w).alloc (Nat.le_refl _) (.cells #[.int .i64 x.kind, .string x.topic, .int .i64 x.prio, .int .i64 x.retr, .int .i64 x.dflt, .string x.code, .string x.caught, .int .i64 x.tgt] 36))
  obtain ⟨R, hR⟩ : ∃ R, (nb6 x) = R := ⟨_, rfl⟩
  rw [hR]
  unfold Nd.val
  go_enter Tryz.func41, Tryz.ntmps41
  go_upto_region 1 with (fail)
  generalize w.alloc _ = wb at *
  obtain ⟨x0, x1, x2, x3, x4, x5, x6, x7⟩ := nd_facts HX.out
  obtain ⟨hs1, hs2, hs3⟩ := hs
  obtain ⟨f1, hf1⟩ : ∃ f, fit x.topic (x.kind == 4) = f := ⟨_, rfl⟩
  obtain ⟨f2, hf2⟩ : ∃ f, fit x.code (x.kind == 3) = f := ⟨_, rfl⟩
  obtain ⟨f3, hf3⟩ : ∃ f, fit x.caught (x.kind == 4 && !(x.caught.size == 0)) = f := ⟨_, rfl⟩
  have F1 := Lib.hid (fun W => fits_any x.topic (x.kind == 4) W hs1)
  have F2 := Lib.hid (fun W => fits_any x.code (x.kind == 3) W hs2)
  have F3 := Lib.hid (fun W => fits_any x.caught (x.kind == 4 && !(x.caught.size == 0)) W hs3)
  unfold nb6 at hR
  rw [hf1, hf2, hf3] at hR
  rw [hf1] at F1
  rw [hf2] at F2
  rw [hf3] at F3
  rw [← emp_iff] at F3
  clear hf1 hf2 hf3 hs1 hs2 hs3
  generalize x.kind = kd at *
  generalize x.caught = ct at *
  obtain ⟨z, hz⟩ : ∃ z, ct.toList.isEmpty = z := ⟨_, rfl⟩
  rw [hz] at F3
  obtain ⟨wk, hwk⟩ : ∃ wk, (kd == 4) = wk := ⟨_, rfl⟩
  obtain ⟨w3, hw3⟩ : ∃ w3, (kd == 3) = w3 := ⟨_, rfl⟩
  rw [hwk] at F1 F3
  rw [hw3] at F2
  go_upto_region 2 with (fail)
  clear hwk
  go_wp2_with fail
  refine (F1.out _).mono ?_
  rintro e wy ⟨rfl, rfl⟩
  cases f1 with
  | false =>
    obtain rfl : false = R := hR
    go_wp2
    go_ret
    exact ⟨rfl, HB.out⟩
  | true =>
    go_wp2_with fail
    clear hw3
    refine (F2.out _).mono ?_
    rintro e wy ⟨rfl, rfl⟩
    cases f2 with
    | false =>
      obtain rfl : false = R := hR
      go_wp2
      go_ret
      exact ⟨rfl, HB.out⟩
    | true =>
      obtain rfl : f3 = R := by rw [← hR]; simp
      clear hR
      cases wk with
      | false =>
        go_wp2_with fail
        refine (F3.out _).mono ?_
        rintro e wy ⟨rfl, rfl⟩
        go_wp2
        go_ret
        exact ⟨rfl, HB.out⟩
      | true =>
        rw [Bool.true_and] at F3
        go_wp2_with fail
        refine (F3.out _).mono ?_
        rintro e wy ⟨rfl, rfl⟩
        go_wp2
        go_ret
        exact ⟨rfl, HB.out⟩
end Pr
end Go.Proofs.YtddedbpbenkdoaaGreatDoor
