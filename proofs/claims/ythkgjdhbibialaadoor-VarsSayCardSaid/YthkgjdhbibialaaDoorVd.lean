/- Walks of what is held against one another. -/
import Derived.Test.YthkgjdhbibialaaDoorVb
import Derived.StillTailTactics
namespace Go.Proofs.YthkgjdhbibialaaDoor
open Go.RowKit

section
variable {w : World}
set_option maxHeartbeats 800000 in
theorem sameValue_any (u v : Vr.V) (w : World) :
    Calls Tryd.prog 19 #[u.inner, v.inner] w fun e w' => e = .returned (.bool (Vr.sameVal u v)) ∧ Below w.heap.size w w' := by
  have he := Vr.eq_of u.text v.text
  unfold Vr.V.inner Vr.sameVal
  by_cases h0 : u.kind = v.kind
  · by_cases h1 : u.num = v.num
    · by_cases h2 : u.text = v.text
      all_goals
        simp only [h2, decide_true, decide_false] at he
        have h0' : (u.kind == v.kind) = true := by simpa using h0
        have h1' : (u.num == v.num) = true := by simpa using h1
        have D : (decide (u.kind = v.kind) && (decide (u.num = v.num) && decide (u.text = v.text))) = decide (u.text = v.text) := by simp [h0, h1]
        have HD := Lib.hid D
        clear D h0 h1
        have H2 := Lib.hid h2
        clear h2
        go_enter Tryd.func19, Tryd.ntmps19
        go_wp2
        go_ret
        refine ⟨?_, ((Below.refl _ _).alloc (Nat.le_refl _) _).alloc (by simp) _⟩
        rw [HD.out]
        have h2 := H2.out
        simp [h2]
    · have h1' : (u.num == v.num) = false := by simpa using h1
      have h0' : (u.kind == v.kind) = true := by simpa using h0
      have D : (decide (u.kind = v.kind) && (decide (u.num = v.num) && decide (u.text = v.text))) = false := by simp [h1]
      rw [D]
      clear D h0 h1 he
      go_enter Tryd.func19, Tryd.ntmps19
      go_wp2
      go_ret
      exact ⟨rfl, ((Below.refl _ _).alloc (Nat.le_refl _) _).alloc (by simp) _⟩
  · have h0' : (u.kind == v.kind) = false := by simpa using h0
    have D : (decide (u.kind = v.kind) && (decide (u.num = v.num) && decide (u.text = v.text))) = false := by simp [h0]
    rw [D]
    clear D h0 he
    go_enter Tryd.func19, Tryd.ntmps19
    go_wp2
    go_ret
    exact ⟨rfl, ((Below.refl _ _).alloc (Nat.le_refl _) _).alloc (by simp) _⟩

set_option maxHeartbeats 800000 in
theorem sameVar_any (u v : Vr.V) (w : World) :
    Calls Tryd.prog 43 #[u.val, v.val] w fun e w' => e = .returned (.bool (Vr.same u v)) ∧ Below w.heap.size w w' := by
  have he := Vr.eq_of u.name v.name
  have hS := fun W => sameValue_any u v W
  have HS : Hid (Vr.same u v = (decide (u.name = v.name) && Vr.sameVal u v)) := rfl
  generalize Vr.same u v = r at *
  generalize Vr.sameVal u v = z at *
  unfold Vr.V.inner at hS
  unfold Vr.V.val
  by_cases h0 : u.name = v.name
  · obtain rfl : r = z := by rw [HS.out]; simp [h0]
    simp only [h0, decide_true] at he
    have he' : (u.name.toList == v.name.toList) = true := by rw [h0]; exact he
    clear he HS h0
    go_enter Tryd.func43, Tryd.ntmps43
    go_wp2_with fail
    refine (hS _).mono ?_
    rintro e w2 ⟨rfl, hb2⟩
    go_wp2
    go_ret
    exact ⟨rfl, (((Below.refl _ _).alloc (Nat.le_refl _) _).alloc (by simp) _).trans (hb2.mono (by simp; omega))⟩
  · obtain rfl : r = false := by rw [HS.out]; simp [h0]
    simp only [h0, decide_false] at he
    clear HS h0
    go_enter Tryd.func43, Tryd.ntmps43
    go_wp2
    go_ret
    exact ⟨rfl, ((Below.refl _ _).alloc (Nat.le_refl _) _).alloc (by simp) _⟩

set_option maxHeartbeats 1600000 in
set_option maxRecDepth 20000 in
theorem sameVars_any (A : Option Addr) (n c : Nat) (l : List Vr.V) (C : Option Addr) (m cc : Nat) (k : List Vr.V) (hr : VRow w w.heap.size A n l) (hs : VRow w w.heap.size C m k) (hn : n ≤ 1000000) (hm : m ≤ 1000000) :
    Calls Tryd.prog 20 #[.slice A n c, .slice C m cc] w fun e w' => e = .returned (.bool (Vr.sameL l k)) ∧ Below w.heap.size w w' := by
  have HL := Lib.hid hr.len
  have HK := Lib.hid hs.len
  by_cases hnm : n = m
  · subst hnm
    have hself : ((n : Int) == (n : Int)) = true := by simp
    go_enter Tryd.func20, Tryd.ntmps20
    go_wp2_with fail
    go_loopw [5] (fun i wr => ∃ j : Nat, j ≤ n ∧ i = .int .i64 j ∧ Below w.heap.size w wr ∧ Hid (∀ t, t < j → Vr.same l[t]! k[t]! = true)) (fun i _ => n - (intOf i).toNat)
    case atStart => exact ⟨0, Nat.zero_le _, rfl, Below.refl _ _, fun t h => absurd h (Nat.not_lt_zero t)⟩
    case round =>
      obtain ⟨j, hj, rfl, hbw, hall⟩ := hrel
      by_cases hjn : j < n
      · obtain ⟨b, off, rfl, hbb, c0, c1, c2, c3⟩ := (hr.below hbw (Nat.le_refl _)).drew.at_ hjn
        obtain ⟨b', off', rfl, hbb', d0, d1, d2, d3⟩ := (hs.below hbw (Nat.le_refl _)).drew.at_ hjn
        have hS := fun W => sameVar_any l[j]! k[j]! W
        obtain ⟨z, hz⟩ : ∃ z, z = Vr.same l[j]! k[j]! := ⟨_, rfl⟩
        rw [← hz] at hS
        have HZ := Lib.hid hz.symm
        have HN := Lib.hid (@Vr.sameL_not l k j (by rw [HL.out]; exact hjn))
        clear hz
        unfold Vr.V.val at hS
        obtain ⟨u, hu⟩ : ∃ u, u = l[j]! := ⟨_, rfl⟩
        obtain ⟨v, hv⟩ : ∃ v, v = k[j]! := ⟨_, rfl⟩
        rw [← hu] at c0 c1 c2 c3 hS
        rw [← hv] at d0 d1 d2 d3 hS
        clear hu hv
        have hj0 : (0 : Int) ≤ (j : Int) := by omega
        have hjI : (j : Int) < (n : Int) := by omega
        go_wp2_with fail
        go_still_tail 8, (by kernel_rfl)
        change wpList _ _ _ _ _ wr.drew
        have hbd : Below w.heap.size w wr.drew := hbw.drew
        clear c0 c1 c2 c3 d0 d1 d2 d3
        generalize wr.drew = w2 at *
        go_wp2_with fail
        refine (hS _).mono ?_
        rintro e w3 ⟨rfl, hb3⟩
        have hb3' := hbd.trans (hb3.mono hbd.size)
        cases z with
        | true =>
          go_wp2
          go_roundw
          case measure => simp [intOf]; omega
          case rel =>
            refine ⟨j + 1, by omega, by go_num, hb3', fun t ht => ?_⟩
            by_cases e : t = j
            · subst e; exact HZ.out
            · exact hall.out t (by omega)
        | false =>
          go_wp2
          go_ret
          exact ⟨ret_bool (HN.out HZ.out).symm, hb3'⟩
      · have : j = n := by omega
        subst this
        go_wp2
        go_ret
        exact ⟨ret_bool (Vr.sameL_all (by rw [HL.out, HK.out]) (by rw [HL.out]; exact hall.out)).symm, hbw⟩
  · have hnm' : ((n : Int) == (m : Int)) = false := by rw [beq_eq_false_iff_ne]; omega
    rw [Vr.sameL_len (by rw [HL.out, HK.out]; exact hnm)]
    go_enter Tryd.func20, Tryd.ntmps20
    go_wp2
    go_ret
    exact ⟨rfl, Below.refl _ _⟩

set_option maxRecDepth 20000 in
set_option maxHeartbeats 1600000 in
theorem vequal_any (A : Option Addr) (n c : Nat) (l : List Vr.V) (C : Option Addr) (m cc : Nat) (k : List Vr.V) (hr : VRow w w.heap.size A n l) (hs : VRow w w.heap.size C m k) (hn : n ≤ 1000000) (hm : m ≤ 1000000) :
    Calls Tryd.prog 44 #[.slice A n c, .slice C m cc] w fun e w' => e = .returned (.bool (Vr.sameL l k)) ∧ Below w.heap.size w w' := by
  have HL := Lib.hid hr.len
  have HK := Lib.hid hs.len
  by_cases hnm : n = m
  · subst hnm
    have hself : ((n : Int) == (n : Int)) = true := by simp
    go_enter Tryd.func44, Tryd.ntmps44
    go_wp2_with fail
    go_loopw [13] (fun i wr => ∃ j : Nat, j ≤ n ∧ i = .int .i64 j ∧ Below w.heap.size w wr ∧ Hid (∀ t, t < j → Vr.same l[t]! k[t]! = true)) (fun i _ => n - (intOf i).toNat)
    case atStart => exact ⟨0, Nat.zero_le _, rfl, Below.refl _ _, fun t h => absurd h (Nat.not_lt_zero t)⟩
    case round =>
      obtain ⟨j, hj, rfl, hbw, hall⟩ := hrel
      by_cases hjn : j < n
      · obtain ⟨b, off, rfl, hbb, c0, c1, c2, c3⟩ := (hr.below hbw (Nat.le_refl _)).at_ hjn
        obtain ⟨b', off', rfl, hbb', d0, d1, d2, d3⟩ := (hs.below hbw (Nat.le_refl _)).at_ hjn
        have hS := fun W => neq_var l[j]! k[j]! W
        obtain ⟨z, hz⟩ : ∃ z, z = Vr.same l[j]! k[j]! := ⟨_, rfl⟩
        rw [← hz] at hS
        have HZ := Lib.hid hz.symm
        have HN := Lib.hid (@Vr.sameL_not l k j (by rw [HL.out]; exact hjn))
        clear hz
        unfold Vr.V.val at hS
        obtain ⟨u, hu⟩ : ∃ u, u = l[j]! := ⟨_, rfl⟩
        obtain ⟨v, hv⟩ : ∃ v, v = k[j]! := ⟨_, rfl⟩
        rw [← hu] at c0 c1 c2 c3 hS
        rw [← hv] at d0 d1 d2 d3 hS
        clear hu hv
        have hgd : Tryd.prog.eqGuardType Tryd.prog.depth 45 = false := by kernel_rfl
        have hj0 : (0 : Int) ≤ (j : Int) := by omega
        have hjI : (j : Int) < (n : Int) := by omega
        go_wp2_with fail
        go_quiet (fail)
        cases z with
        | true =>
          go_wp2
          go_roundw
          case measure => simp [intOf]; omega
          case rel =>
            refine ⟨j + 1, by omega, by go_num, below_drewN hbw _, fun t ht => ?_⟩
            by_cases e : t = j
            · subst e; exact HZ.out
            · exact hall.out t (by omega)
        | false =>
          go_wp2
          go_ret
          exact ⟨ret_bool (HN.out HZ.out).symm, below_drewN hbw _⟩
      · have : j = n := by omega
        subst this
        go_wp2
        go_ret
        exact ⟨ret_bool (Vr.sameL_all (by rw [HL.out, HK.out]) (by rw [HL.out]; exact hall.out)).symm, hbw⟩
  · have hnm' : ((n : Int) == (m : Int)) = false := by rw [beq_eq_false_iff_ne]; omega
    rw [Vr.sameL_len (by rw [HL.out, HK.out]; exact hnm)]
    go_enter Tryd.func44, Tryd.ntmps44
    go_wp2
    go_ret
    exact ⟨rfl, Below.refl _ _⟩

theorem vsame_any (A : Option Addr) (n c : Nat) (l : List Vr.V) (C : Option Addr) (m cc : Nat) (k : List Vr.V) (hr : VRow w w.heap.size A n l) (hs : VRow w w.heap.size C m k) (hn : n ≤ 1000000) (hm : m ≤ 1000000) :
    Calls Tryd.prog 21 #[.slice A n c, .slice C m cc] w fun e w' => e = .returned (.bool (Vr.sameL l k)) ∧ Below w.heap.size w w' := by
  have hE := vequal_any A n c l C m cc k hr hs hn hm
  go_enter Tryd.func21, Tryd.ntmps21
  go_wp2_with fail
  refine hE.mono ?_
  rintro e w2 ⟨rfl, hb2⟩
  go_wp2
  go_ret
  exact ⟨rfl, hb2⟩
end
end Go.Proofs.YthkgjdhbibialaaDoor
