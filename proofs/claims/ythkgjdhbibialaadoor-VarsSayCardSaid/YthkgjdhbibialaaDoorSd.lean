/- The document's side: what is amiss with variables, as the document's Fault. -/
import Derived.Test.YthkgjdhbibialaaDoorSb
import Derived.Test.YthkgjdhbibialaaDoorVn
namespace Go.Proofs.YthkgjdhbibialaaDoor
open Go.RowKit

theorem faultP_some (c : Int) (k : Nat) : faultP c (some k) = faultV c true k := rfl
theorem faultP_none (c : Int) : faultP c none = faultV c false 0 := rfl
theorem Vr.fault_of {v : Vr.V} (h : Vr.name v.name.data.toList = true) : Vr.fault v = Vr.worth v := by rw [Vr.fault_worth, h]; rfl
theorem Vr.worth_cases (v : Vr.V) : Vr.worth v = 0 ∨ Vr.worth v = 105 ∨ Vr.worth v = 110 := by
  unfold Vr.worth
  split
  · exact .inr (.inr rfl)
  · split
    · exact .inr (.inl rfl)
    · exact .inl rfl

set_option maxRecDepth 10000 in
set_option maxHeartbeats 4000000 in
theorem refcheck_any {w : World} (A : Option Addr) (n c : Nat) (l : List Vr.V) (hr : VRow w w.heap.size A n l) (hn : n ≤ 9223372036854775807) (hv : ∀ v ∈ l, Vr.InV v) :
    Calls Tryd.prog 18 #[.slice A n c] w fun e w' => e = .returned (faultP (Vr.check l).1 (Vr.check l).2) ∧ Below w.heap.size w w' := by
  have HL := Lib.hid hr.len
  have HV := Lib.hid hv
  clear hv
  have hb1 : Below w.heap.size w (w.alloc (.cells #[.int .i64 0, .bool false, .int .i64 0] 34)) := (Below.refl _ _).alloc (Nat.le_refl _) _
  have HD : Hid (∀ W', Below (w.alloc (.cells #[.int .i64 0, .bool false, .int .i64 0] 34)).heap.size (w.alloc (.cells #[.int .i64 0, .bool false, .int .i64 0] 34)) W' → W'.cell? ⟨w.heap.size, 0, none⟩ = some (.int .i64 0) ∧ W'.cell? ⟨w.heap.size, 1, none⟩ = some (.bool false) ∧ W'.cell? ⟨w.heap.size, 2, none⟩ = some (.int .i64 0) ∧ W'.frozen? ⟨w.heap.size, 0, none⟩ = false ∧ W'.frozen? ⟨w.heap.size, 1, none⟩ = false ∧ W'.frozen? ⟨w.heap.size, 2, none⟩ = false) := fun W' h => by
    have hh := heap_alloc_new w (.cells #[.int .i64 0, .bool false, .int .i64 0] 34)
    have hf : ∀ o, W'.frozen? ⟨w.heap.size, o, none⟩ = false := fun o => (h.frozen (p := ⟨w.heap.size, o, none⟩) (by simp)).trans (by unfold World.frozen?; rw [hh]; rfl)
    exact ⟨below_cells h (cell_of_row _ w.heap.size 0 _ _ (0, 0) hh), below_cells h (cell_of_row _ w.heap.size 1 _ _ (0, 0) hh), below_cells h (cell_of_row _ w.heap.size 2 _ _ (0, 0) hh), hf 0, hf 1, hf 2⟩
  obtain ⟨r, hr0⟩ : ∃ r, r = faultP (Vr.check l).1 (Vr.check l).2 := ⟨_, rfl⟩
  rw [← hr0]
  by_cases h12 : 12 < n
  · rw [Vr.check_many (by rw [HL.out]; exact h12), faultP_none] at hr0
    subst hr0
    unfold faultV
    have h12' : (12 : Int) < (n : Int) := by omega
    have hB := fun W => bare_any 104 W
    unfold faultV at hB
    go_enter Tryd.func18, Tryd.ntmps18
    go_wp2_with fail
    refine (hB _).mono ?_
    rintro e w2 ⟨rfl, hb2⟩
    obtain ⟨y0, y1, y2, z0, z1, z2⟩ := HD.out _ hb2
    have hbw2 := hb1.trans (hb2.mono hb1.size)
    go_wp2
    refine bodyPost_ret (v := faultV 104 false 0) (by simp [results, Tryd.results18, go_sem, faultV, y0, y1, y2]) rfl ⟨rfl, ?_⟩
    exact ((hbw2.setCell (Nat.le_refl _) _).setCell (Nat.le_refl _) _).setCell (Nat.le_refl _) _
  · have h12' : ¬ (12 : Int) < (n : Int) := by omega
    have HR := Lib.hid hr0
    clear hr0
    go_enter Tryd.func18, Tryd.ntmps18
    go_wp2_with fail
    go_loopw [3] (fun i wr => ∃ k : Nat, k ≤ n ∧ i = .int .i64 k ∧ Below (w.alloc (.cells #[.int .i64 0, .bool false, .int .i64 0] 34)).heap.size (w.alloc (.cells #[.int .i64 0, .bool false, .int .i64 0] 34)) wr ∧ Hid (∀ j, j < k → Vr.faultAt l j = 0)) (fun i _ => n - (intOf i).toNat)
    case atStart => exact ⟨0, Nat.zero_le _, rfl, Below.refl _ _, fun j h => absurd h (Nat.not_lt_zero j)⟩
    case round =>
      obtain ⟨k, hk, rfl, hbw, hall⟩ := hrel
      by_cases hkn : k < n
      · have hbr := hb1.trans (hbw.mono hb1.size)
        obtain ⟨b, off, rfl, hbb, c0, c1, c2, c3⟩ := (hr.below hbr (Nat.le_refl _)).at_ hkn
        have hI := HV.out l[k]! (by rw [getElem!_pos l k (by rw [HL.out]; exact hkn)]; exact List.getElem_mem _)
        have hIn := hI.n
        have HC := Lib.hid (@Vr.check_at l k (by rw [HL.out]; omega) (by rw [HL.out]; exact hkn) hall.out)
        have hW := refworth_any l[k]! wr hI
        unfold Vr.V.inner at hW
        obtain ⟨x, hx⟩ : ∃ x, x = Vr.worth l[k]! := ⟨_, rfl⟩
        rw [← hx] at hW
        have HX := Lib.hid hx
        clear hx
        have hk0 : (0 : Int) ≤ (k : Int) := by omega
        have hkI : (k : Int) < (n : Int) := by omega
        have HT : Hid (Vr.fault l[k]! = 0 → ∀ j : Nat, k = j + 1 → (Vr.lss l[j]!.name l[k]!.name = false → Vr.faultAt l k = 109) ∧ (Vr.lss l[j]!.name l[k]!.name = true → Vr.faultAt l k = 0)) := fun h j e => by subst e; exact ⟨faultAt_twice h, faultAt_fine h⟩
        have HA : Hid (∀ x : Int, x ≠ 0 → Vr.fault l[k]! = x → Vr.faultAt l k = x) := fun x h1 h2 => faultAt_first h1 h2
        have HZ0 : Hid (Vr.fault l[k]! = 0 → k = 0 → Vr.faultAt l k = 0) := fun h e => by subst e; exact faultAt_zero h
        have hro := hr.below hbr (Nat.le_refl _)
        obtain ⟨v, hv⟩ : ∃ v, v = l[k]! := ⟨_, rfl⟩
        rw [← hv] at c0 c1 c2 c3 hI hIn hW HX HA HZ0 HT
        clear hv hI
        go_wp2_with fail
        refine hW.mono ?_
        rintro e w2 ⟨rfl, hb2⟩
        have c0 := below_cells hb2 c0
        have hro2 := hro.below hb2 hbr.size
        have hbw2 := hbw.trans (hb2.mono hbw.size)
        clear hW c1 c2 c3 hro hbw hbr hb2
        have hN := refName_any v.name w2 hIn
        cases hnm : Vr.name v.name.data.toList with
        | false =>
          rw [hnm] at hN
          have hF : Vr.faultAt l k = 106 := HA.out 106 (by decide) (Vr.fault_name hnm)
          have hr0 := HR.out
          rw [HC.out (by rw [hF]; decide), hF, faultP_some] at hr0
          subst hr0
          clear hF HC HA HZ0 HT hall HR hnm HX
          go_wp2_with fail
          refine hN.mono ?_
          rintro e w3 ⟨rfl, rfl⟩
          have hP := fun W => placed_any 106 (k : Int) (by decide) W
          unfold faultV at hP
          go_wp2_with fail
          go_quiet (fail)
          go_wp2_with fail
          refine (hP _).mono ?_
          rintro e w4 ⟨rfl, hb4⟩
          have hbd := below_drewN hbw2 nq
          have hbw4 := hbd.trans (hb4.mono hbd.size)
          obtain ⟨y0, y1, y2, z0, z1, z2⟩ := HD.out _ hbw4
          have hbW4 := hb1.trans (hbw4.mono hb1.size)
          clear hP hb4
          go_wp2
          refine bodyPost_ret (v := faultV 106 true (k : Int)) (by simp [results, Tryd.results18, go_sem, faultV, y0, y1, y2]) rfl ⟨rfl, ?_⟩
          exact ((hbW4.setCell (Nat.le_refl _) _).setCell (Nat.le_refl _) _).setCell (Nat.le_refl _) _
        | true =>
          rw [hnm] at hN
          have hfw : Vr.fault v = x := (Vr.fault_of hnm).trans HX.out.symm
          by_cases hx0 : x = 0
          · subst hx0
            cases k with
            | zero =>
              have HZ1 := Lib.hid (HZ0.out hfw rfl)
              clear HC HA HZ0 HT HX hfw hnm
              simp only [Nat.zero_mul, Nat.add_zero] at c0
              go_wp2_with fail
              refine hN.mono ?_
              rintro e w3 ⟨rfl, rfl⟩
              go_wp2_with fail
              go_quiet (fail)
              go_wp2
              go_roundw
              case measure => simp [intOf]; omega
              case rel => exact ⟨1, by omega, by go_num, below_drewN hbw2 _, all_next hall.out HZ1.out⟩
            | succ j =>
              obtain ⟨p0, p1, p2, p3⟩ := hro2.of (k := j) (by omega)
              have hlq := Vr.leq_of v.name l[j]!.name
              have hT := HT.out hfw j rfl
              have HTT := Lib.hid hT
              have hr1 := HR.out
              have HC9 := Lib.hid (fun (h : Vr.faultAt l (j + 1) = 109) => HC.out (by rw [h]; decide))
              clear HC HA HZ0 HT HX hfw hnm hT p1 p2 p3 hr1
              obtain ⟨u, hu⟩ : ∃ u, u = l[j]! := ⟨_, rfl⟩
              rw [← hu] at hlq p0 HTT
              clear hu
              cases hls : Vr.lss u.name v.name with
              | true =>
                rw [hls] at hlq
                have hlq : (Op.bytesLess v.name.toList u.name.toList || v.name.toList == u.name.toList) = false := hlq
                have HZ1 := Lib.hid (HTT.out.2 hls)
                clear hls HTT HC9
                go_wp2_with fail
                refine hN.mono ?_
                rintro e w3 ⟨rfl, rfl⟩
                go_wp2_with fail
                go_quiet (fail)
                go_wp2
                go_roundw
                case measure => simp [intOf]; omega
                case rel => exact ⟨j + 2, by omega, by go_num, below_drewN hbw2 _, all_next hall.out HZ1.out⟩
              | false =>
                rw [hls] at hlq
                have hlq : (Op.bytesLess v.name.toList u.name.toList || v.name.toList == u.name.toList) = true := hlq
                have h9 := HTT.out.1 hls
                have hr0 := HR.out
                rw [HC9.out h9, h9, faultP_some] at hr0
                subst hr0
                clear hls HTT HC9 h9 HR hall
                go_wp2_with fail
                refine hN.mono ?_
                rintro e w3 ⟨rfl, rfl⟩
                have hP := fun W => placed_any 109 ((j + 1 : Nat) : Int) (by decide) W
                unfold faultV at hP
                go_wp2_with fail
                go_quiet (fail)
                go_wp2_with fail
                refine (hP _).mono ?_
                rintro e w4 ⟨rfl, hb4⟩
                have hbd := below_drewN hbw2 nq
                have hbw4 := hbd.trans (hb4.mono hbd.size)
                obtain ⟨y0, y1, y2, z0, z1, z2⟩ := HD.out _ hbw4
                have hbW4 := hb1.trans (hbw4.mono hb1.size)
                clear hP hb4
                go_wp2
                refine bodyPost_ret (v := faultV 109 true ((j + 1 : Nat) : Int)) (by simp [results, Tryd.results18, go_sem, faultV, y0, y1, y2]) rfl ⟨rfl, ?_⟩
                exact ((hbW4.setCell (Nat.le_refl _) _).setCell (Nat.le_refl _) _).setCell (Nat.le_refl _) _
          · have hx0' : (x == 0) = false := by simpa using hx0
            have hF : Vr.faultAt l k = x := HA.out x hx0 hfw
            have hr0 := HR.out
            rw [HC.out (by rw [hF]; exact hx0), hF, faultP_some] at hr0
            subst hr0
            clear hF HC HA HZ0 HT hall HR hnm HX hfw
            go_wp2_with fail
            refine hN.mono ?_
            rintro e w3 ⟨rfl, rfl⟩
            have hP := fun W => placed_any x (k : Int) hx0 W
            unfold faultV at hP
            go_wp2_with fail
            go_quiet (fail)
            go_wp2_with fail
            refine (hP _).mono ?_
            rintro e w4 ⟨rfl, hb4⟩
            have hbd := below_drewN hbw2 nq
            have hbw4 := hbd.trans (hb4.mono hbd.size)
            obtain ⟨y0, y1, y2, z0, z1, z2⟩ := HD.out _ hbw4
            have hbW4 := hb1.trans (hbw4.mono hb1.size)
            clear hP hb4
            go_wp2
            refine bodyPost_ret (v := faultV x true (k : Int)) (by simp [results, Tryd.results18, go_sem, faultV, y0, y1, y2]) rfl ⟨rfl, ?_⟩
            exact ((hbW4.setCell (Nat.le_refl _) _).setCell (Nat.le_refl _) _).setCell (Nat.le_refl _) _
      · have hr0 := HR.out
        rw [Vr.check_fine (by rw [HL.out]; omega) (fun j hj => hall.out j (by rw [HL.out] at hj; omega)), faultP_none] at hr0
        subst hr0
        have hB := fun W => none_any W
        unfold faultV at hB
        clear HR
        go_wp2_with fail
        refine (hB _).mono ?_
        rintro e w4 ⟨rfl, hb4⟩
        have hbw4 := hbw.trans (hb4.mono hbw.size)
        obtain ⟨y0, y1, y2, z0, z1, z2⟩ := HD.out _ hbw4
        have hbW4 := hb1.trans (hbw4.mono hb1.size)
        clear hB hb4
        go_wp2
        refine bodyPost_ret (v := faultV 0 false 0) (by simp [results, Tryd.results18, go_sem, faultV, y0, y1, y2]) rfl ⟨rfl, ?_⟩
        exact ((hbW4.setCell (Nat.le_refl _) _).setCell (Nat.le_refl _) _).setCell (Nat.le_refl _) _
end Go.Proofs.YthkgjdhbibialaaDoor
