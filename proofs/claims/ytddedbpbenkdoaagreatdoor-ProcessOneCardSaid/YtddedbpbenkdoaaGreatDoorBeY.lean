/- The program's Check. -/
import Derived.Test.YtddedbpbenkdoaaGreatDoorYProcessOne14
import Derived.Test.YtddedbpbenkdoaaGreatDoorYProcessOne15
namespace Go.Proofs.YtddedbpbenkdoaaGreatDoor
open Go.RowKit

theorem prErrs16 {W : World} {ads : List Addr} (hE : Errs W 183 sents ads) : PrErrs W (errMap pos16 ads) where
  e102 := errIn_of hE 102 1 _ rfl rfl
  e104 := errIn_of hE 104 3 _ rfl rfl
  e106 := errIn_of hE 106 5 _ rfl rfl
  e107 := errIn_of hE 107 6 _ rfl rfl
namespace Pr
set_option maxHeartbeats 6400000 in
set_option maxRecDepth 10000 in
theorem check_any {W : World} {E : Int → Option Addr} (hE : PrErrs W E) (hC : CoErrs W E) (hT : ErrTy W) (A : Option Addr) (n c : Nat) (F : Option Addr) (m d : Nat) (p : P) (w : World) (hW : Below W.heap.size W w) (hN : KRow Nd.κ w w.heap.size A n p.nodes) (hF : KRow Fl.κ w w.heap.size F m p.flows)
    (hn : n ≤ 100000) (hm : m ≤ 100000) (hl : Lite p) (hs : ∀ j, j < p.m → (p.flows[j]!).cond.size ≤ 80) :
    Calls Tryz.prog 7 #[.agg #[.string p.name, .slice A n c, .slice F m d]] w fun e w' => (∃ ev, e = .returned ev ∧ SeenF E w' ev (check p).1 (check p).2) ∧ Below w.heap.size w w' := by
  obtain rfl : p.n = n := hN.len (by decide)
  obtain rfl : p.m = m := hF.len (by decide)
  obtain ⟨R, hR⟩ : ∃ R, R = check p := ⟨_, rfl⟩
  rw [← hR]
  unfold check at hR
  have HL := Lib.hid hl
  have HS := Lib.hid hs
  have HN := Lib.hid hN
  have HF := Lib.hid hF
  have HE := Lib.hid (fun W' (hb : Below w.heap.size w W') => hE.below (w := W') (hW.trans (hb.mono hW.size)))
  have HFF := Lib.hid (fun W' (hb : Below w.heap.size w W') (f : Fl) (hf : f.cond.size ≤ 80) => flowfault_any hE hC hT A p.n c F p.m d p f W' (hW.trans (hb.mono hW.size)) ((hN.below hb (Nat.le_refl _)).mono hb.size) hf)
  have HNF := Lib.hid (fun W' (hb : Below w.heap.size w W') (i : Nat) (hi : i < p.n) (hsm : Small (p.nodes[i]!)) => nodefault_any hE A p.n c F p.m d p i W' (hW.trans (hb.mono hW.size)) ((hN.below hb (Nat.le_refl _)).mono hb.size) ((hF.below hb (Nat.le_refl _)).mono hb.size) hn hm hi hsm)
  have HP := Lib.hid (Cel.lit w #[.string p.name, .slice A p.n c, .slice F p.m d] 30)
  have HB := Lib.hid ((Below.refl w.heap.size w).alloc (Nat.le_refl _) (.cells #[.string p.name, .slice A p.n c, .slice F p.m d] 30))
  have HNM := Lib.hid (fun W => nm_any p.name W hl.name)
  clear hN hF hE hC hT hW hl hs
  go_enter Tryz.func7, Tryz.ntmps7
  go_upto_region 1 with (fail)
  generalize w.alloc _ = wb at *
  obtain ⟨⟨z0, z1, z2⟩, _⟩ := tri_facts HP.out
  go_wp2_with fail
  refine (HNM.out _).mono ?_
  rintro e wy ⟨rfl, rfl⟩
  clear HNM
  by_cases hnm : nm p.name = false
  · rw [if_pos hnm] at hR
    rw [hnm]
    obtain ⟨a, ha, g⟩ := (HE.out _ HB.out).e106
    subst hR
    clear hnm
    go_wp2
    go_ret
    exact ⟨⟨_, rfl, .bare 106 a ha (by decide)⟩, HB.out⟩
  rw [if_neg hnm] at hR
  have hnm : nm p.name = true := by simpa using hnm
  rw [hnm]
  clear hnm
  by_cases hbd : (within p.n 2 30 && decide (p.m ≤ 60)) = false
  · rw [if_pos hbd] at hR
    obtain ⟨a, ha, g⟩ := (HE.out _ HB.out).e104
    subst hR
    have hor : (p.n : Int) < 2 ∨ ((p.n : Int) > 30 ∧ ¬ (p.n : Int) < 2) ∨ ((p.m : Int) > 60 ∧ ¬ (p.n : Int) < 2 ∧ ¬ (p.n : Int) > 30) := by
      unfold within at hbd
      simp only [Bool.and_eq_false_iff, decide_eq_false_iff_not] at hbd
      omega
    clear hbd
    rcases hor with h1 | ⟨h1, h2⟩ | ⟨h1, h2, h3⟩
    · go_wp2
      go_ret
      exact ⟨⟨_, rfl, .bare 104 a ha (by decide)⟩, HB.out⟩
    · go_wp2
      go_ret
      exact ⟨⟨_, rfl, .bare 104 a ha (by decide)⟩, HB.out⟩
    · go_wp2
      go_ret
      exact ⟨⟨_, rfl, .bare 104 a ha (by decide)⟩, HB.out⟩
  rw [if_neg hbd] at hR
  obtain ⟨q1, q2, q3⟩ : 2 ≤ p.n ∧ p.n ≤ 30 ∧ p.m ≤ 60 := by
    have hbd : (within p.n 2 30 && decide (p.m ≤ 60)) = true := by simpa using hbd
    unfold within at hbd
    simp only [Bool.and_eq_true, decide_eq_true_eq] at hbd
    omega
  have r1 : ¬ (p.n : Int) < 2 := by omega
  have r2 : ¬ (p.n : Int) > 30 := by omega
  have r3 : ¬ (p.m : Int) > 60 := by omega
  have HR := Lib.hid hR
  clear hbd hR
  go_wp2_with fail
  clear z0 z1 z2
  go_loopw [35] (fun k wr => ∃ j : Nat, j ≤ p.m ∧ k = .int .i64 j ∧ Below wb.heap.size wb wr ∧ ∀ t, t < j → flowBad p p.flows[t]! = 0) (fun k _ => p.m - (intOf k).toNat)
  case atStart => exact ⟨0, Nat.zero_le _, rfl, Below.refl _ _, fun t h => absurd h (Nat.not_lt_zero t)⟩
  case round =>
    obtain ⟨j, hj, rfl, hbr, hall⟩ := hrel
    have hj0 : (0 : Int) ≤ (j : Int) := by omega
    have HBR := Lib.hid (HB.out.trans (hbr.mono HB.out.size))
    have HPR := Lib.hid (HP.out.below hbr (Nat.le_refl _))
    have HBB := Lib.hid hbr
    have HALL := Lib.hid hall
    clear hbr hall
    by_cases hlt : j < p.m
    · have hI : (j : Int) < (p.m : Int) := by omega
      obtain ⟨b, off, rfl, _, _⟩ := HF.out.2 (by omega)
      obtain ⟨f0, f1, f2⟩ := fl_at (HF.out.below HBR.out (Nat.le_refl _)) hlt
      have hfs := HS.out j hlt
      obtain ⟨v, hv⟩ : ∃ v, flowBad p p.flows[j]! = v := ⟨_, rfl⟩
      have HV := Lib.hid hv
      have e100 : IntKind.i64.wrap (100 + (j : Int)) = 100 + (j : Int) := by rw [IntKind.wrap_i64]; omega
      clear hv
      have HX : Hid (∀ W', Below w.heap.size w W' → Calls Tryz.prog 19 #[.agg #[.string p.name, .slice A p.n c, .slice (some ⟨b, off, none⟩) p.m d], .agg #[.int .i64 (p.flows[j]!).frm, .int .i64 (p.flows[j]!).til, .string (p.flows[j]!).cond]] W' fun e w' => (∃ ev, e = .returned ev ∧ SeenBy E ev v) ∧ Below W'.heap.size W' w') := Lib.hid (fun W' hb => by
        have := HFF.out W' hb p.flows[j]! hfs
        rw [HV.out] at this
        exact this)
      generalize hfe : p.flows[j]! = f at *
      have HFE := Lib.hid hfe
      clear hfe
      have hba : Below wr.heap.size wr (wr.alloc (.cells #[.int .i64 f.frm, .int .i64 f.til, .string f.cond] 38)) := (Below.refl _ _).alloc (Nat.le_refl _) _
      have HFX := Lib.hid (Cel.lit wr #[.int .i64 f.frm, .int .i64 f.til, .string f.cond] 38)
      have HPa := Lib.hid (HPR.out.below hba (Nat.le_refl _))
      have HBa := Lib.hid (HBR.out.trans (hba.mono HBR.out.size))
      have HBBa := Lib.hid (HBB.out.trans (hba.mono HBB.out.size))
      clear hba
      go_upto_region 8 with (fail)
      generalize wr.alloc _ = wc at *
      clear f0 f1 f2
      obtain ⟨⟨z0, z1, z2⟩, _⟩ := tri_facts HPa.out
      obtain ⟨⟨f0, f1, f2⟩, _⟩ := tri_facts HFX.out
      go_wp2_with fail
      refine (HX.out _ HBa.out).mono ?_
      rintro e w3 ⟨⟨ev, rfl, hse⟩, hb3⟩
      have HB3 := Lib.hid (HBa.out.trans (hb3.mono HBa.out.size))
      have HBB3 := Lib.hid (HBBa.out.trans (hb3.mono HBBa.out.size))
      clear hb3 z0 z1 z2 f0 f1 f2
      by_cases h0 : v = 0
      · subst h0
        obtain rfl := seen_nil hse
        clear hse
        go_wp2_with fail
        go_roundw
        case measure => simp [intOf]; omega
        case rel =>
          refine ⟨j + 1, by omega, by go_num, HBB3.out, fun t ht => ?_⟩
          by_cases e : t = j
          · subst e; rw [HFE.out]; exact HV.out
          · exact HALL.out t (by omega)
      · obtain ⟨a, rfl, ha⟩ := seen_err hse h0
        have hch : R = (v, some (100 + j)) := by
          rw [HR.out, find_first _ p.m j hlt (by rw [HFE.out, HV.out, beq_eq_false_iff_ne.2 h0]; rfl) (fun t ht => by rw [HALL.out t ht]; rfl)]
          simp only []
          rw [HFE.out, HV.out]
        have HCH := Lib.hid hch
        have hfin : SeenF E (w3.alloc (.cells #[.int .i64 (100 + (j : Int)), errV a] 56)) (atV w3.heap.size) v (some (100 + j)) :=
          .at_ w3.heap.size v a (100 + j) ha h0 (by have := cell_of_row (w3.alloc (.cells #[.int .i64 (100 + (j : Int)), errV a] 56)) w3.heap.size 0 _ _ _ (heap_alloc_new w3 _); rw [this]; rfl) (by have := cell_of_row (w3.alloc (.cells #[.int .i64 (100 + (j : Int)), errV a] 56)) w3.heap.size 1 _ _ _ (heap_alloc_new w3 _); rw [this]; rfl)
        have HFN := Lib.hid hfin
        have HBF := Lib.hid (HB3.out.alloc HB3.out.size (.cells #[.int .i64 (100 + (j : Int)), errV a] 56))
        have HH := Lib.hid h0
        clear hse h0 hch hfin
        unfold errV at HFN HBF ⊢
        go_wp2
        go_ret
        exact ⟨⟨_, rfl, by rw [HCH.out]; exact HFN.out⟩, HBF.out⟩
    · obtain rfl : j = p.m := by omega
      have hI : ¬ (p.m : Int) < (p.m : Int) := by omega
      have hR := HR.out
      rw [find_no _ p.m (fun t ht => by rw [HALL.out t ht]; rfl)] at hR
      simp only [] at hR
      have HR2 := Lib.hid hR
      clear hR HR HALL
      obtain ⟨⟨z0, z1, z2⟩, _⟩ := tri_facts HPR.out
      go_wp2_with fail
      clear z0 z1 z2
      have HB0 := HBR
      have HP0 := HPR
      clear HBR HPR HBB
      generalize wr = wq at *
      go_loopw [55] (fun k wr => ∃ j : Nat, j ≤ p.n ∧ k = .int .i64 j ∧ Below wq.heap.size wq wr ∧ ∀ t, t < j → nodeBad p t = 0) (fun k _ => p.n - (intOf k).toNat)
      case atStart => exact ⟨0, Nat.zero_le _, rfl, Below.refl _ _, fun t h => absurd h (Nat.not_lt_zero t)⟩
      case round =>
        obtain ⟨j, hj, rfl, hbr, hall⟩ := hrel
        have hj0 : (0 : Int) ≤ (j : Int) := by omega
        have HBR := Lib.hid (HB0.out.trans (hbr.mono HB0.out.size))
        have HPR := Lib.hid (HP0.out.below hbr (Nat.le_refl _))
        have HBB := Lib.hid hbr
        have HALL := Lib.hid hall
        clear hbr hall
        by_cases hlt : j < p.n
        · have hI : (j : Int) < (p.n : Int) := by omega
          obtain ⟨v, hv⟩ : ∃ v, nodeBad p j = v := ⟨_, rfl⟩
          have HX := Lib.hid (HNF.out _ HBR.out j hlt (HL.out.nodes j hlt))
          rw [hv] at HX
          have HV := Lib.hid hv
          clear hv
          obtain ⟨⟨z0, z1, z2⟩, _⟩ := tri_facts HPR.out
          go_wp2_with fail
          refine HX.out.mono ?_
          rintro e w3 ⟨⟨ev, rfl, hse⟩, hb3⟩
          have HB3 := Lib.hid (HBR.out.trans (hb3.mono HBR.out.size))
          have HBB3 := Lib.hid (HBB.out.trans (hb3.mono HBB.out.size))
          clear hb3 z0 z1 z2
          by_cases h0 : v = 0
          · subst h0
            obtain rfl := seen_nil hse
            clear hse
            go_wp2_with fail
            go_roundw
            case measure => simp [intOf]; omega
            case rel =>
              refine ⟨j + 1, by omega, by go_num, HBB3.out, fun t ht => ?_⟩
              by_cases e : t = j
              · subst e; exact HV.out
              · exact HALL.out t (by omega)
          · obtain ⟨a, rfl, ha⟩ := seen_err hse h0
            have hch : R = (v, some j) := by
              rw [HR2.out, find_first _ p.n j hlt (by rw [HV.out, beq_eq_false_iff_ne.2 h0]; rfl) (fun t ht => by rw [HALL.out t ht]; rfl)]
              simp only []
              rw [HV.out]
            have HCH := Lib.hid hch
            have hfin : SeenF E (w3.alloc (.cells #[.int .i64 (j : Int), errV a] 56)) (atV w3.heap.size) v (some j) :=
              .at_ w3.heap.size v a j ha h0 (by have := cell_of_row (w3.alloc (.cells #[.int .i64 (j : Int), errV a] 56)) w3.heap.size 0 _ _ _ (heap_alloc_new w3 _); rw [this]; rfl) (by have := cell_of_row (w3.alloc (.cells #[.int .i64 (j : Int), errV a] 56)) w3.heap.size 1 _ _ _ (heap_alloc_new w3 _); rw [this]; rfl)
            have HFN := Lib.hid hfin
            have HBF := Lib.hid (HB3.out.alloc HB3.out.size (.cells #[.int .i64 (j : Int), errV a] 56))
            clear hse h0 hch hfin
            unfold errV at HFN HBF ⊢
            go_wp2
            go_ret
            exact ⟨⟨_, rfl, by rw [HCH.out]; exact HFN.out⟩, HBF.out⟩
        · obtain rfl : j = p.n := by omega
          have hI : ¬ (p.n : Int) < (p.n : Int) := by omega
          have hR := HR2.out
          rw [find_no _ p.n (fun t ht => by rw [HALL.out t ht]; rfl)] at hR
          simp only [] at hR
          have HR3 := Lib.hid hR
          clear hR HR2 HALL
          go_wp2
          go_ret
          exact ⟨⟨_, rfl, by rw [HR3.out]; exact .nil⟩, HBR.out⟩
end Pr
end Go.Proofs.YtddedbpbenkdoaaGreatDoor
