/- ProcessOne: the walk. -/
import Derived.Test.YtddedbpbenkdoaaGreatDoorYProcessOne14
import Derived.Test.YtddedbpbenkdoaaGreatDoorBeY
import Derived.Test.YtddedbpbenkdoaaGreatDoorDgY
import Derived.Test.YtddedbpbenkdoaaGreatDoorCpY
import Derived.Test.YtddedbpbenkdoaaGreatDoorYProcessOne6
import Derived.Test.YtddedbpbenkdoaaGreatDoorSeeY
import Derived.Test.YtddedbpbenkdoaaGreatDoorYProcessOne7
import Derived.Deep.CutBlock
import Derived.Deep.RegionHeld3
namespace Go.Proofs.YtddedbpbenkdoaaGreatDoor
open Go.RowKit
open Pr
theorem seenF_none {E : Int → Option Addr} {w : World} {v : Value} (h : SeenF E w v 0 none) : v = .nilIface := by
  generalize hc0 : (0 : Int) = c at h
  generalize hp0 : (none : Option Nat) = p at h
  cases h with
  | nil => rfl
  | bare c a h hc => exact absurd hc0.symm hc
  | at_ => cases hp0
theorem same_fault {ads : List Addr} {w : World} {ev : Value} {c : Int} {o : Option Nat} (hE : Errs w 183 sents ads) (h : SeenF (errMap pos16 ads) w ev c o) :
    Calls Tryz.prog 8 #[ev, faultP c o] w fun e w' => e = .returned (.bool true) ∧ Below w.heap.size w w' :=
  (same_seen hE h c o.isSome ((o.getD 0 : Nat) : Int)).mono fun e w' h => ⟨by rw [h.1]; simp, h.2⟩
set_option maxHeartbeats 6400000 in
set_option maxRecDepth 10000 in
theorem processOne_walk (s : SeedV) (which at_ n : Int) (t : ByteArray) (ads : List Addr) (w : World) (hS : InSeed w s) (_ : -9223372036854775808 ≤ which) (_ : which ≤ 9223372036854775807) (ha1 : -9223372036854775808 ≤ at_) (ha2 : at_ ≤ 9223372036854775807) (_ : -9223372036854775808 ≤ n) (_ : n ≤ 9223372036854775807) (_ : t.size ≤ maxLen)
    (hE0 : Errs w 183 sents ads) (hW : CoWords w) (hT : ErrTy w) :
    Calls Tryz.prog 3 #[s.val, .int .i64 which, .int .i64 at_, .int .i64 n, .string t] w fun e w' => e = .returned (.bool true) ∧ Below w.heap.size w w' := by
  have HE0 := Lib.hid hE0
  have HC' := Lib.hid (coErrs16 hE0 hW)
  have HPE := Lib.hid (prErrs16 hE0)
  have HT := Lib.hid hT
  have HSD := Lib.hid hS
  have HB0 := Lib.hid ((Below.refl w.heap.size w).alloc (Nat.le_refl _) (.cells #[.string s.name, .slice s.KA s.kn s.kc, .slice s.EA s.en s.ec, .slice s.MA s.mn s.mc] 24))
  have hq0 := Cel.lit w #[.string s.name, .slice s.KA s.kn s.kc, .slice s.EA s.en s.ec, .slice s.MA s.mn s.mc] 24
  have HL := Lib.hid (fun w => mlight_any s w)
  clear hE0 hW hT hS
  unfold SeedV.val
  go_enter Tryz.func3, Tryz.ntmps3
  go_wp2_with fail
  generalize hwa : w.alloc _ = wa at *
  refine (first_any wa).mono ?_
  rintro e w1 ⟨rfl, hb1⟩
  have HQ1 := Lib.hid (hq0.below hb1 (Nat.le_refl _))
  have HB1 := Lib.hid (HB0.out.trans (hb1.mono HB0.out.size))
  clear hq0 hb1 HB0 hwa
  obtain ⟨q0, q1, q2, q3⟩ := quad_facts HQ1.out
  go_wp2_with fail
  unfold SeedV.val at HL
  refine (HL.out _).mono ?_
  rintro e w2 ⟨rfl, hb2⟩
  have HQ2 := Lib.hid (HQ1.out.below hb2 (Nat.le_refl _))
  have HB2 := Lib.hid (HB1.out.trans (hb2.mono HB1.out.size))
  have hw02 := HB2.out.size
  clear hb2 HQ1 HB1 q0 q1 q2 q3 HL
  obtain ⟨lt, hlt⟩ : ∃ b, light s = b := ⟨_, rfl⟩
  rw [hlt]
  cases lt with
  | false =>
    go_wp2
    go_ret
    exact ⟨rfl, HB2.out⟩
  | true =>
  by_cases hsz : t.size ≤ 60
  · have hszI : ¬ (t.size : Int) > 60 := by omega
    have hkn : s.kn ≤ 28 := by
      unfold light at hlt
      simp only [Bool.and_eq_true, decide_eq_true_eq] at hlt
      exact hlt.2.1
    clear hlt
    obtain ⟨z0, z1, z2, z3⟩ := quad_facts HQ2.out
    have hk2 := (HSD.out.k.row.below HB2.out (Nat.le_refl _)).mono HB2.out.size
    have hm2 := (HSD.out.m.row.below HB2.out (Nat.le_refl _)).mono HB2.out.size
    have HG := Lib.hid (mgood_any (w := w2) s.name s.KA s.kn s.kc s.EA s.en s.ec s.MA s.mn s.mc s.ks s.ms true hk2 hm2 HSD.out.kb HSD.out.mb (by omega))
    clear hk2 hm2
    go_wp2_with fail
    refine HG.out.mono ?_
    rintro e w3 ⟨⟨A, pn, c, F, pm, d, rfl, hN, hF⟩, hb3⟩
    have HN := Lib.hid hN
    have HF := Lib.hid hF
    have HB3 := Lib.hid (HB2.out.trans (hb3.mono HB2.out.size))
    have hw23 := hb3.size
    clear hN hF hb3 HG z0 z1 z2 z3 HQ2 HB2
    have hchk := check_good s.ks s.ms true
    have hokp := Okp.good s.ks s.ms true
    obtain ⟨_, _, hn27, hm52, hname⟩ := good_inv s.ks s.ms true
    generalize good s.ks s.ms true = p at *
    rw [← hname]
    have HPC := Lib.hid (Cel.lit w3 #[.string p.name, .slice A pn c, .slice F pm d] 30)
    have hba : Below w3.heap.size w3 (w3.alloc (.cells #[.string p.name, .slice A pn c, .slice F pm d] 30)) := (Below.refl _ _).alloc (Nat.le_refl _) _
    have HN4 := Lib.hid (HN.out.below hba (Nat.le_refl _))
    have HF4 := Lib.hid (HF.out.below hba (Nat.le_refl _))
    have HB4 := Lib.hid (HB3.out.trans (hba.mono HB3.out.size))
    obtain rfl : p.n = pn := HN.out.len
    obtain rfl : p.m = pm := HF.out.len
    have HOK := Lib.hid hokp
    have hlA : ∀ a, A = some a → a.block < w3.heap.size := fun a ha => (HN.out.block ha).2
    have hlF : ∀ a, F = some a → a.block < w3.heap.size := fun a ha => (HF.out.block ha).2
    have HLA := Lib.hid hlA
    have HLF := Lib.hid hlF
    have hn0 := hokp.n0
    have hm0 := hokp.m0
    clear hba HN HF HB3 hokp hname hlA hlF
    go_upto_region 7 with (fail)
    generalize w3.alloc _ = w4 at *
    have HCH := Lib.hid (check_any HPE.out HC'.out HT.out A p.n c F p.m d p w4 HB4.out HN4.out.row HF4.out.row (by omega) (by omega) HOK.out.lite HOK.out.cond)
    rw [hchk] at HCH
    clear hchk
    obtain ⟨⟨z0, z1, z2⟩, _⟩ := tri_facts HPC.out
    go_wp2_with fail
    refine HCH.out.mono ?_
    rintro e w5 ⟨⟨ev, rfl, hev⟩, hb5⟩
    obtain rfl := seenF_none hev
    have HPC5 := Lib.hid (HPC.out.below hb5 (Nat.le_refl _))
    have HN5 := Lib.hid (HN4.out.below hb5 (Nat.le_refl _))
    have HF5 := Lib.hid (HF4.out.below hb5 (Nat.le_refl _))
    have HB5 := Lib.hid (HB4.out.trans (hb5.mono HB4.out.size))
    clear hev hb5 z0 z1 z2 HPC HN4 HF4 HB4 HCH
    go_upto_if 33 with (fail)
    go_cut [2] from 34 to 36 (fun s wx => (∃ x : Int, 0 ≤ x ∧ s = .int .i64 x) ∧ wx = w5)
    case first =>
      by_cases h : at_ < 0
      · have e1 : IntKind.i64.wrap (at_ + 1) = at_ + 1 := by rw [IntKind.wrap_i64]; omega
        have e2 : IntKind.i64.wrap (-(at_ + 1)) = -(at_ + 1) := by rw [IntKind.wrap_i64]; omega
        go_wp2_with fail
        go_meet
        exact ⟨⟨-(at_ + 1), by omega, rfl⟩, rfl⟩
      · go_wp2_with fail
        go_meet
        exact ⟨⟨at_, by omega, rfl⟩, rfl⟩
    case rest =>
      obtain ⟨⟨x, hx, rfl⟩, rfl⟩ := hcut
      generalize wc = w5 at *
      obtain ⟨g, rfl, hgb, hgl⟩ := HN5.out.some_of hn0
      obtain ⟨gf, rfl, hhb, hhl⟩ := HF5.out.some_of hm0
      obtain ⟨k, hk, hke, hke2⟩ : ∃ k : Nat, k < p.n ∧ x.tmod (p.n : Int) = (k : Int) ∧ x % (p.n : Int) = (k : Int) := by
        have h1 := Int.emod_nonneg x (show (p.n : Int) ≠ 0 by omega)
        have h2 := Int.emod_lt_of_pos x (show (0 : Int) < (p.n : Int) by omega)
        exact ⟨(x % (p.n : Int)).toNat, by omega, by rw [Int.tmod_eq_emod_of_nonneg hx]; omega, by omega⟩
      obtain ⟨j, hj, hje, hje2⟩ : ∃ k : Nat, k < p.m ∧ x.tmod (p.m : Int) = (k : Int) ∧ x % (p.m : Int) = (k : Int) := by
        have h1 := Int.emod_nonneg x (show (p.m : Int) ≠ 0 by omega)
        have h2 := Int.emod_lt_of_pos x (show (0 : Int) < (p.m : Int) by omega)
        exact ⟨(x % (p.m : Int)).toNat, by omega, by rw [Int.tmod_eq_emod_of_nonneg hx]; omega, by omega⟩
      have hnd := nd_at HN5.out.row hk
      have hfl := fl_at HF5.out.row hj
      rw [Nat.zero_add] at hnd hfl
      have hxn : Tn (p.nodes[k]!) := HOK.out.nd _ (by rw [getElem!_pos p.nodes k hk]; exact List.getElem_mem _)
      have hfn : (p.flows[j]!).cond.size ≤ 80 := HOK.out.cond j hj
      generalize p.nodes[k]! = y at *
      generalize p.flows[j]! = f at *
      obtain ⟨y0, y1, y2, y3, y4, y5, y6, y7⟩ := hnd
      obtain ⟨⟨z0, z1, z2⟩, _⟩ := tri_facts HPC5.out
      have hkI : (k : Int) < (p.n : Int) := by omega
      have hk0 : (0 : Int) ≤ (k : Int) := by omega
      have hnI : (0 : Int) < (p.n : Int) := by omega
      have HFL := Lib.hid hfl
      have HXN := Lib.hid hxn
      have hlq := HPC5.out.lt
      clear hfl hxn
      go_wp2_with fail
      apply once
      case h =>
        intro hr
        go_region
        exact hr
      have hnew := Cel.lit w5 #[.int .i64 y.kind, .string y.topic, .int .i64 y.prio, .int .i64 y.retr, .int .i64 y.dflt, .string y.code, .string y.caught, .int .i64 y.tgt] 36
      have hb6 : Below w5.heap.size w5 (w5.alloc (.cells #[.int .i64 y.kind, .string y.topic, .int .i64 y.prio, .int .i64 y.retr, .int .i64 y.dflt, .string y.code, .string y.caught, .int .i64 y.tgt] 36)).drew := ((Below.refl _ _).alloc (Nat.le_refl _) _).drew
      have hz6 : (w5.alloc (.cells #[.int .i64 y.kind, .string y.topic, .int .i64 y.prio, .int .i64 y.retr, .int .i64 y.dflt, .string y.code, .string y.caught, .int .i64 y.tgt] 36)).drew.heap.size = w5.heap.size + 1 := by simp
      have hx6 := hnew.drewN 1
      have hx6 : Cel (w5.alloc (.cells #[.int .i64 y.kind, .string y.topic, .int .i64 y.prio, .int .i64 y.retr, .int .i64 y.dflt, .string y.code, .string y.caught, .int .i64 y.tgt] 36)).drew w5.heap.size y.cells := hx6
      clear hnew y0 y1 y2 y3 y4 y5 y6 y7 z0 z1 z2
      generalize (w5.alloc _).drew = w6 at *
      have HPC6 := Lib.hid (HPC5.out.below hb6 (Nat.le_refl _))
      have HN6 := Lib.hid (HN5.out.below hb6 (Nat.le_refl _))
      have HF6 := Lib.hid (HF5.out.below hb6 (Nat.le_refl _))
      have HB6 := Lib.hid (HB5.out.trans (hb6.mono HB5.out.size))
      have HX6 := Lib.hid hx6
      obtain ⟨f0, f1, f2⟩ := HFL.out
      have f0 := (hb6.cell (p := ⟨gf, j * 3, none⟩) hhl).trans f0
      have f1 := (hb6.cell (p := ⟨gf, j * 3 + 1, none⟩) hhl).trans f1
      have f2 := (hb6.cell (p := ⟨gf, j * 3 + 2, none⟩) hhl).trans f2
      have hg6 : g < w6.heap.size := Nat.lt_of_lt_of_le hgl hb6.size
      have hh6 : gf < w6.heap.size := Nat.lt_of_lt_of_le hhl hb6.size
      have hq6 := HPC6.out.lt
      obtain ⟨⟨z0, z1, z2⟩, _⟩ := tri_facts HPC6.out
      have hjI : (j : Int) < (p.m : Int) := by omega
      have hj0 : (0 : Int) ≤ (j : Int) := by omega
      have hmI : (0 : Int) < (p.m : Int) := by omega
      clear hx6 hb6 HPC5 HN5 HF5 HB5 HFL hke hke2 hkI hk0 hnI
      go_wp2_with fail
      apply once
      case h =>
        intro hr
        go_region
        exact hr
      have hnew := Cel.lit w6 #[.int .i64 f.frm, .int .i64 f.til, .string f.cond] 38
      have hb7 : Below w6.heap.size w6 (w6.alloc (.cells #[.int .i64 f.frm, .int .i64 f.til, .string f.cond] 38)).drew := ((Below.refl _ _).alloc (Nat.le_refl _) _).drew
      have hx7 : Cel (w6.alloc (.cells #[.int .i64 f.frm, .int .i64 f.til, .string f.cond] 38)).drew w6.heap.size f.cells := hnew.drewN 1
      clear hnew f0 f1 f2 z0 z1 z2
      generalize (w6.alloc _).drew = w7 at *
      have hlA := HLA.out _ rfl
      have hlF := HLF.out _ rfl
      dsimp only at hlA hlF
      have HOW : Hid (Ow w7 w2.heap.size w3.heap.size w5.heap.size w6.heap.size p y f) := by
        refine ⟨⟨_, _, _, _, _, _, HPC6.out.below hb7 (Nat.le_refl _), HN6.out.below hb7 (Nat.le_refl _), HF6.out.below hb7 (Nat.le_refl _), fun a ha => ?_, fun a ha => ?_⟩, HX6.out.below hb7 (Nat.le_refl _), hx7, hw23, hlq, by omega⟩
        · obtain rfl := Option.some.inj ha
          dsimp only
          omega
        · obtain rfl := Option.some.inj ha
          dsimp only
          omega
      have HB7 := Lib.hid (HB6.out.trans (hb7.mono HB6.out.size))
      rw [hz6] at HOW
      clear hb7 hx7 HPC6 HN6 HF6 HB6 HX6 hlA hlF hg6 hh6 hq6 hje hje2 hjI hj0 hmI hz6 hhl hgl hgb hhb HLA HLF
      go_upto_block 0 with (fail)
      obtain ⟨v, hv⟩ : ∃ v : Int, Go.bits .and .i64 which 15 = v := ⟨_, rfl⟩
      rw [hv]
      clear hv
      go_cut [] from 57 to 126 (fun wx => ∃ (p' : P) (y' : Nd) (f' : Fl), Ow wx w2.heap.size w3.heap.size w5.heap.size (w5.heap.size + 1) p' y' f' ∧ Okp p' ∧ Tn y' ∧ f'.cond.size ≤ 80 ∧ Below w.heap.size w wx)
      -- ONE
      case first =>
        by_cases hc : v = 0
        · subst hc
          have x0 := HOW.out.xc.cell 0 _ rfl
          have g0 := HOW.out.xc.froz 0 (by simp [Nd.cells])
          go_wp2_with fail
          go_meet
          exact ⟨p, { y with kind := n }, f, HOW.out.setx (set_grown (World.grownBy.refl _ _) 0 _) (HOW.out.xc.set (i := 0) (by simp [Nd.cells]) (.int .i64 n)), HOK.out, HXN.out, hfn, HB7.out.setCell (p := ⟨w5.heap.size, 0, none⟩) (by show w.heap.size ≤ w5.heap.size; omega) _⟩
        have b0 : (v == 0) = false := beq_eq_false_iff_ne.2 hc
        clear hc
        by_cases hc : v = 1
        · subst hc
          have x0 := HOW.out.xc.cell 1 _ rfl
          have g0 := HOW.out.xc.froz 1 (by simp [Nd.cells])
          go_wp2_with fail
          go_meet
          exact ⟨p, { y with topic := t }, f, HOW.out.setx (set_grown (World.grownBy.refl _ _) 1 _) (HOW.out.xc.set (i := 1) (by simp [Nd.cells]) (.string t)), HOK.out, ⟨by show t.size ≤ 1000; omega, HXN.out.2.1, HXN.out.2.2⟩, hfn, HB7.out.setCell (p := ⟨w5.heap.size, 1, none⟩) (by show w.heap.size ≤ w5.heap.size; omega) _⟩
        have b1 : (v == 1) = false := beq_eq_false_iff_ne.2 hc
        clear hc
        by_cases hc : v = 2
        · subst hc
          have x0 := HOW.out.xc.cell 2 _ rfl
          have g0 := HOW.out.xc.froz 2 (by simp [Nd.cells])
          go_wp2_with fail
          go_meet
          exact ⟨p, { y with prio := n }, f, HOW.out.setx (set_grown (World.grownBy.refl _ _) 2 _) (HOW.out.xc.set (i := 2) (by simp [Nd.cells]) (.int .i64 n)), HOK.out, HXN.out, hfn, HB7.out.setCell (p := ⟨w5.heap.size, 2, none⟩) (by show w.heap.size ≤ w5.heap.size; omega) _⟩
        have b2 : (v == 2) = false := beq_eq_false_iff_ne.2 hc
        clear hc
        by_cases hc : v = 3
        · subst hc
          have x0 := HOW.out.xc.cell 3 _ rfl
          have g0 := HOW.out.xc.froz 3 (by simp [Nd.cells])
          go_wp2_with fail
          go_meet
          exact ⟨p, { y with retr := n }, f, HOW.out.setx (set_grown (World.grownBy.refl _ _) 3 _) (HOW.out.xc.set (i := 3) (by simp [Nd.cells]) (.int .i64 n)), HOK.out, HXN.out, hfn, HB7.out.setCell (p := ⟨w5.heap.size, 3, none⟩) (by show w.heap.size ≤ w5.heap.size; omega) _⟩
        have b3 : (v == 3) = false := beq_eq_false_iff_ne.2 hc
        clear hc
        by_cases hc : v = 4
        · subst hc
          have x0 := HOW.out.xc.cell 4 _ rfl
          have g0 := HOW.out.xc.froz 4 (by simp [Nd.cells])
          go_wp2_with fail
          go_meet
          exact ⟨p, { y with dflt := n }, f, HOW.out.setx (set_grown (World.grownBy.refl _ _) 4 _) (HOW.out.xc.set (i := 4) (by simp [Nd.cells]) (.int .i64 n)), HOK.out, HXN.out, hfn, HB7.out.setCell (p := ⟨w5.heap.size, 4, none⟩) (by show w.heap.size ≤ w5.heap.size; omega) _⟩
        have b4 : (v == 4) = false := beq_eq_false_iff_ne.2 hc
        clear hc
        by_cases hc : v = 5
        · subst hc
          have x0 := HOW.out.xc.cell 5 _ rfl
          have g0 := HOW.out.xc.froz 5 (by simp [Nd.cells])
          go_wp2_with fail
          go_meet
          exact ⟨p, { y with code := t }, f, HOW.out.setx (set_grown (World.grownBy.refl _ _) 5 _) (HOW.out.xc.set (i := 5) (by simp [Nd.cells]) (.string t)), HOK.out, ⟨HXN.out.1, by show t.size ≤ 1000; omega, HXN.out.2.2⟩, hfn, HB7.out.setCell (p := ⟨w5.heap.size, 5, none⟩) (by show w.heap.size ≤ w5.heap.size; omega) _⟩
        have b5 : (v == 5) = false := beq_eq_false_iff_ne.2 hc
        clear hc
        by_cases hc : v = 6
        · subst hc
          have x0 := HOW.out.xc.cell 6 _ rfl
          have g0 := HOW.out.xc.froz 6 (by simp [Nd.cells])
          go_wp2_with fail
          go_meet
          exact ⟨p, { y with caught := t }, f, HOW.out.setx (set_grown (World.grownBy.refl _ _) 6 _) (HOW.out.xc.set (i := 6) (by simp [Nd.cells]) (.string t)), HOK.out, ⟨HXN.out.1, HXN.out.2.1, by show t.size ≤ 1000; omega⟩, hfn, HB7.out.setCell (p := ⟨w5.heap.size, 6, none⟩) (by show w.heap.size ≤ w5.heap.size; omega) _⟩
        have b6 : (v == 6) = false := beq_eq_false_iff_ne.2 hc
        clear hc
        by_cases hc : v = 7
        · subst hc
          have x0 := HOW.out.xc.cell 7 _ rfl
          have g0 := HOW.out.xc.froz 7 (by simp [Nd.cells])
          go_wp2_with fail
          go_meet
          exact ⟨p, { y with tgt := n }, f, HOW.out.setx (set_grown (World.grownBy.refl _ _) 7 _) (HOW.out.xc.set (i := 7) (by simp [Nd.cells]) (.int .i64 n)), HOK.out, HXN.out, hfn, HB7.out.setCell (p := ⟨w5.heap.size, 7, none⟩) (by show w.heap.size ≤ w5.heap.size; omega) _⟩
        have b7 : (v == 7) = false := beq_eq_false_iff_ne.2 hc
        clear hc
        by_cases hc : v = 8
        · subst hc
          have x0 := HOW.out.fc.cell 0 _ rfl
          have g0 := HOW.out.fc.froz 0 (by simp [Fl.cells])
          go_wp2_with fail
          go_meet
          exact ⟨p, y, { f with frm := n }, HOW.out.setf (set_grown (World.grownBy.refl _ _) 0 _) (HOW.out.fc.set (i := 0) (by simp [Fl.cells]) (.int .i64 n)), HOK.out, HXN.out, hfn, HB7.out.setCell (p := ⟨w5.heap.size + 1, 0, none⟩) (by show w.heap.size ≤ w5.heap.size + 1; omega) _⟩
        have b8 : (v == 8) = false := beq_eq_false_iff_ne.2 hc
        clear hc
        by_cases hc : v = 9
        · subst hc
          have x0 := HOW.out.fc.cell 1 _ rfl
          have g0 := HOW.out.fc.froz 1 (by simp [Fl.cells])
          go_wp2_with fail
          go_meet
          exact ⟨p, y, { f with til := n }, HOW.out.setf (set_grown (World.grownBy.refl _ _) 1 _) (HOW.out.fc.set (i := 1) (by simp [Fl.cells]) (.int .i64 n)), HOK.out, HXN.out, hfn, HB7.out.setCell (p := ⟨w5.heap.size + 1, 1, none⟩) (by show w.heap.size ≤ w5.heap.size + 1; omega) _⟩
        have b9 : (v == 9) = false := beq_eq_false_iff_ne.2 hc
        clear hc
        by_cases hc : v = 10
        · subst hc
          have x0 := HOW.out.fc.cell 2 _ rfl
          have g0 := HOW.out.fc.froz 2 (by simp [Fl.cells])
          go_wp2_with fail
          go_meet
          exact ⟨p, y, { f with cond := t }, HOW.out.setf (set_grown (World.grownBy.refl _ _) 2 _) (HOW.out.fc.set (i := 2) (by simp [Fl.cells]) (.string t)), HOK.out, HXN.out, (by show t.size ≤ 80; omega), HB7.out.setCell (p := ⟨w5.heap.size + 1, 2, none⟩) (by show w.heap.size ≤ w5.heap.size + 1; omega) _⟩
        have b10 : (v == 10) = false := beq_eq_false_iff_ne.2 hc
        clear hc
        by_cases hc : v = 11
        · subst hc
          obtain ⟨_, _, _, _, _, _, hpc, _⟩ := HOW.out.ex
          have x0 := hpc.cell 0 _ rfl
          have g0 := hpc.froz 0 (by simp)
          clear hpc
          go_wp2_with fail
          go_meet
          exact ⟨⟨t, p.nodes, p.flows⟩, y, f, HOW.out.name t, HOK.out.named hsz, HXN.out, hfn, HB7.out.setCell (p := ⟨w3.heap.size, 0, none⟩) (by show w.heap.size ≤ w3.heap.size; omega) _⟩
        have b11 : (v == 11) = false := beq_eq_false_iff_ne.2 hc
        clear hc
        by_cases hc : v = 12
        · subst hc
          obtain ⟨A, pn, c, F, pm, d, hpc, hN, hF, h1, h2⟩ := HOW.out.ex
          have hba : Below w7.heap.size w7 (w7.alloc (.cells #[.int .i64 f.frm, .int .i64 f.til, .string f.cond] 38)) := (Below.refl _ _).alloc (Nat.le_refl _) _
          have HPa := Lib.hid (hpc.below hba (Nat.le_refl _))
          have HNa := Lib.hid (hN.below hba (Nat.le_refl _))
          have HFa := Lib.hid (hF.below hba (Nat.le_refl _))
          have HXa := Lib.hid (HOW.out.xc.below hba (Nat.le_refl _))
          have HYa := Lib.hid (HOW.out.fc.below hba (Nat.le_refl _))
          have HBa := Lib.hid (HB7.out.trans (hba.mono HB7.out.size))
          have HR : Hid (KRow Fl.κ (w7.alloc (.cells #[.int .i64 f.frm, .int .i64 f.til, .string f.cond] 38)) (w7.heap.size + 1) (some ⟨w7.heap.size, 0, none⟩) 1 [f]) := Lib.hid (KRow.lit (κ := Fl.κ) w7 38 [f] #[.int .i64 f.frm, .int .i64 f.til, .string f.cond] rfl)
          have hln : p.nodes.length = pn := hN.len
          have hlm : p.flows.length = pm := hF.len
          have hpn : p.n = pn := hln
          have hpm : p.m = pm := hlm
          have hbw : w2.heap.size ≤ (w7.alloc (.cells #[.int .i64 f.frm, .int .i64 f.til, .string f.cond] 38)).heap.size := by have := hpc.lt; simp; omega
          obtain ⟨⟨z0, z1, z2⟩, y0, y1, y2⟩ := tri_facts hpc
          obtain ⟨x0, x1, x2⟩ : _ ∧ _ ∧ _ := ⟨HOW.out.fc.cell 0 _ rfl, HOW.out.fc.cell 1 _ rfl, HOW.out.fc.cell 2 _ rfl⟩
          obtain ⟨i0, hi0, hz0, hz1, hz2⟩ := info_parts info_node
          obtain ⟨i1, hi1, hy0, hy1, hy2⟩ := info_parts info_flow
          have hq7 := hpc.lt
          have H1 := Lib.hid h1
          have H2 := Lib.hid h2
          have hpn999 : pn ≤ 999 := by omega
          have hpm999 : pm ≤ 999 := by omega
          clear hpc hN hF hba hln hlm hpn hpm h1 h2
          go_wp2_with (at_builtin; refine append_k (κ := Fl.κ) rfl (.tmp 109) (.tmp 111) 28 38 i1 _ 32 Tryz.underlying28 hi1 hy0 hy1 hy2 rfl rfl _ w2.heap.size _ F pm d p.flows ⟨w7.heap.size, 0, none⟩ f rfl HFa.out rfl HR.out (by omega) (by decide) hbw ?_; intro A' c' w' ho hg; obtain ⟨⟨d0, d1, d2⟩, e0, e1, e2⟩ := tri_facts (cel_grew HPa.out hg fun a ha => (H2.out a ha).1))
          go_meet
          exact ⟨⟨p.name, p.nodes, p.flows ++ [f]⟩, y, f, Ow.appf HPa.out HNa.out HFa.out H1.out H2.out HXa.out HYa.out HOW.out.o1 HOW.out.o2 HOW.out.o3 hg ho, HOK.out.flow (by omega) hfn, HXN.out, hfn, (HBa.out.trans ((hg.below HFa.out.2 hbw).mono (by omega))).setCell (p := ⟨w3.heap.size, 2, none⟩) (by show w.heap.size ≤ w3.heap.size; omega) _⟩
        have b12 : (v == 12) = false := beq_eq_false_iff_ne.2 hc
        clear hc
        by_cases hc : v = 13
        · subst hc
          obtain ⟨A, pn, c, F, pm, d, hpc, hN, hF, h1, h2⟩ := HOW.out.ex
          have hba : Below w7.heap.size w7 (w7.alloc (.cells #[.int .i64 y.kind, .string y.topic, .int .i64 y.prio, .int .i64 y.retr, .int .i64 y.dflt, .string y.code, .string y.caught, .int .i64 y.tgt] 36)) := (Below.refl _ _).alloc (Nat.le_refl _) _
          have HPa := Lib.hid (hpc.below hba (Nat.le_refl _))
          have HNa := Lib.hid (hN.below hba (Nat.le_refl _))
          have HFa := Lib.hid (hF.below hba (Nat.le_refl _))
          have HXa := Lib.hid (HOW.out.xc.below hba (Nat.le_refl _))
          have HYa := Lib.hid (HOW.out.fc.below hba (Nat.le_refl _))
          have HBa := Lib.hid (HB7.out.trans (hba.mono HB7.out.size))
          have HR : Hid (KRow Nd.κ (w7.alloc (.cells #[.int .i64 y.kind, .string y.topic, .int .i64 y.prio, .int .i64 y.retr, .int .i64 y.dflt, .string y.code, .string y.caught, .int .i64 y.tgt] 36)) (w7.heap.size + 1) (some ⟨w7.heap.size, 0, none⟩) 1 [y]) := Lib.hid (KRow.lit (κ := Nd.κ) w7 36 [y] #[.int .i64 y.kind, .string y.topic, .int .i64 y.prio, .int .i64 y.retr, .int .i64 y.dflt, .string y.code, .string y.caught, .int .i64 y.tgt] rfl)
          have hln : p.nodes.length = pn := hN.len
          have hlm : p.flows.length = pm := hF.len
          have hpn : p.n = pn := hln
          have hpm : p.m = pm := hlm
          have hbw : w2.heap.size ≤ (w7.alloc (.cells #[.int .i64 y.kind, .string y.topic, .int .i64 y.prio, .int .i64 y.retr, .int .i64 y.dflt, .string y.code, .string y.caught, .int .i64 y.tgt] 36)).heap.size := by have := hpc.lt; simp; omega
          obtain ⟨⟨z0, z1, z2⟩, y0, y1, y2⟩ := tri_facts hpc
          obtain ⟨x0, x1, x2, x3, x4, x5, x6, x7⟩ := nd_facts HOW.out.xc
          obtain ⟨i0, hi0, hz0, hz1, hz2⟩ := info_parts info_node
          obtain ⟨i1, hi1, hy0, hy1, hy2⟩ := info_parts info_flow
          have hq7 := hpc.lt
          have H1 := Lib.hid h1
          have H2 := Lib.hid h2
          have hpn999 : pn ≤ 999 := by omega
          have hpm999 : pm ≤ 999 := by omega
          clear hpc hN hF hba hln hlm hpn hpm h1 h2
          go_wp2_with (at_builtin; refine append_k (κ := Nd.κ) rfl (.tmp 117) (.tmp 119) 27 36 i0 _ 88 Tryz.underlying27 hi0 hz0 hz1 hz2 rfl rfl _ w2.heap.size _ A pn c p.nodes ⟨w7.heap.size, 0, none⟩ y rfl HNa.out rfl HR.out (by omega) (by decide) hbw ?_; intro A' c' w' ho hg; obtain ⟨⟨d0, d1, d2⟩, e0, e1, e2⟩ := tri_facts (cel_grew HPa.out hg fun a ha => (H1.out a ha).1))
          go_meet
          exact ⟨⟨p.name, p.nodes ++ [y], p.flows⟩, y, f, Ow.appn HPa.out HNa.out HFa.out H1.out H2.out HXa.out HYa.out HOW.out.o1 HOW.out.o2 HOW.out.o3 hg ho, HOK.out.node (by omega) HXN.out, HXN.out, hfn, (HBa.out.trans ((hg.below HNa.out.2 hbw).mono (by omega))).setCell (p := ⟨w3.heap.size, 1, none⟩) (by show w.heap.size ≤ w3.heap.size; omega) _⟩
        have b13 : (v == 13) = false := beq_eq_false_iff_ne.2 hc
        clear hc
        by_cases hc : v = 14
        · subst hc
          have x0 := HOW.out.fc.cell 0 _ rfl
          have x1 := HOW.out.fc.cell 1 _ rfl
          have g0 := HOW.out.fc.froz 0 (by simp [Fl.cells])
          go_wp2_with fail
          go_meet
          exact ⟨p, y, { f with frm := f.til }, HOW.out.setf (set_grown (World.grownBy.refl _ _) 0 _) (HOW.out.fc.set (i := 0) (by simp [Fl.cells]) (.int .i64 f.til)), HOK.out, HXN.out, hfn, HB7.out.setCell (p := ⟨w5.heap.size + 1, 0, none⟩) (by show w.heap.size ≤ w5.heap.size + 1; omega) _⟩
        have b14 : (v == 14) = false := beq_eq_false_iff_ne.2 hc
        clear hc
        obtain ⟨x0, x1, x2, x3, x4, x5, x6, x7⟩ := nd_facts HOW.out.xc
        obtain ⟨f0, f1, f2, f3, f4, f5, f6, f7⟩ : w7.frozen? ⟨w5.heap.size, 0, none⟩ = false ∧ w7.frozen? ⟨w5.heap.size, 1, none⟩ = false ∧ w7.frozen? ⟨w5.heap.size, 2, none⟩ = false ∧ w7.frozen? ⟨w5.heap.size, 3, none⟩ = false ∧ w7.frozen? ⟨w5.heap.size, 4, none⟩ = false ∧ w7.frozen? ⟨w5.heap.size, 5, none⟩ = false ∧ w7.frozen? ⟨w5.heap.size, 6, none⟩ = false ∧ w7.frozen? ⟨w5.heap.size, 7, none⟩ = false :=
          ⟨HOW.out.xc.froz 0 (by simp [Nd.cells]), HOW.out.xc.froz 1 (by simp [Nd.cells]), HOW.out.xc.froz 2 (by simp [Nd.cells]), HOW.out.xc.froz 3 (by simp [Nd.cells]), HOW.out.xc.froz 4 (by simp [Nd.cells]), HOW.out.xc.froz 5 (by simp [Nd.cells]), HOW.out.xc.froz 6 (by simp [Nd.cells]), HOW.out.xc.froz 7 (by simp [Nd.cells])⟩
        go_wp2_with fail
        go_meet
        exact ⟨p, ⟨0, no, 0, 0, -1, no, no, -1⟩, f, HOW.out.setx (storeAll_grown (g := w5.heap.size) (Nd.cells ⟨0, no, 0, 0, -1, no, no, -1⟩) 0 w7) (cel_eight HOW.out.xc _ _ _ _ _ _ _ _), HOK.out, ⟨by decide, by decide, by decide⟩, hfn, below_eight HB7.out (by omega) _ _ _ _ _ _ _ _⟩
      case rest =>
        clear HOW HOK HXN HB7 hfn hn0 hm0 hk hj hn27 hm52 HSD hkn
        generalize wc = w8 at *
        refine Classical.byContradiction fun hN0 => ?_
        obtain ⟨p', y', f', how, hok, hxn', hfn', hb8⟩ := hcut
        obtain ⟨A, pn, c, F, pm, d, hpc, hN, hF, h1, h2⟩ := how.ex
        obtain ⟨o1, o2, o3⟩ := (⟨how.o1, how.o2, how.o3⟩ : _ ∧ _ ∧ _)
        have hyc := how.xc
        have hfc := how.fc
        have hn0 := hok.n0
        have hn1 := hok.n1
        have hm0 := hok.m0
        have hm1 := hok.m1
        obtain rfl : p'.n = pn := hN.len
        obtain rfl : p'.m = pm := hF.len
        obtain ⟨g, rfl, hgb, hgl⟩ := hN.some_of hn0
        obtain ⟨k, hk, hke, hke2⟩ : ∃ k : Nat, k < p'.n ∧ x.tmod (p'.n : Int) = (k : Int) ∧ x % (p'.n : Int) = (k : Int) := by
          have h1 := Int.emod_nonneg x (show (p'.n : Int) ≠ 0 by omega)
          have h2 := Int.emod_lt_of_pos x (show (0 : Int) < (p'.n : Int) by omega)
          exact ⟨(x % (p'.n : Int)).toNat, by omega, by rw [Int.tmod_eq_emod_of_nonneg hx]; omega, by omega⟩
        obtain ⟨r0, r1, r2, r3, r4, r5, r6, r7⟩ := nd_at hN.row hk
        rw [Nat.zero_add] at r0 r1 r2 r3 r4 r5 r6 r7
        have hfz := hN.frozen
        obtain ⟨⟨z0, z1, z2⟩, _⟩ := tri_facts hpc
        obtain ⟨x0, x1, x2, x3, x4, x5, x6, x7⟩ := nd_facts hyc
        have hlq := hpc.lt
        have hlx := hyc.lt
        have hlf := hfc.lt
        have hh1 := h1 _ rfl
        dsimp only at hh1
        have HOW9 := Lib.hid ((Ow.putn hpc hN hF hh1 h2 hyc hfc o1 o2 o3 hk).drew)
        have HB9 := Lib.hid ((hb8.grown (storeAll_grown (g := g) y'.cells (k * 8) w8) hb8.size (fun k hk => by have := Option.some.inj hk; omega)).drew)
        have HOK9 := Lib.hid (hok.setn k hxn')
        have hkI : (k : Int) < (p'.n : Int) := by omega
        have hk0 : (0 : Int) ≤ (k : Int) := by omega
        have hnI : (0 : Int) < (p'.n : Int) := by omega
        have q0 := hfz (k * 8)
        have q1 := hfz (k * 8 + 1)
        have q2 := hfz (k * 8 + 2)
        have q3 := hfz (k * 8 + 3)
        have q4 := hfz (k * 8 + 4)
        have q5 := hfz (k * 8 + 5)
        have q6 := hfz (k * 8 + 6)
        have q7 := hfz (k * 8 + 7)
        have g1 : ¬ g = w3.heap.size := hh1.1
        have g2 : ¬ g = w5.heap.size := hh1.2.1
        have g3 : ¬ g = w5.heap.size + 1 := hh1.2.2
        clear how hpc hN hF h1 h2 hyc hfc hok hxn' hh1 hfz hb8
        refine hN0 ?_
        clear hN0
        go_wp2_with fail
        apply once
        case h =>
          intro hr
          go_region
          exact hr
        change Exit.then _ _ _ _ (storeAll w8 g (k * 8) y'.cells).drew
        generalize (storeAll w8 g (k * 8) y'.cells).drew = w9 at *
        refine Classical.byContradiction fun hN0 => ?_
        clear r0 r1 r2 r3 r4 r5 r6 r7 z0 z1 z2 x0 x1 x2 x3 x4 x5 x6 x7 q0 q1 q2 q3 q4 q5 q6 q7 g1 g2 g3 hke hke2 hkI hk0 hnI hlq hlx hlf hgb hgl hn0 hn1 hm0 hm1 hk
        obtain ⟨p2, hp2⟩ : ∃ p2 : P, (⟨p'.name, p'.nodes.set k y', p'.flows⟩ : P) = p2 := ⟨_, rfl⟩
        rw [hp2] at HOW9 HOK9
        clear hp2
        obtain ⟨A, pn, c, F, pm, d, hpc, hN, hF, h1, h2⟩ := HOW9.out.ex
        have hyc := HOW9.out.xc
        have hfc := HOW9.out.fc
        have hn0 := HOK9.out.n0
        have hn1 := HOK9.out.n1
        have hm0 := HOK9.out.m0
        have hm1 := HOK9.out.m1
        obtain rfl : p2.n = pn := hN.len
        obtain rfl : p2.m = pm := hF.len
        obtain ⟨g, rfl, hgb, hgl⟩ := hF.some_of hm0
        obtain ⟨k, hk, hke, hke2⟩ : ∃ k : Nat, k < p2.m ∧ x.tmod (p2.m : Int) = (k : Int) ∧ x % (p2.m : Int) = (k : Int) := by
          have h1 := Int.emod_nonneg x (show (p2.m : Int) ≠ 0 by omega)
          have h2 := Int.emod_lt_of_pos x (show (0 : Int) < (p2.m : Int) by omega)
          exact ⟨(x % (p2.m : Int)).toNat, by omega, by rw [Int.tmod_eq_emod_of_nonneg hx]; omega, by omega⟩
        obtain ⟨r0, r1, r2⟩ := fl_at hF.row hk
        rw [Nat.zero_add] at r0 r1 r2
        have hfz := hF.frozen
        obtain ⟨⟨z0, z1, z2⟩, _⟩ := tri_facts hpc
        obtain ⟨x0, x1, x2⟩ : _ ∧ _ ∧ _ := ⟨hfc.cell 0 _ rfl, hfc.cell 1 _ rfl, hfc.cell 2 _ rfl⟩
        have hlq := hpc.lt
        have hlx := hyc.lt
        have hlf := hfc.lt
        have hh2 := h2 _ rfl
        dsimp only at hh2
        have HOWt := Lib.hid ((Ow.putf hpc hN hF h1 hh2 hyc hfc o1 o2 o3 hk).drew)
        have HBt := Lib.hid ((HB9.out.grown (storeAll_grown (g := g) f'.cells (k * 3) w9) HB9.out.size (fun k hk => by have := Option.some.inj hk; omega)).drew)
        have HOKt := Lib.hid (HOK9.out.setf k hfn')
        have hkI : (k : Int) < (p2.m : Int) := by omega
        have hk0 : (0 : Int) ≤ (k : Int) := by omega
        have hnI : (0 : Int) < (p2.m : Int) := by omega
        have q0 := hfz (k * 3)
        have q1 := hfz (k * 3 + 1)
        have q2 := hfz (k * 3 + 2)
        have g1 : ¬ g = w3.heap.size := hh2.1
        have g2 : ¬ g = w5.heap.size := hh2.2.1
        have g3 : ¬ g = w5.heap.size + 1 := hh2.2.2
        clear hpc hN hF h1 h2 hyc hfc hh2 hfz hfn'
        refine hN0 ?_
        clear hN0
        go_wp2_with fail
        apply once
        case h =>
          intro hr
          go_region
          exact hr
        change Exit.then _ _ _ _ (storeAll w9 g (k * 3) f'.cells).drew
        generalize (storeAll w9 g (k * 3) f'.cells).drew = wt at *
        refine Classical.byContradiction fun hN0 => ?_
        clear r0 r1 r2 z0 z1 z2 x0 x1 x2 q0 q1 q2 g1 g2 g3 hke hke2 hkI hk0 hnI hlq hlx hlf hgb hgl hn0 hn1 hm0 hm1 hk HOW9 HOK9 HB9
        obtain ⟨p3, hp3⟩ : ∃ p3 : P, (⟨p2.name, p2.nodes, p2.flows.set k f'⟩ : P) = p3 := ⟨_, rfl⟩
        rw [hp3] at HOWt HOKt
        clear hp3
        obtain ⟨A, pn, c, F, pm, d, hpc, hN, hF, h1, h2⟩ := HOWt.out.ex
        obtain rfl : p3.n = pn := hN.len
        obtain rfl : p3.m = pm := hF.len
        have hn1 := HOKt.out.n1
        have hm1 := HOKt.out.m1
        have hlq := hpc.lt
        have HS := Lib.hid (fun w' (hb : Below wt.heap.size wt w') => (show w'.cell? ⟨w3.heap.size, 0, none⟩ = some (.string p3.name) ∧ w'.cell? ⟨w3.heap.size, 1, none⟩ = some (.slice A p3.n c) ∧ w'.cell? ⟨w3.heap.size, 2, none⟩ = some (.slice F p3.m d) from by
          obtain ⟨⟨b0, b1, b2⟩, _⟩ := tri_facts (hpc.below hb (Nat.le_refl _))
          exact ⟨b0, b1, b2⟩))
        have HCK := Lib.hid (fun w' (hb : Below wt.heap.size wt w') => check_any HPE.out HC'.out HT.out A p3.n c F p3.m d p3 w' (HBt.out.trans (hb.mono HBt.out.size)) ((hN.below hb (Nat.le_refl _)).row) ((hF.below hb (Nat.le_refl _)).row) (by omega) (by omega) HOKt.out.lite HOKt.out.cond)
        have HRC := Lib.hid (fun w' (hb : Below wt.heap.size wt w') => refcheck_any (Lib.hid refparse_any) A p3.n c F p3.m d p3 w' ((hN.below hb (Nat.le_refl _)).row) ((hF.below hb (Nat.le_refl _)).row) (by omega) (by omega) HOKt.out.lite)
        have hbd : Below wt.heap.size wt wt.drew := (Below.refl _ _).drew
        have SD := HS.out _ hbd
        obtain ⟨z0, z1, z2⟩ := HS.out wt (Below.refl _ _)
        have HBD := Lib.hid hbd
        generalize check p3 = ck at *
        clear hpc hN hF h1 h2 hbd
        refine hN0 ?_
        clear hN0
        go_wp2_with fail
        go_region_held3 (fun w' => w'.cell? ⟨w3.heap.size, 0, none⟩ = some (.string p3.name) ∧ w'.cell? ⟨w3.heap.size, 1, none⟩ = some (.slice A p3.n c) ∧ w'.cell? ⟨w3.heap.size, 2, none⟩ = some (.slice F p3.m d)) (first | exact SC | exact SB | exact SA | exact SD) (first
          | (go_at_call 7; refine (HCK.out _ HBD.out).mono ?_; rintro e wA ⟨⟨ev, rfl, hev⟩, hbA⟩; have HBA := Lib.hid (HBD.out.trans (hbA.mono HBD.out.size)); have SA := HS.out _ HBA.out; have HEV := Lib.hid hev; clear hbA hev)
          | (go_at_call 9; refine (HRC.out _ HBA.out).mono ?_; rintro e wB ⟨rfl, hbB⟩; have HBB := Lib.hid (HBA.out.trans (hbB.mono HBA.out.size)); have HEB := Lib.hid (HEV.out.below hbB (Nat.le_refl _)); have SB := HS.out _ HBB.out; clear hbB)
          | (go_at_call 8; refine (same_fault (HE0.out.below (HBt.out.trans (HBB.out.mono HBt.out.size)) (Nat.le_refl _)) HEB.out).mono ?_; rintro e wC ⟨rfl, hbC⟩; have HBC := Lib.hid (HBB.out.trans (hbC.mono HBB.out.size)); have SC := HS.out _ HBC.out; clear hbC))
        all_goals
          go_wp2
          go_ret
          exact ⟨rfl, HBt.out.trans (HBC.out.mono HBt.out.size)⟩
  · have hszI : (t.size : Int) > 60 := by omega
    go_wp2
    go_ret
    exact ⟨rfl, HB2.out⟩
end Go.Proofs.YtddedbpbenkdoaaGreatDoor
