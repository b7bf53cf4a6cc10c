/- Package again: Keep, the walk. -/
import Derived.Test.YtfpennnbicclfaaAgh
import Derived.Shelf.SlMaps.Clone
namespace Go.Proofs.Ytfpennnbicclfaa
open Go.RowKit

namespace Ag
set_option maxRecDepth 10000 in
set_option maxHeartbeats 1600000 in
theorem keep_any (q : Nat) (m : Option Nat) (l : List Pg) (s : ByteArray) (i k : Int) (A : Option Addr) (n c : Nat) (rep : List UInt8) (w : World) (hb : BkC w q m l) (hs : s.size ≤ 1000000) (hr : Bytes w w.heap.size A n rep) (hA : A = none → n = 0 ∧ c = 0) (hn : n ≤ 1000000) (hra : 0 < n → ∀ a, A = some a → ¬ Wr q m l a.block) :
    Calls Try.prog 12 #[.pointer (some ⟨q, 0, none⟩), .agg #[.string s, .int .i64 i, .int .i64 k], .slice A n c] w fun e w' => e = .returned (.bool (decide ((look (l.map Pg.ab) s i k).1 = 0))) ∧ KeepOut q m l (keep (l.map Pg.ab) s i k rep) w w' := by
  have hs2 : s.size ≤ maxLen := by unfold maxLen; omega
  have hb1 : Below w.heap.size w (w.alloc (.cells #[.string s, .int .i64 i, .int .i64 k] 39)) := (Below.refl _ _).alloc (Nat.le_refl _) _
  have hc1 : Cel (w.alloc (.cells #[.string s, .int .i64 i, .int .i64 k] 39)) w.heap.size [.string s, .int .i64 i, .int .i64 k] := Cel.lit w #[.string s, .int .i64 i, .int .i64 k] 39
  obtain ⟨M, hM⟩ : ∃ M, l.map Pg.ab = M := ⟨_, rfl⟩
  have HLK := Lib.hid (look_any q m l s i k _ (hb.below hb1) hs)
  rw [hM] at HLK ⊢
  unfold keep
  obtain ⟨r, hr0⟩ : ∃ r, look M s i k = r := ⟨_, rfl⟩
  rw [hr0] at HLK ⊢
  obtain ⟨r1, r2⟩ := r
  dsimp only at *
  have HL2 := Lib.hid (fun W (hW : Below w.heap.size w W) => bk_look (hb.below hW) hs2)
  have HB := Lib.hid hb
  have HB1 := Lib.hid hb1
  have HC1 := Lib.hid hc1
  have HR := Lib.hid hr
  have HR0 := Lib.hid hr0
  have HM := Lib.hid hM
  have HS := Lib.hid hs2
  have HSZ := Lib.hid hs
  have HA := Lib.hid hA
  have HN := Lib.hid hn
  have HRA := Lib.hid hra
  have hw1 : w.heap.size < (w.alloc (.cells #[.string s, .int .i64 i, .int .i64 k] 39)).heap.size := by simp
  obtain ⟨d0, d1, d2⟩ := cel3 hc1
  clear hb hb1 hc1 hr hs2 hs hr0 hM hA hn hra
  by_cases hz : r1 = 0
  · subst hz
    rw [if_pos rfl, decide_eq_true rfl]
    have LK := HL2.out
    clear HL2
    go_enter Try.func12, Try.ntmps12
    go_wp2_with fail
    generalize w.alloc _ = w1 at *
    refine HLK.out.mono ?_
    rintro e w2 ⟨A2, n2, c2, rfl, _, hb2⟩
    have HB2 := Lib.hid (HB1.out.trans (hb2.mono HB1.out.size))
    have hd2 := HC1.out.below hb2 (Nat.le_refl _)
    have HC2 := Lib.hid hd2
    have hw2 : w.heap.size < w2.heap.size := Nat.lt_of_lt_of_le hw1 hb2.size
    clear d0 d1 d2 hb2 hw1 HB1 HC1 HLK
    obtain ⟨d0, d1, d2⟩ := cel3 hd2
    clear hd2
    obtain ⟨X, hX⟩ : ∃ X, rawAt s l = X := ⟨_, rfl⟩
    obtain ⟨B, hBB⟩ : ∃ B, hasAt s l = B := ⟨_, rfl⟩
    rw [hX, hBB] at LK
    obtain ⟨wkr, inc, ka, kn, kc, ra, rn, rc⟩ := X
    unfold Rw.val at LK
    dsimp only at LK
    have L1 := LK _ HB2.out.drew
    have L2 := LK _ (HB2.out.alloc HB2.out.size (.cells #[.string ⟨#[]⟩, .int .i64 0, .slice none 0 0, .slice none 0 0] 51)).drew
    have HX := Lib.hid (And.intro hX hBB)
    have c0 := (HB.out.below HB2.out).cel.cell 0 _ rfl
    have hq2 := (HB.out.below HB2.out).cel.lt
    clear hX hBB LK
    go_upto_region 4 with (fail)
    apply once
    case h =>
      intro ho
      go_region
      all_goals exact ho
    have hb3 : Below w.heap.size w (w2.alloc (.cells #[.string wkr, .int .i64 inc, .slice ka kn kc, .slice ra rn rc] 51)).drew := (HB2.out.alloc HB2.out.size _).drew
    have hb4 : Below w2.heap.size w2 (w2.alloc (.cells #[.string wkr, .int .i64 inc, .slice ka kn kc, .slice ra rn rc] 51)).drew := ((Below.refl _ _).alloc (Nat.le_refl _) _).drew
    have hp3 : Cel (w2.alloc (.cells #[.string wkr, .int .i64 inc, .slice ka kn kc, .slice ra rn rc] 51)).drew w2.heap.size [.string wkr, .int .i64 inc, .slice ka kn kc, .slice ra rn rc] := (Cel.lit w2 #[.string wkr, .int .i64 inc, .slice ka kn kc, .slice ra rn rc] 51).drewN 1
    have hd3 := HC2.out.below hb4 (Nat.le_refl _)
    clear d0 d1 d2 c0 L1 L2 hb4 HB2 HC2
    generalize (w2.alloc _).drew = w3 at *
    generalize w2.heap.size = z at *
    obtain ⟨d0, d1, d2⟩ := cel3 hd3
    obtain ⟨⟨p0, p1, p2, p3⟩, f0, f1, f2, f3⟩ := cel4 hp3
    have HB3 := Lib.hid hb3
    have HC3 := Lib.hid hd3
    have HP3 := Lib.hid hp3
    clear hb3 hd3 hp3
    obtain ⟨bp, hbw, hbi, hba, hbp, hroom⟩ := base_of HM.out HR0.out HX.out.1 HX.out.2
    have HBW := Lib.hid (And.intro hbw hbi)
    have HBA := Lib.hid hba
    have HBP := Lib.hid hbp
    have HRM := Lib.hid hroom
    clear hbw hbi hba hbp hroom HX HR0
    go_upto_region 5 with (fail)
    obtain ⟨C, hC⟩ : ∃ C, (!B || decide (inc < i)) = C := ⟨_, rfl⟩
    have HCC := Lib.hid hC
    go_cut [37] from 29 to 37 (fun s37 wx => s37 = .bool C ∧ wx = w3)
    case first =>
      cases B with
      | false =>
        have hC : true = C := hC
        subst hC
        go_wp2
        go_meet
        exact ⟨rfl, rfl⟩
      | true =>
        by_cases h1 : inc < i
        · have e : decide (inc < i) = true := decide_eq_true h1
          rw [e] at hC
          have hC : true = C := hC
          subst hC
          go_wp2
          go_meet
          exact ⟨rfl, rfl⟩
        · have e : decide (inc < i) = false := decide_eq_false h1
          rw [e] at hC
          have hC : false = C := hC
          subst hC
          go_wp2
          go_meet
          exact ⟨rfl, rfl⟩
    case rest =>
      obtain ⟨rfl, rfl⟩ := hcut
      clear hC
      generalize wc = w3 at *
      go_upto_if 37 with (fail)
      go_cut [9] from 38 to 42 (fun s9 wx => s9 = .pointer (some ⟨z, 0, none⟩) ∧ Cel wx z [.string s, .int .i64 i, .slice bp.ka bp.keys.length bp.kc, .slice bp.ra bp.rows.length bp.rc] ∧ Below w.heap.size w wx ∧ Cel wx w.heap.size [.string s, .int .i64 i, .int .i64 k])
      case first =>
        cases C with
        | true =>
          have hbp : bp = ⟨s, i, none, 0, [], none, 0, []⟩ := by
            rcases HBP.out with ⟨_, h⟩ | ⟨h, _⟩
            · exact h
            · exact absurd (h.symm.trans HCC.out) (by decide)
          subst hbp
          have hset := (((HP3.out.set (i := 0) (by simp) (.string s)).set (i := 1) (by simp) (.int .i64 i)).set (i := 2) (by simp) (.slice none 0 0)).set (i := 3) (by simp) (.slice none 0 0)
          have HSET := Lib.hid hset
          have hsb := (((HB3.out.setCell (p := ⟨z, 0, none⟩) (Nat.le_of_lt hw2) (.string s)).setCell (p := ⟨z, 1, none⟩) (Nat.le_of_lt hw2) (.int .i64 i)).setCell (p := ⟨z, 2, none⟩) (Nat.le_of_lt hw2) (.slice none 0 0)).setCell (p := ⟨z, 3, none⟩) (Nat.le_of_lt hw2) (.slice none 0 0)
          have HSB := Lib.hid hsb
          have HSC := Lib.hid ((HC3.out.kept (set_grown (set_grown (set_grown (set_grown (World.grownBy.refl w3 (some z)) 0 (.string s)) 1 (.int .i64 i)) 2 (.slice none 0 0)) 3 (.slice none 0 0)) (fun e => by have := Option.some.inj e; omega)))
          clear hset hsb
          go_wp2
          go_meet
          exact ⟨rfl, HSET.out, HSB.out, HSC.out⟩
        | false =>
          have hbp : bp.raw = ⟨wkr, inc, ka, kn, kc, ra, rn, rc⟩ := by
            rcases HBP.out with ⟨h, _⟩ | ⟨_, _, h⟩
            · exact absurd (h.symm.trans HCC.out) (by decide)
            · exact h
          injection hbp with e1 e2 e3 e4 e5 e6 e7 e8
          have ew := Lib.hid (show wkr = s from e1.symm.trans HBW.out.1)
          have ei := Lib.hid (show inc = i from e2.symm.trans HBW.out.2)
          have HE := Lib.hid (show (Value.slice ka kn kc) = .slice bp.ka bp.keys.length bp.kc ∧ Value.slice ra rn rc = .slice bp.ra bp.rows.length bp.rc by rw [← e3, ← e4, ← e5, ← e6, ← e7, ← e8]; exact ⟨rfl, rfl⟩)
          clear e1 e2 e3 e4 e5 e6 e7 e8
          go_wp2
          go_meet
          refine ⟨rfl, ?_, HB3.out, HC3.out⟩
          rw [← HE.out.1, ← HE.out.2, ← ew.out, ← ei.out]
          exact HP3.out
      case rest =>
        obtain ⟨rfl, hcz, hbx, hch⟩ := hcut
        clear p0 p1 p2 p3 f0 f1 f2 f3 d0 d1 d2 HP3 HC3 HB3 HCC
        generalize wc = w5 at *
        have hcz2 : Cel w5 z bp.raw.cells := by
          show Cel w5 z [.string bp.wkr, .int .i64 bp.inc, .slice bp.ka bp.keys.length bp.kc, .slice bp.ra bp.rows.length bp.rc]
          rw [HBW.out.1, HBW.out.2]
          exact hcz
        obtain ⟨hI, hP⟩ := KInv.start HB.out HSZ.out HBW.out.1 HBP.out hcz2 hbx hch hw2
        clear hcz2
        clear hcz hch hbx w3
        have HI := Lib.hid hI
        have HFEW := Lib.hid hP.few
        have HPI := Lib.hid (pushi_any bp.ka bp.keys.length bp.kc bp.keys k w5 hP.keys hP.few.1)
        have HOWN := Lib.hid (fun x (h : bp.own x) => hP.own_lt h)
        obtain ⟨⟨p0, p1, p2, p3⟩, f0, f1, f2, f3⟩ := cel4 hI.cz
        obtain ⟨d0, d1, d2⟩ := cel3 hI.ch
        have hzlt := hI.cz.lt
        dsimp only [Pg.raw] at p0 p1 p2 p3
        clear hI hP
        go_wp2_with fail
        refine HPI.out.mono ?_
        rintro e w6 ⟨A1, c1, rfl, ho1, hg1⟩
        have hlp := len_pushed bp.keys k HFEW.out.1
        have HI1 := Lib.hid (HI.out.key hlp.symm ho1 hg1)
        have HG1 := Lib.hid hg1
        have hzlt6 : z < w6.heap.size := Nat.lt_of_lt_of_le hzlt hg1.size
        have hfz : w6.frozen? ⟨z, 2, none⟩ = false := by
          have := (HI.out.cz.kept hg1.grown (fun e => by
            obtain ⟨a, h1, h2⟩ := ownB e
            exact (HI.out.oz _ (.inl (.inl ⟨a, h1, rfl⟩))).1 h2)).froz 2 (by simp [Pg.raw, Rw.cells])
          exact this
        have hc2 : w6.cell? ⟨z, 2, none⟩ = some (.slice bp.ka bp.keys.length bp.kc) := by
          have := (HI.out.cz.kept hg1.grown (fun e => by
            obtain ⟨a, h1, h2⟩ := ownB e
            exact (HI.out.oz _ (.inl (.inl ⟨a, h1, rfl⟩))).1 h2)).cell 2 _ rfl
          exact this
        clear p0 p1 p2 p3 f0 f1 f2 f3 d0 d1 d2 hzlt hlp ho1 hg1 HPI
        go_upto_region 8 with (fail)
        clear hzlt6 hfz hc2 HG1 HI HOWN
        generalize w6.setCell _ _ = w7 at *
        have hId : KInv w w7.drew q m l s i k z _ := HI1.out.below (Below.refl _ _).drew
        have HID := Lib.hid hId
        have HRL := Lib.hid (show bp.rows.length ≤ 4 by have := HFEW.out; omega)
        have hbr : Bytes w7.drew w7.drew.heap.size A n rep := RowS.mono (hId.kp.row HR.out (Nat.le_refl _) (fun hn0 a ha e => HRA.out hn0 a ha (KO.wr e))) hId.kp.size
        have HCL := Lib.hid (clone_any A n c rep w7.drew hbr HA.out (by have := HN.out; omega))
        obtain ⟨⟨p0, p1, p2, p3⟩, f0, f1, f2, f3⟩ := cel4 HI1.out.cz
        obtain ⟨d0, d1, d2⟩ := cel3 HI1.out.ch
        have hzlt := HI1.out.cz.lt
        dsimp only [Pg.raw] at p0 p1 p2 p3
        clear hId hbr d0 d1 d2
        go_cut [9] from 49 to 54 (fun s9 wx => s9 = .pointer (some ⟨z, 0, none⟩) ∧ ∃ (A3 : Option Addr) (c3 : Nat) (rp : Part), rp.l = rep ∧ KInv w wx q m l s i k z ⟨bp.wkr, bp.inc, A1, c1, pushed bp.keys k, A3, c3, pushed bp.rows rp⟩)
        case first =>
          go_region_law (first
            | (go_simp; go_at_call 26; refine HCL.out.mono ?_; rintro e w8 ⟨A8, c8, rfl, hO8, hb8⟩; have HI8 := Lib.hid (HID.out.below hb8); have HRP := Lib.hid (rp_of_own hO8 (Nat.le_trans HN.out (by decide))); have HPP := Lib.hid (pushp_any bp.ra bp.rows.length bp.rc bp.rows ⟨A8, n, c8, rep⟩ w8 HI8.out.rows HRL.out); obtain ⟨⟨g0, g1, g2, g3⟩, u0, u1, u2, u3⟩ := cel4 HI8.out.cz; have hz8 := HI8.out.cz.lt; dsimp only [Pg.raw] at g0 g1 g2 g3; clear hO8 hb8)
            | (go_simp; go_at_call 25; refine HPP.out.mono ?_; rintro e w9 ⟨A9, c9, rfl, ho9, hg9⟩; have hlp9 := len_pushed bp.rows (⟨A8, n, c8, rep⟩ : Part) HRL.out; have HI9 := Lib.hid (HI8.out.row (w0 := w7.drew) (rp := ⟨A8, n, c8, rep⟩) hlp9.symm (fun r hr => (List.mem_append.1 (List.mem_of_mem_drop hr)).imp id List.mem_singleton.1) HRP.out.1 (fun a ha => HRP.out.2 a ha) HID.out.cz.lt (fun x hx => HID.out.cur_lt hx) ho9 hg9); obtain ⟨⟨j0, j1, j2, j3⟩, v0, v1, v2, v3⟩ := cel4 (HI8.out.zfacts hg9 (fun a ha => .inr ⟨a, ha, rfl⟩)); have hz9 := Nat.lt_of_lt_of_le hz8 hg9.size; clear ho9 hg9 hlp9))
          all_goals
            go_wp2
            go_meet
            exact ⟨rfl, A9, c9, ⟨A8, n, c8, rep⟩, rfl, HI9.out⟩
        case rest =>
          obtain ⟨rfl, A3, c3, rp, hrl, hI⟩ := hcut
          clear p0 p1 p2 p3 f0 f1 f2 f3 hzlt HCL HID HI1
          generalize wc = w8 at *
          have HI := Lib.hid hI
          have HRP := Lib.hid hrl
          have hqq := fun p w => run_eql_map_nil_sl (P := Try.prog) w 25 _ _ p Try.underlying25
          have HQ := Lib.hid (hI.kp.cel HB.out.cel HB.out.not_ko.1)
          have HZ := Lib.hid (HB.out.cel.lt)
          have c0 := HQ.out.cell 0 _ rfl
          have f0 := HQ.out.froz 0 (by simp)
          clear hI hrl
          go_upto_if 59 with (fail)
          go_cut [9] from 60 to 63 (fun s9 wx => s9 = .pointer (some ⟨z, 0, none⟩) ∧ ∃ b, (m = some b ∨ (m = none ∧ w8.heap.size ≤ b)) ∧ Cel wx q [.map (some b)] ∧ Owns wx b l ∧ Kp (fun x => x = q ∨ x = b) w8 wx)
          case first =>
            cases m with
            | none =>
              have hl : l = [] := by
                rcases HB.out.own with h | ⟨b, h, _⟩
                · exact h.2
                · cases h
              subst hl
              have c1 := (HQ.out.alloc (.map #[] 0)).cell 0 _ rfl
              have f1 := (HQ.out.alloc (.map #[] 0)).froz 0 (by simp)
              have hqlt := HQ.out.lt
              have hmm := @run_makeMap Try.prog
              go_wp2
              go_meet
              refine ⟨rfl, w8.heap.size, .inr (by first | exact ⟨rfl, Nat.le_refl _⟩ | exact ⟨trivial, Nat.le_refl _⟩ | exact Nat.le_refl _), (HQ.out.set (i := 0) (by simp) _).alloc _, ?_, ?_⟩
              · have h1 := Owns.made (w8.setCell ⟨q, 0, none⟩ (.map (some w8.heap.size)))
                rw [show (w8.setCell ⟨q, 0, none⟩ (.map (some w8.heap.size))).heap.size = w8.heap.size by simp] at h1
                exact h1
              · exact (Kp.of_grown (row := some q) (grown_trans (set_grown (World.grownBy.refl w8 (some q)) 0 _) (grown_alloc _ _ _)) (fun i _ e => .inl (Option.some.inj e).symm))
            | some b =>
              have ho : Owns w8 b l := by
                rcases HB.out.own with h | ⟨b', h, ho⟩
                · cases h.1
                · cases h
                  exact HI.out.kp.owns ho (HB.out.not_ko.2 b rfl)
              go_wp2
              go_meet
              exact ⟨rfl, b, .inl rfl, HQ.out, ho, Kp.refl _ _⟩
          case rest =>
            obtain ⟨rfl, b, hbm, hcq, hob, hkb⟩ := hcut
            clear c0 f0 hqq
            generalize wc = w9 at *
            have hznb : ¬ (z = q ∨ z = b) := by
              have h1 := HZ.out
              have h2 := HI.out.cz.lt
              rintro (h | h)
              · omega
              · rcases hbm with hm | ⟨_, hm⟩
                · have := (HB.out.mlt hm).1
                  omega
                · omega
            have hhnb : ¬ (w.heap.size = q ∨ w.heap.size = b) := by
              have h1 := HZ.out
              have h2 := HI.out.ch.lt
              rintro (h | h)
              · omega
              · rcases hbm with hm | ⟨_, hm⟩
                · have := (HB.out.mlt hm).1
                  omega
                · omega
            have hbq : b ≠ q := Owns.ne hob hcq
            obtain ⟨⟨p0, p1, p2, p3⟩, _⟩ := cel4 (hkb.cel HI.out.cz hznb)
            obtain ⟨d0, d1, d2⟩ := cel3 (hkb.cel HI.out.ch hhnb)
            dsimp only [Pg.raw] at p0 p1 p2 p3
            rw [HBW.out.1] at p0
            rw [HBW.out.2] at p1
            have c0 := hcq.cell 0 _ rfl
            have hnl : l.length < maxLen := by have := HB.out.few; unfold maxLen; omega
            obtain ⟨w10, hrun, hown, hgr⟩ := Owns.put (Kp.owns (Kp.of_below (fun _ => False) (Below.refl w9.heap.size w9).drew (Nat.le_refl _)) hob id) HB.out.asc hnl ⟨bp.wkr, bp.inc, A1, c1, pushed bp.keys k, A3, c3, pushed bp.rows rp⟩ (by rw [HBW.out.1]; exact HS.out)
            unfold Pg.raw Rw.val at hrun
            dsimp only at hrun
            rw [HBW.out.1, HBW.out.2] at hrun
            have HOWN := Lib.hid hown
            have HGR := Lib.hid hgr
            have HCQ := Lib.hid hcq
            have HKB := Lib.hid hkb
            have HBM := Lib.hid hbm
            clear hown hgr hcq hkb hob hbm hznb hhnb hnl
            go_upto_region 11 with (fail)
            go_region
            all_goals
              go_wp2
              go_ret
              have hput := HI.out.put (wy := w10) HB.out HBW.out.1 HSZ.out ⟨by dsimp only; rw [len_pushed bp.keys k HFEW.out.1]; omega, by dsimp only; rw [len_pushed bp.keys k HFEW.out.1, len_pushed bp.rows rp HRL.out, HFEW.out.2]⟩
                (HKB.out.past (Kp.of_grown (S := fun x => x = b) (World.grownBy.trans (grown_drew w9 (some b)) HGR.out) (fun x _ e => (Option.some.inj e).symm)) (fun x _ e => .inr e)) HBM.out (HCQ.out.kept (World.grownBy.trans (grown_drew w9 (some b)) HGR.out) (fun e => hbq (Option.some.inj e))) HOWN.out HRM.out
              obtain ⟨hbk, hft⟩ := hput.bk HB.out
              refine ⟨rfl, some b, _, hbk, ?_, hput.kp.mono (fun x _ hx => hx.wr), hft⟩
              rw [map_ins Pg.wkr Ab.wkr Pg.ab ab_wkr, HM.out]
              unfold kept
              rw [HBA.out]
              refine congrArg (fun a => ins Ab.wkr a M) ?_
              show (⟨bp.wkr, bp.inc, pushed bp.keys k, (pushed bp.rows rp).map Part.l⟩ : Ab) = ⟨s, i, pushed bp.keys k, pushed (bp.rows.map Part.l) rep⟩
              rw [HBW.out.1, HBW.out.2, map_pushed, HRP.out]
  · rw [if_neg hz, decide_eq_false hz]
    have hz2 : (r1 == 0) = false := by simpa using hz
    clear hz HL2
    go_enter Try.func12, Try.ntmps12
    go_wp2_with fail
    generalize w.alloc _ = w1 at *
    refine HLK.out.mono ?_
    rintro e w2 ⟨A2, n2, c2, rfl, _, hb2⟩
    have HB2 := Lib.hid (HB1.out.trans (hb2.mono HB1.out.size))
    have hd2 := HC1.out.below hb2 (Nat.le_refl _)
    have HC2 := Lib.hid hd2
    have hw2 : w.heap.size < w2.heap.size := Nat.lt_of_lt_of_le hw1 hb2.size
    clear d0 d1 d2 hb2 hw1 HB1 HC1 HLK
    obtain ⟨d0, d1, d2⟩ := cel3 hd2
    clear hd2
    go_wp2
    go_ret
    exact ⟨rfl, m, l, HB.out.below HB2.out, HM.out, Kp.of_below _ HB2.out (Nat.le_refl _), fun x hx => .inl hx⟩
end Ag
end Go.Proofs.Ytfpennnbicclfaa
