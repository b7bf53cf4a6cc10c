/- Walks of the document's check of a process: a node. -/
import Derived.Test.YtddedbpbenkdoaaGreatDoorSpY
import Derived.Test.YtddedbpbenkdoaaGreatDoorYProcessOne10
import Derived.Deep.CutRange
namespace Go.Proofs.YtddedbpbenkdoaaGreatDoor
open Go.RowKit

namespace Pr
theorem refnm_any (s : ByteArray) (w : World) (hs : s.size ≤ 9223372036854775807) :
    Calls Tryz.prog 23 #[.string s] w fun e w' => e = .returned (.bool (nm s)) ∧ w = w' := by
  have := refName_any s w hs
  rwa [show Vr.name s.data.toList = nm s from by unfold nm; rw [ByteArray.toList_eq]] at this
def c106 (x : Nd) : Bool := x.kind == 4 && !nm x.topic || !(x.kind == 4) && decide (0 < x.topic.size) || x.kind == 3 && !nm x.code || !(x.kind == 3) && decide (0 < x.code.size) || decide (0 < x.caught.size) && (!(x.kind == 4) || !nm x.caught)
def c107 (x : Nd) : Bool := x.kind == 4 && (!within x.prio 0 9 || !within x.retr 1 9) || !(x.kind == 4) && (!(x.prio == 0) || !(x.retr == 0))
def c102 (x : Nd) (o : List Nat) : Bool := !(x.dflt == -1) && (!(x.kind == 5 || x.kind == 7) || !has o x.dflt) || x.caught.size == 0 && !(x.tgt == -1) || decide (0 < x.caught.size) && !has o x.tgt
theorem nodeBad_eq (p : P) (i : Nat) : nodeBad p i = if shaped p i = false then 102 else if c106 (p.nodes[i]!) = true then 106 else if c107 (p.nodes[i]!) = true then 107 else if c102 (p.nodes[i]!) (outsL p i) = true then 102 else 0 := rfl
theorem has_map (l : List Nat) (x : Int) : ((l.map Int.ofNat).any fun y => y == x) = has l x := by
  unfold has
  rw [List.any_map]
  rfl
structure Small (x : Nd) : Prop where
  t : x.topic.size ≤ 9223372036854775807
  c : x.code.size ≤ 9223372036854775807
  k : x.caught.size ≤ 9223372036854775807
set_option maxHeartbeats 6400000 in
set_option maxRecDepth 10000 in
theorem refnode_any (A : Option Addr) (n c : Nat) (F : Option Addr) (m d : Nat) (p : P) (i : Nat) (w : World) (hN : KRow Nd.κ w w.heap.size A n p.nodes) (hF : KRow Fl.κ w w.heap.size F m p.flows) (hm : m ≤ 100000) (hi : i < p.n) (hs : Small (p.nodes[i]!)) :
    Calls Tryz.prog 28 #[.agg #[.string p.name, .slice A n c, .slice F m d], .int .i64 i] w fun e w' => e = .returned (.int .i64 (nodeBad p i)) ∧ Below w.heap.size w w' := by
  obtain rfl : p.n = n := hN.len (by decide)
  obtain rfl : p.m = m := hF.len (by decide)
  have hiI : (i : Int) < (p.n : Int) := by omega
  have hi0 : (0 : Int) ≤ (i : Int) := by omega
  obtain ⟨b, off, rfl, hbl, _⟩ := hN.2 (by omega)
  obtain ⟨R, hR⟩ : ∃ R, R = nodeBad p i := ⟨_, rfl⟩
  rw [← hR]
  rw [nodeBad_eq] at hR
  have HRR := Lib.hid hR
  have HS := Lib.hid hs
  clear hR hs
  have HN := Lib.hid hN
  have HF := Lib.hid hF
  have HP := Lib.hid (Cel.lit w #[.string p.name, .slice (some ⟨b, off, none⟩) p.n c, .slice F p.m d] 30)
  have HB := Lib.hid ((Below.refl w.heap.size w).alloc (Nat.le_refl _) (.cells #[.string p.name, .slice (some ⟨b, off, none⟩) p.n c, .slice F p.m d] 30))
  obtain ⟨n0, n1, n2, n3, n4, n5, n6, n7⟩ := nd_at (HN.out.below HB.out (Nat.le_refl _)) hi
  obtain ⟨⟨z0, z1, z2⟩, _⟩ := tri_facts HP.out
  clear hN hF
  have HI := Lib.hid hi
  clear hi
  go_enter Tryz.func28, Tryz.ntmps28
  go_upto_region 1 with (fail)
  generalize w.alloc _ = wb at *
  generalize hx : p.nodes[i]! = x at *
  have HX := Lib.hid (Cel.lit wb #[.int .i64 x.kind, .string x.topic, .int .i64 x.prio, .int .i64 x.retr, .int .i64 x.dflt, .string x.code, .string x.caught, .int .i64 x.tgt] 36)
  have hb2 := (Below.refl wb.heap.size wb).alloc (Nat.le_refl _) (.cells #[.int .i64 x.kind, .string x.topic, .int .i64 x.prio, .int .i64 x.retr, .int .i64 x.dflt, .string x.code, .string x.caught, .int .i64 x.tgt] 36)
  have HB2 := Lib.hid (HB.out.trans (hb2.mono HB.out.size))
  have HP2 := Lib.hid (HP.out.below hb2 (Nat.le_refl _))
  clear hb2 HP HB hx
  go_upto_region 2 with (fail)
  generalize wb.alloc _ = wc at *
  generalize wb.heap.size = z at *
  clear n0 n1 n2 n3 n4 n5 n6 n7 z0 z1 z2
  obtain ⟨⟨z0, z1, z2⟩, _⟩ := tri_facts HP2.out
  go_wp2_with fail
  refine (refshaped_any (some ⟨b, off, none⟩) p.n c F p.m d p i wc ((HN.out.below HB2.out (Nat.le_refl _)).mono HB2.out.size) ((HF.out.below HB2.out (Nat.le_refl _)).mono HB2.out.size) hm HI.out).mono ?_
  rintro e w3 ⟨rfl, hb3⟩
  have HB3 := Lib.hid (HB2.out.trans (hb3.mono HB2.out.size))
  have HP3 := Lib.hid (HP2.out.below hb3 (Nat.le_refl _))
  have HX3 := Lib.hid (HX.out.below hb3 (Nat.le_refl _))
  clear hb3 HB2 HP2 HX z0 z1 z2
  by_cases hsh : shaped p i = false
  · have hR := HRR.out
    rw [if_pos hsh] at hR
    have HR := Lib.hid hR
    rw [hsh]
    clear hsh hR
    go_wp2
    go_ret
    exact ⟨by rw [HR.out]; rfl, HB3.out⟩
  have hsh : shaped p i = true := by simpa using hsh
  rw [hsh]
  have hR := HRR.out
  rw [hsh, if_neg (by decide)] at hR
  have HR := Lib.hid hR
  clear hsh hR HRR
  obtain ⟨x0, x1, x2, x3, x4, x5, x6, x7⟩ := nd_facts HX3.out
  obtain ⟨s1, s2, s3⟩ := HS.out
  have T1 := Lib.hid (fun W => refnm_any x.topic W s1)
  have T2 := Lib.hid (fun W => refnm_any x.code W s2)
  have T3 := Lib.hid (fun W => refnm_any x.caught W s3)
  clear s1 s2 s3 HS
  obtain ⟨wk, hwk⟩ : ∃ wk, (x.kind == 4) = wk := ⟨_, rfl⟩
  go_upto_region 5 with (fail)
  go_cut [75] from 21 to 75 (fun s wx => s = .bool (c106 x) ∧ wx = w3)
  case first =>
    clear HB3 HP3 HX3 HN HF HR HI
    obtain ⟨kd, tp, pr, rt, df, cd, ct, tg⟩ := x
    dsimp only at *
    by_cases h4 : kd = 4
    · subst h4
      obtain rfl : wk = true := by rw [← hwk]; rfl
      clear hwk
      go_wp2_with fail
      refine (T1.out _).mono ?_
      rintro e wy ⟨rfl, rfl⟩
      by_cases ht : nm tp = true
      · rw [ht]
        by_cases hc : cd.size = 0
        · have hcZ : (cd.size : Int) = 0 := by omega
          have hcN : ¬ 0 < cd.size := by omega
          by_cases hk : ct.size = 0
          · have hkZ : (ct.size : Int) = 0 := by omega
            have hkN : ¬ 0 < ct.size := by omega
            have HV : Hid (c106 ⟨4, tp, pr, rt, df, cd, ct, tg⟩ = false) := Lib.hid (by unfold c106; simp [ht, hc, hk])
            go_wp2_with fail
            go_meet
            exact ⟨by rw [HV.out], rfl⟩
          · have hkP : 0 < ct.size := by omega
            have hkPI : (0 : Int) < (ct.size : Int) := by omega
            have hkB : ((ct.size : Int) == 0) = false := by rw [beq_eq_false_iff_ne]; omega
            go_wp2_with fail
            refine (T3.out _).mono ?_
            rintro e wy ⟨rfl, rfl⟩
            by_cases hn : nm ct = true
            · rw [hn]
              have HV : Hid (c106 ⟨4, tp, pr, rt, df, cd, ct, tg⟩ = false) := Lib.hid (by unfold c106; simp [ht, hc, hn])
              go_wp2_with fail
              go_meet
              exact ⟨by rw [HV.out], rfl⟩
            · have hnF : nm ct = false := by simpa using hn
              rw [hnF]
              have HV : Hid (c106 ⟨4, tp, pr, rt, df, cd, ct, tg⟩ = true) := Lib.hid (by unfold c106; simp [hnF, hkP])
              go_wp2_with fail
              go_meet
              exact ⟨by rw [HV.out], rfl⟩
        · have hcP : 0 < cd.size := by omega
          have hcPI : (0 : Int) < (cd.size : Int) := by omega
          have hcB : ((cd.size : Int) == 0) = false := by rw [beq_eq_false_iff_ne]; omega
          have HV : Hid (c106 ⟨4, tp, pr, rt, df, cd, ct, tg⟩ = true) := Lib.hid (by unfold c106; simp [hcP])
          go_wp2_with fail
          go_meet
          exact ⟨by rw [HV.out], rfl⟩
      · have htF : nm tp = false := by simpa using ht
        rw [htF]
        have HV : Hid (c106 ⟨4, tp, pr, rt, df, cd, ct, tg⟩ = true) := Lib.hid (by unfold c106; simp [htF])
        go_wp2_with fail
        go_meet
        exact ⟨by rw [HV.out], rfl⟩
    · have kB4 : (kd == 4) = false := by rw [beq_eq_false_iff_ne]; exact h4
      obtain rfl : wk = false := by rw [← hwk]; exact kB4
      clear hwk
      by_cases h3 : kd = 3
      · subst h3
        by_cases ht : tp.size = 0
        · have htZ : (tp.size : Int) = 0 := by omega
          have htN : ¬ 0 < tp.size := by omega
          go_wp2_with fail
          refine (T2.out _).mono ?_
          rintro e wy ⟨rfl, rfl⟩
          by_cases hc : nm cd = true
          · rw [hc]
            by_cases hk : ct.size = 0
            · have hkZ : (ct.size : Int) = 0 := by omega
              have hkN : ¬ 0 < ct.size := by omega
              have HV : Hid (c106 ⟨3, tp, pr, rt, df, cd, ct, tg⟩ = false) := Lib.hid (by unfold c106; simp [ht, hc, hk])
              go_wp2_with fail
              go_meet
              exact ⟨by rw [HV.out], rfl⟩
            · have hkP : 0 < ct.size := by omega
              have hkPI : (0 : Int) < (ct.size : Int) := by omega
              have hkB : ((ct.size : Int) == 0) = false := by rw [beq_eq_false_iff_ne]; omega
              have HV : Hid (c106 ⟨3, tp, pr, rt, df, cd, ct, tg⟩ = true) := Lib.hid (by unfold c106; simp [hkP])
              go_wp2_with fail
              go_meet
              exact ⟨by rw [HV.out], rfl⟩
          · have hcF : nm cd = false := by simpa using hc
            rw [hcF]
            have HV : Hid (c106 ⟨3, tp, pr, rt, df, cd, ct, tg⟩ = true) := Lib.hid (by unfold c106; simp [hcF])
            go_wp2_with fail
            go_meet
            exact ⟨by rw [HV.out], rfl⟩
        · have htP : 0 < tp.size := by omega
          have htPI : (0 : Int) < (tp.size : Int) := by omega
          have htB : ((tp.size : Int) == 0) = false := by rw [beq_eq_false_iff_ne]; omega
          have HV : Hid (c106 ⟨3, tp, pr, rt, df, cd, ct, tg⟩ = true) := Lib.hid (by unfold c106; simp [htP])
          go_wp2_with fail
          go_meet
          exact ⟨by rw [HV.out], rfl⟩
      · have kB3 : (kd == 3) = false := by rw [beq_eq_false_iff_ne]; exact h3
        by_cases ht : tp.size = 0
        · have htZ : (tp.size : Int) = 0 := by omega
          have htN : ¬ 0 < tp.size := by omega
          by_cases hc : cd.size = 0
          · have hcZ : (cd.size : Int) = 0 := by omega
            have hcN : ¬ 0 < cd.size := by omega
            by_cases hk : ct.size = 0
            · have hkZ : (ct.size : Int) = 0 := by omega
              have hkN : ¬ 0 < ct.size := by omega
              have HV : Hid (c106 ⟨kd, tp, pr, rt, df, cd, ct, tg⟩ = false) := Lib.hid (by unfold c106; simp [h4, h3, ht, hc, hk])
              go_wp2_with fail
              go_meet
              exact ⟨by rw [HV.out], rfl⟩
            · have hkP : 0 < ct.size := by omega
              have hkPI : (0 : Int) < (ct.size : Int) := by omega
              have hkB : ((ct.size : Int) == 0) = false := by rw [beq_eq_false_iff_ne]; omega
              have HV : Hid (c106 ⟨kd, tp, pr, rt, df, cd, ct, tg⟩ = true) := Lib.hid (by unfold c106; simp [h4, hkP])
              go_wp2_with fail
              go_meet
              exact ⟨by rw [HV.out], rfl⟩
          · have hcP : 0 < cd.size := by omega
            have hcPI : (0 : Int) < (cd.size : Int) := by omega
            have hcB : ((cd.size : Int) == 0) = false := by rw [beq_eq_false_iff_ne]; omega
            have HV : Hid (c106 ⟨kd, tp, pr, rt, df, cd, ct, tg⟩ = true) := Lib.hid (by unfold c106; simp [h3, hcP])
            go_wp2_with fail
            go_meet
            exact ⟨by rw [HV.out], rfl⟩
        · have htP : 0 < tp.size := by omega
          have htPI : (0 : Int) < (tp.size : Int) := by omega
          have htB : ((tp.size : Int) == 0) = false := by rw [beq_eq_false_iff_ne]; omega
          have HV : Hid (c106 ⟨kd, tp, pr, rt, df, cd, ct, tg⟩ = true) := Lib.hid (by unfold c106; simp [h4, htP])
          go_wp2_with fail
          go_meet
          exact ⟨by rw [HV.out], rfl⟩
  case rest =>
    obtain ⟨rfl, hwx⟩ := hcut
    subst hwx
    by_cases h6 : c106 x = true
    · have hR := HR.out
      rw [if_pos h6] at hR
      have HRF := Lib.hid hR
      rw [h6]
      clear h6 hR
      go_wp2
      go_ret
      exact ⟨by rw [HRF.out]; rfl, HB3.out⟩
    have h6F : c106 x = false := by simpa using h6
    rw [h6F]
    have hR := HR.out
    rw [if_neg h6] at hR
    have HR2 := Lib.hid hR
    clear h6 h6F hR HR
    go_upto_region 7 with (fail)
    go_cut [102] from 76 to 102 (fun s wx => s = .bool (c107 x) ∧ wx = wc)
    case first =>
      clear HB3 HP3 HX3 HN HF HR2 HI T1 T2 T3
      obtain ⟨kd, tp, pr, rt, df, cd, ct, tg⟩ := x
      dsimp only at *
      have W1 := Lib.hid (fun W => refwithin_any pr 0 9 W)
      have W2 := Lib.hid (fun W => refwithin_any rt 1 9 W)
      by_cases h4 : kd = 4
      · subst h4
        obtain rfl : wk = true := by rw [← hwk]; rfl
        clear hwk
        go_wp2_with fail
        refine (W1.out _).mono ?_
        rintro e wy ⟨rfl, rfl⟩
        by_cases hp : within pr 0 9 = true
        · rw [hp]
          go_wp2_with fail
          refine (W2.out _).mono ?_
          rintro e wy ⟨rfl, rfl⟩
          by_cases hr : within rt 1 9 = true
          · rw [hr]
            have HV : Hid (c107 ⟨4, tp, pr, rt, df, cd, ct, tg⟩ = false) := Lib.hid (by unfold c107; simp [hp, hr])
            go_wp2_with fail
            go_meet
            exact ⟨by rw [HV.out], rfl⟩
          · have hrF : within rt 1 9 = false := by simpa using hr
            rw [hrF]
            have HV : Hid (c107 ⟨4, tp, pr, rt, df, cd, ct, tg⟩ = true) := Lib.hid (by unfold c107; simp [hrF])
            go_wp2_with fail
            go_meet
            exact ⟨by rw [HV.out], rfl⟩
        · have hpF : within pr 0 9 = false := by simpa using hp
          rw [hpF]
          have HV : Hid (c107 ⟨4, tp, pr, rt, df, cd, ct, tg⟩ = true) := Lib.hid (by unfold c107; simp [hpF])
          go_wp2_with fail
          go_meet
          exact ⟨by rw [HV.out], rfl⟩
      · have kB4 : (kd == 4) = false := by rw [beq_eq_false_iff_ne]; exact h4
        obtain rfl : wk = false := by rw [← hwk]; exact kB4
        clear hwk
        by_cases hp : pr = 0
        · subst hp
          by_cases hr : rt = 0
          · subst hr
            have HV : Hid (c107 ⟨kd, tp, 0, 0, df, cd, ct, tg⟩ = false) := Lib.hid (by unfold c107; simp [h4])
            go_wp2_with fail
            go_meet
            exact ⟨by rw [HV.out], rfl⟩
          · have hrB : (rt == 0) = false := by rw [beq_eq_false_iff_ne]; exact hr
            have hrN : (rt != 0) = true := by rw [bne, hrB]; rfl
            have HV : Hid (c107 ⟨kd, tp, 0, rt, df, cd, ct, tg⟩ = true) := Lib.hid (by unfold c107; simp [h4, hr])
            go_wp2_with fail
            go_meet
            exact ⟨by rw [HV.out], rfl⟩
        · have hpB : (pr == 0) = false := by rw [beq_eq_false_iff_ne]; exact hp
          have hpN : (pr != 0) = true := by rw [bne, hpB]; rfl
          have HV : Hid (c107 ⟨kd, tp, pr, rt, df, cd, ct, tg⟩ = true) := Lib.hid (by unfold c107; simp [h4, hp])
          go_wp2_with fail
          go_meet
          exact ⟨by rw [HV.out], rfl⟩
    case rest =>
      obtain ⟨rfl, hwx⟩ := hcut
      subst hwx
      by_cases h7 : c107 x = true
      · have hR := HR2.out
        rw [if_pos h7] at hR
        have HRF := Lib.hid hR
        rw [h7]
        clear h7 hR
        go_wp2
        go_ret
        exact ⟨by rw [HRF.out]; rfl, HB3.out⟩
      have h7F : c107 x = false := by simpa using h7
      rw [h7F]
      have hR := HR2.out
      rw [if_neg h7] at hR
      have HR3 := Lib.hid hR
      clear h7 h7F hR HR2 T1 T2 T3
      obtain ⟨⟨z0, z1, z2⟩, _⟩ := tri_facts HP3.out
      go_wp2_with fail
      refine (refouts_any (some ⟨b, off, none⟩) p.n c F p.m d p (i : Int) wc ((HN.out.below HB3.out (Nat.le_refl _)).mono HB3.out.size) ((HF.out.below HB3.out (Nat.le_refl _)).mono HB3.out.size) hm).mono ?_
      rintro e w5 ⟨⟨X, k, cc, rfl, ho⟩, hb5⟩
      rw [outsB_in p HI.out] at ho
      have hk : k ≤ 100000 := by
        have h1 := ho.len
        have h2 : (outsL p i).length ≤ p.m := by unfold outsL; exact Nat.le_trans (List.length_filter_le _ _) (by simp)
        rw [List.length_map] at h1
        omega
      have HH := Lib.hid (fun (v : Int) (W : World) (hW : KRow iκ W w5.heap.size X k ((outsL p i).map Int.ofNat)) => (has_map (outsL p i) v) ▸ refhas_any X k cc ((outsL p i).map Int.ofNat) w5.heap.size v W hW hk)
      have HRW := Lib.hid ho.row
      have HB5 := Lib.hid (HB3.out.trans (hb5.mono HB3.out.size))
      have HX5 := Lib.hid (HX3.out.below hb5 (Nat.le_refl _))
      clear ho hb5 HB3 HX3 HP3 z0 z1 z2 x0 x1 x2 x3 x4 x5 x6 x7 hk HN HF
      obtain ⟨x0, x1, x2, x3, x4, x5, x6, x7⟩ := nd_facts HX5.out
      have H1 := Lib.hid (HH.out x.dflt w5 HRW.out)
      have H2 := Lib.hid (HH.out x.tgt w5 HRW.out)
      clear HH
      obtain ⟨gk, hgk⟩ : ∃ gk, (x.kind == 5 || x.kind == 7) = gk := ⟨_, rfl⟩
      go_upto_region 10 with (fail)
      go_cut [8] from 106 to 113 (fun s wx => s = .bool gk ∧ wx = w5)
      case first =>
        clear HB5 HX5 HR3 HI H1 H2 HRW hwk
        obtain ⟨kd, tp, pr, rt, df, cd, ct, tg⟩ := x
        dsimp only at *
        by_cases h5 : kd = 5
        · subst h5
          have HV : Hid (((5 : Int) == 5 || (5 : Int) == 7) = true) := Lib.hid rfl
          obtain rfl : gk = true := by rw [← hgk]; rfl
          clear hgk
          go_wp2_with fail
          go_meet
          exact ⟨rfl, rfl⟩
        · have kB5 : (kd == 5) = false := by rw [beq_eq_false_iff_ne]; exact h5
          by_cases h7 : kd = 7
          · subst h7
            obtain rfl : gk = true := by rw [← hgk]; rfl
            clear hgk
            go_wp2_with fail
            go_meet
            exact ⟨rfl, rfl⟩
          · have kB7 : (kd == 7) = false := by rw [beq_eq_false_iff_ne]; exact h7
            obtain rfl : gk = false := by rw [← hgk, kB5, kB7]; rfl
            clear hgk
            go_wp2_with fail
            go_meet
            exact ⟨rfl, rfl⟩
      case rest =>
        obtain ⟨rfl, hwx⟩ := hcut
        subst hwx
        have HG := Lib.hid hgk
        clear hgk
        go_upto_region 11 with (fail)
        go_cut [151] from 114 to 151 (fun s wx => s = .bool (c102 x (outsL p i)) ∧ wx = wc)
        case first =>
          clear HB5 HX5 HR3 HI HRW hwk
          obtain ⟨kd, tp, pr, rt, df, cd, ct, tg⟩ := x
          dsimp only at *
          by_cases hd : df = -1
          · subst hd
            by_cases hk : ct.size = 0
            · have hkZ : (ct.size : Int) = 0 := by omega
              have hkN : ¬ 0 < ct.size := by omega
              by_cases hg : tg = -1
              · subst hg
                have HV : Hid (c102 ⟨kd, tp, pr, rt, -1, cd, ct, -1⟩ (outsL p i) = false) := Lib.hid (by unfold c102; simp [hk])
                go_wp2_with fail
                go_meet
                exact ⟨by rw [HV.out], rfl⟩
              · have hgB : (tg == -1) = false := by rw [beq_eq_false_iff_ne]; exact hg
                have hgN : (tg != -1) = true := by rw [bne, hgB]; rfl
                have HV : Hid (c102 ⟨kd, tp, pr, rt, -1, cd, ct, tg⟩ (outsL p i) = true) := Lib.hid (by unfold c102; simp [hk, hg])
                go_wp2_with fail
                go_meet
                exact ⟨by rw [HV.out], rfl⟩
            · have hkP : 0 < ct.size := by omega
              have hkPI : (0 : Int) < (ct.size : Int) := by omega
              have hkB : ((ct.size : Int) == 0) = false := by rw [beq_eq_false_iff_ne]; omega
              go_wp2_with fail
              refine H2.out.mono ?_
              rintro e wy ⟨rfl, rfl⟩
              by_cases hh : has (outsL p i) tg = true
              · rw [hh]
                have HV : Hid (c102 ⟨kd, tp, pr, rt, -1, cd, ct, tg⟩ (outsL p i) = false) := Lib.hid (by unfold c102; simp [hk, hh])
                go_wp2_with fail
                go_meet
                exact ⟨by rw [HV.out], rfl⟩
              · have hhF : has (outsL p i) tg = false := by simpa using hh
                rw [hhF]
                have HV : Hid (c102 ⟨kd, tp, pr, rt, -1, cd, ct, tg⟩ (outsL p i) = true) := Lib.hid (by unfold c102; simp [hkP, hhF])
                go_wp2_with fail
                go_meet
                exact ⟨by rw [HV.out], rfl⟩
          · have hdB : (df == -1) = false := by rw [beq_eq_false_iff_ne]; exact hd
            have hdN : (df != -1) = true := by rw [bne, hdB]; rfl
            by_cases hgk : gk = true
            · subst hgk
              go_wp2_with fail
              refine H1.out.mono ?_
              rintro e wy ⟨rfl, rfl⟩
              by_cases hx : has (outsL p i) df = true
              · rw [hx]
                by_cases hk : ct.size = 0
                · have hkZ : (ct.size : Int) = 0 := by omega
                  have hkN : ¬ 0 < ct.size := by omega
                  by_cases hg : tg = -1
                  · subst hg
                    have HV : Hid (c102 ⟨kd, tp, pr, rt, df, cd, ct, -1⟩ (outsL p i) = false) := Lib.hid (by unfold c102; simp [HG.out, hx, hk])
                    go_wp2_with fail
                    go_meet
                    exact ⟨by rw [HV.out], rfl⟩
                  · have hgB : (tg == -1) = false := by rw [beq_eq_false_iff_ne]; exact hg
                    have hgN : (tg != -1) = true := by rw [bne, hgB]; rfl
                    have HV : Hid (c102 ⟨kd, tp, pr, rt, df, cd, ct, tg⟩ (outsL p i) = true) := Lib.hid (by unfold c102; simp [HG.out, hx, hk, hg])
                    go_wp2_with fail
                    go_meet
                    exact ⟨by rw [HV.out], rfl⟩
                · have hkP : 0 < ct.size := by omega
                  have hkPI : (0 : Int) < (ct.size : Int) := by omega
                  have hkB : ((ct.size : Int) == 0) = false := by rw [beq_eq_false_iff_ne]; omega
                  go_wp2_with fail
                  refine H2.out.mono ?_
                  rintro e wy ⟨rfl, rfl⟩
                  by_cases hh : has (outsL p i) tg = true
                  · rw [hh]
                    have HV : Hid (c102 ⟨kd, tp, pr, rt, df, cd, ct, tg⟩ (outsL p i) = false) := Lib.hid (by unfold c102; simp [HG.out, hx, hk, hh])
                    go_wp2_with fail
                    go_meet
                    exact ⟨by rw [HV.out], rfl⟩
                  · have hhF : has (outsL p i) tg = false := by simpa using hh
                    rw [hhF]
                    have HV : Hid (c102 ⟨kd, tp, pr, rt, df, cd, ct, tg⟩ (outsL p i) = true) := Lib.hid (by unfold c102; simp [HG.out, hx, hkP, hhF])
                    go_wp2_with fail
                    go_meet
                    exact ⟨by rw [HV.out], rfl⟩
              · have hxF : has (outsL p i) df = false := by simpa using hx
                rw [hxF]
                have HV : Hid (c102 ⟨kd, tp, pr, rt, df, cd, ct, tg⟩ (outsL p i) = true) := Lib.hid (by unfold c102; simp [HG.out, hd, hxF])
                go_wp2_with fail
                go_meet
                exact ⟨by rw [HV.out], rfl⟩
            · have hgF : gk = false := by simpa using hgk
              subst hgF
              have HV : Hid (c102 ⟨kd, tp, pr, rt, df, cd, ct, tg⟩ (outsL p i) = true) := Lib.hid (by unfold c102; simp [HG.out, hd])
              go_wp2_with fail
              go_meet
              exact ⟨by rw [HV.out], rfl⟩
        case rest =>
          obtain ⟨rfl, hwx⟩ := hcut
          subst hwx
          by_cases h2 : c102 x (outsL p i) = true
          · have hR := HR3.out
            rw [if_pos h2] at hR
            have HRF := Lib.hid hR
            rw [h2]
            clear h2 hR
            go_wp2
            go_ret
            exact ⟨by rw [HRF.out]; rfl, HB5.out⟩
          have h2F : c102 x (outsL p i) = false := by simpa using h2
          have hR := HR3.out
          rw [if_neg h2] at hR
          have HRF := Lib.hid hR
          rw [h2F]
          clear h2 h2F hR
          go_wp2
          go_ret
          exact ⟨by rw [HRF.out]; rfl, HB5.out⟩
end Pr
end Go.Proofs.YtddedbpbenkdoaaGreatDoor
