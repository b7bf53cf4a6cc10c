/- ReachSays: the walk. -/
import Derived.Test.YtjdgloofdafebaaUpY
import Derived.Test.YtjdgloofdafebaaUqY
import Derived.Test.YtjdgloofdafebaaUrY
import Derived.Test.YtjdgloofdafebaaQoY
namespace Go.Proofs.Ytjdgloofdafebaa
open Go.RowKit

namespace Pr
set_option maxHeartbeats 800000 in
theorem dlight_any (s : ByteArray) (A : Option Addr) (n c : Nat) (F : Option Addr) (m d : Nat) (w : World) : Calls Try.prog 5 #[.agg #[.string s, .slice A n c, .slice F m d]] w fun e w' => e = .returned (.bool (decide (n ≤ 30) && decide (m ≤ 60))) ∧ Below w.heap.size w w' := by
  have hc := Cel.lit w #[.string s, .slice A n c, .slice F m d] 25
  have hb : Below w.heap.size w (w.alloc (.cells #[.string s, .slice A n c, .slice F m d] 25)) := (Below.refl _ _).alloc (Nat.le_refl _) _
  go_enter Try.func5, Try.ntmps5
  go_upto_region 1 with (fail)
  generalize w.alloc _ = wa at *
  have HB := Lib.hid hb
  obtain ⟨⟨c0, c1, c2⟩, _⟩ := tri_facts hc
  clear hb hc
  by_cases h1 : n ≤ 30
  · have h1I : (n : Int) ≤ 30 := by omega
    by_cases h2 : m ≤ 60
    · have h2I : (m : Int) ≤ 60 := by omega
      go_wp2
      go_ret
      exact ⟨by first | rfl | (rw [decide_eq_true h1, decide_eq_true h2]; rfl), HB.out⟩
    · have h2I : ¬ (m : Int) ≤ 60 := by omega
      go_wp2
      go_ret
      exact ⟨by first | rfl | (rw [decide_eq_true h1, decide_eq_false h2]; rfl), HB.out⟩
  · have h1I : ¬ (n : Int) ≤ 30 := by omega
    go_wp2
    go_ret
    exact ⟨by first | rfl | (rw [decide_eq_false h1]; rfl), HB.out⟩
end Pr
open Pr
set_option maxHeartbeats 6400000 in
set_option maxRecDepth 10000 in
theorem reachSays_walk (p : ProcV) (node : Int) (s : SeedV) (w : World) (hP : InProc w p) (hn1 : -9223372036854775808 ≤ node) (hn2 : node ≤ 9223372036854775807) (hS : InSeed w s) :
    Calls Try.prog 3 #[p.val, .int .i64 node, s.val] w fun e w' => e = .returned (.bool true) ∧ Below w.heap.size w w' := by
  have HSD := Lib.hid hS
  have HF := Lib.hid (show KRow Fl.κ w w.heap.size p.F p.m p.fl from hP.f.row)
  have HL := Lib.hid (fun w => mlight_any s w)
  have HNU := Lib.hid (fun w => mnumber_any node 9 w (by decide) hn1 hn2 (by decide))
  obtain ⟨ps, PA, pn, pc, PF, pm, pd, fl⟩ := p
  clear hS hP hn1 hn2
  dsimp only at HF
  unfold SeedV.val ProcV.val at *
  dsimp only at *
  obtain ⟨o1, o2, ob⟩ : Cel ((w.alloc (.cells #[.string ps, .slice PA pn pc, .slice PF pm pd] 25)).alloc (.cells #[.string s.name, .slice s.KA s.kn s.kc, .slice s.EA s.en s.ec, .slice s.MA s.mn s.mc] 28)) w.heap.size [.string ps, .slice PA pn pc, .slice PF pm pd] ∧
      Cel ((w.alloc (.cells #[.string ps, .slice PA pn pc, .slice PF pm pd] 25)).alloc (.cells #[.string s.name, .slice s.KA s.kn s.kc, .slice s.EA s.en s.ec, .slice s.MA s.mn s.mc] 28)) (w.heap.size + 1) [.string s.name, .slice s.KA s.kn s.kc, .slice s.EA s.en s.ec, .slice s.MA s.mn s.mc] ∧
      Below w.heap.size w ((w.alloc (.cells #[.string ps, .slice PA pn pc, .slice PF pm pd] 25)).alloc (.cells #[.string s.name, .slice s.KA s.kn s.kc, .slice s.EA s.en s.ec, .slice s.MA s.mn s.mc] 28)) := by
    refine ⟨(Cel.lit w #[.string ps, .slice PA pn pc, .slice PF pm pd] _).alloc _, ?_, ((Below.refl _ _).alloc (Nat.le_refl _) _).alloc (by simp) _⟩
    have h := Cel.lit (w.alloc (.cells #[.string ps, .slice PA pn pc, .slice PF pm pd] 25)) #[.string s.name, .slice s.KA s.kn s.kc, .slice s.EA s.en s.ec, .slice s.MA s.mn s.mc] 28
    have e : (w.alloc (.cells #[.string ps, .slice PA pn pc, .slice PF pm pd] 25)).heap.size = w.heap.size + 1 := by simp
    rw [e] at h
    exact h
  have HP0 := Lib.hid o1
  have HQ0 := Lib.hid o2
  have HB0 := Lib.hid ob
  clear o1 o2 ob
  go_enter Try.func3, Try.ntmps3
  go_upto_region 1 with (fail)
  generalize (w.alloc _).alloc _ = wa at *
  go_wp2_with fail
  refine (rfirst_any wa).mono ?_
  rintro e w1 ⟨rfl, hb⟩
  have HP1 := Lib.hid (HP0.out.below hb (Nat.le_refl _))
  have HQ1 := Lib.hid (HQ0.out.below hb (Nat.le_refl _))
  have HB1 := Lib.hid (HB0.out.trans (hb.mono HB0.out.size))
  clear hb HP0 HQ0 HB0
  obtain ⟨⟨p0, p1, p2⟩, _⟩ := tri_facts HP1.out
  go_wp2_with fail
  refine (dlight_any _ _ _ _ _ _ _ _).mono ?_
  rintro e w2 ⟨rfl, hb⟩
  have HP2 := Lib.hid (HP1.out.below hb (Nat.le_refl _))
  have HQ2 := Lib.hid (HQ1.out.below hb (Nat.le_refl _))
  have HB2 := Lib.hid (HB1.out.trans (hb.mono HB1.out.size))
  clear hb HP1 HQ1 HB1 p0 p1 p2
  obtain ⟨L, hL⟩ : ∃ L, (decide (pn ≤ 30) && decide (pm ≤ 60)) = L := ⟨_, rfl⟩
  rw [hL]
  cases L with
  | false =>
    clear hL
    go_wp2
    go_ret
    exact ⟨rfl, HB2.out⟩
  | true =>
    rw [Bool.and_eq_true, decide_eq_true_eq, decide_eq_true_eq] at hL
    obtain ⟨hpn, hpm⟩ := hL
    have HPN := Lib.hid hpn
    have HPM := Lib.hid hpm
    clear hpn hpm
    obtain ⟨q0, q1, q2, q3⟩ := quad_facts HQ2.out
    go_wp2_with fail
    refine (HL.out _).mono ?_
    rintro e w3 ⟨rfl, hb⟩
    have HP3 := Lib.hid (HP2.out.below hb (Nat.le_refl _))
    have HQ3 := Lib.hid (HQ2.out.below hb (Nat.le_refl _))
    have HB3 := Lib.hid (HB2.out.trans (hb.mono HB2.out.size))
    clear hb HP2 HQ2 HB2 q0 q1 q2 q3 HL
    obtain ⟨lt, hlt⟩ : ∃ b, light s = b := ⟨_, rfl⟩
    rw [hlt]
    cases lt with
    | false =>
      clear hlt
      go_wp2
      go_ret
      exact ⟨rfl, HB3.out⟩
    | true =>
      unfold light at hlt
      simp only [Bool.and_eq_true, decide_eq_true_eq] at hlt
      obtain ⟨_, hkn, hen, _⟩ := hlt
      have HKN := Lib.hid hkn
      have HEN := Lib.hid hen
      clear hkn hen
      have HK := Lib.hid (fun W (h : Below w.heap.size w W) => (HSD.out.k.row.below h (Nat.le_refl _)).mono h.size)
      have HEE := Lib.hid (fun W (h : Below w.heap.size w W) => (HSD.out.e.row.below h (Nat.le_refl _)).mono h.size)
      have HM := Lib.hid (fun W (h : Below w.heap.size w W) => (HSD.out.m.row.below h (Nat.le_refl _)).mono h.size)
      have HRAW := Lib.hid (fun W (h : Below w.heap.size w W) => raw_any s.name s.KA s.kn s.kc s.EA s.en s.ec s.MA s.mn s.mc s.ks s.es s.ms W (HK.out W h) (HEE.out W h) (HM.out W h) HSD.out.kb HSD.out.eb HSD.out.mb HKN.out HEN.out)
      have HGOOD := Lib.hid (fun (rings : Bool) W (h : Below w.heap.size w W) => mgood_any (w := W) s.name s.KA s.kn s.kc s.EA s.en s.ec s.MA s.mn s.mc s.ks s.ms rings (HK.out W h) (HM.out W h) HSD.out.kb HSD.out.mb (by have := HKN.out; omega))
      have HSAME := Lib.hid (fun (nd : Int) W (h : Below w.heap.size w W) => dsame_any ps PA pn pc PF pm pd fl nd W ((HF.out.below h (Nat.le_refl _)).mono h.size) (by have := HPN.out; omega) (by have := HPM.out; omega))
      obtain ⟨⟨p0, p1, p2⟩, _⟩ := tri_facts HP3.out
      go_wp2_with fail
      refine (HSAME.out node _ HB3.out).mono ?_
      rintro e w4 ⟨rfl, hb⟩
      have HQ4 := Lib.hid (HQ3.out.below hb (Nat.le_refl _))
      have HB4 := Lib.hid (HB3.out.trans (hb.mono HB3.out.size))
      clear hb HP3 HQ3 HB3 p0 p1 p2 HSAME
      obtain ⟨q0, q1, q2, q3⟩ := quad_facts HQ4.out
      go_wp2_with fail
      refine (HRAW.out _ HB4.out).mono ?_
      rintro e w5 ⟨⟨A, n, c, F, m, d, gl, rfl, hrow, hn, hm⟩, hb⟩
      have HQ5 := Lib.hid (HQ4.out.below hb (Nat.le_refl _))
      have HB5 := Lib.hid (HB4.out.trans (hb.mono HB4.out.size))
      have HSA := Lib.hid (fun nd => dsame_any s.name A n c F m d gl nd w5 hrow hn hm)
      clear hb HQ4 HB4 q0 q1 q2 q3 HRAW hrow hn hm
      go_wp2_with fail
      refine (HNU.out _).mono ?_
      rintro e wy ⟨rfl, rfl⟩
      go_wp2_with fail
      refine (HSA.out _).mono ?_
      rintro e w6 ⟨rfl, hb⟩
      have HQ6 := Lib.hid (HQ5.out.below hb (Nat.le_refl _))
      have HB6 := Lib.hid (HB5.out.trans (hb.mono HB5.out.size))
      clear hb HQ5 HB5 HSA
      obtain ⟨q0, q1, q2, q3⟩ := quad_facts HQ6.out
      go_wp2_with fail
      refine (HGOOD.out true _ HB6.out).mono ?_
      rintro e w7 ⟨⟨A2, n2, c2, F2, m2, d2, rfl, hN, hF⟩, hb⟩
      obtain ⟨hinv, h2n, hn27, hm52, hname⟩ := good_inv s.ks s.ms true
      have hnl : n2 ≤ 100000 := by have := hN.len; have e : (good s.ks s.ms true).n = (good s.ks s.ms true).nodes.length := rfl; omega
      have hml : m2 ≤ 100000 := by have := hF.len; have e : (good s.ks s.ms true).m = (good s.ks s.ms true).flows.length := rfl; omega
      have HSA := Lib.hid (fun nd => dsame_any (bs [112]) A2 n2 c2 F2 m2 d2 _ nd w7 hF.row hnl hml)
      have HQ7 := Lib.hid (HQ6.out.below hb (Nat.le_refl _))
      have HB7 := Lib.hid (HB6.out.trans (hb.mono HB6.out.size))
      clear hb HQ6 HB6 q0 q1 q2 q3 hN hF hinv h2n hn27 hm52 hname hnl hml
      go_wp2_with fail
      refine (HNU.out _).mono ?_
      rintro e wy ⟨rfl, rfl⟩
      go_wp2_with fail
      refine (HSA.out _).mono ?_
      rintro e w8 ⟨rfl, hb⟩
      have HQ8 := Lib.hid (HQ7.out.below hb (Nat.le_refl _))
      have HB8 := Lib.hid (HB7.out.trans (hb.mono HB7.out.size))
      clear hb HQ7 HB7 HSA
      obtain ⟨q0, q1, q2, q3⟩ := quad_facts HQ8.out
      go_wp2_with fail
      refine (HGOOD.out false _ HB8.out).mono ?_
      rintro e w9 ⟨⟨A3, n3, c3, F3, m3, d3, rfl, hN, hF⟩, hb⟩
      obtain ⟨hinv, h2n, hn27, hm52, hname⟩ := good_inv s.ks s.ms false
      have hnl : n3 ≤ 100000 := by have := hN.len; have e : (good s.ks s.ms false).n = (good s.ks s.ms false).nodes.length := rfl; omega
      have hml : m3 ≤ 100000 := by have := hF.len; have e : (good s.ks s.ms false).m = (good s.ks s.ms false).flows.length := rfl; omega
      have HSA := Lib.hid (fun nd => dsame_any (bs [112]) A3 n3 c3 F3 m3 d3 _ nd w9 hF.row hnl hml)
      have HB9 := Lib.hid (HB8.out.trans (hb.mono HB8.out.size))
      clear hb HQ8 HB8 q0 q1 q2 q3 hN hF hinv h2n hn27 hm52 hname hnl hml
      go_wp2_with fail
      refine (HSA.out _).mono ?_
      rintro e wx ⟨rfl, hb⟩
      have HBX := Lib.hid (HB9.out.trans (hb.mono HB9.out.size))
      clear hb HB9 HSA
      go_wp2
      go_ret
      exact ⟨rfl, HBX.out⟩
end Go.Proofs.Ytjdgloofdafebaa
