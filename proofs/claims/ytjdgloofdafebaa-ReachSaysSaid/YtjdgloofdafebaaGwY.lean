/- Walks of leaseholdmake: a Work behind a node. -/
import Derived.Test.YtjdgloofdafebaaYReachSays3
import Derived.Test.YtjdgloofdafebaaGlY
import Derived.Deep.RegionHeld3
namespace Go.Proofs.Ytjdgloofdafebaa
open Go.RowKit

namespace Pr
theorem tdiv_in {m : Int} (k : Int) (h1 : -9223372036854775808 ≤ m) (h2 : m ≤ 9223372036854775807) (hk : 1 < k) : -9223372036854775808 ≤ m.tdiv k ∧ m.tdiv k ≤ 9223372036854775807 := by
  have := Int.natAbs_tdiv_le_natAbs m k
  have e := Int.tmod_add_mul_tdiv m k
  by_cases hm : m.tdiv k = 9223372036854775808
  · exfalso
    have h3 : m.natAbs = 9223372036854775808 := by omega
    have e1 : m.tmod k < k := Int.tmod_lt_of_pos _ (by omega)
    have e2 : -k < m.tmod k := by have := Int.lt_tmod_of_pos m (show 0 < k by omega); omega
    rw [hm] at e
    omega
  · omega
section
variable {w : World} {base q : Nat} {p : P}
theorem mplain_any (k : Int) (h : C w base q p) (hp : p.n ≤ 100000) :
    Calls Try.prog 27 #[.pointer (some ⟨q, 0, none⟩), .agg #[.int .i64 k, .string ⟨#[]⟩, .int .i64 0, .int .i64 0, .int .i64 0, .string ⟨#[]⟩, .string ⟨#[]⟩, .int .i64 0]] w fun e w' => e = .returned (.int .i64 p.n) ∧ C w' base q (p.node (Nd.plain k)) ∧ Below base w w' :=
  mnode_any ⟨k, no, 0, 0, 0, no, no, 0⟩ h hp
theorem mworknode_any (t : ByteArray) (a b : Int) (h : C w base q p) (hp : p.n ≤ 100000) :
    Calls Try.prog 27 #[.pointer (some ⟨q, 0, none⟩), .agg #[.int .i64 4, .string t, .int .i64 a, .int .i64 b, .int .i64 0, .string ⟨#[]⟩, .string ⟨#[]⟩, .int .i64 0]] w fun e w' => e = .returned (.int .i64 p.n) ∧ C w' base q (p.node (Nd.work t a b)) ∧ Below base w w' :=
  mnode_any ⟨4, t, a, b, 0, no, no, 0⟩ h hp
set_option maxHeartbeats 3200000 in
set_option maxRecDepth 10000 in
theorem mwork_any (at_ : Nat) (m : Int) (h : C w base q p) (hn : p.n ≤ 1000) (hm : p.m ≤ 1000) (m1 : -9223372036854775808 ≤ m) (m2 : m ≤ 9223372036854775807) :
    Calls Try.prog 24 #[.pointer (some ⟨q, 0, none⟩), .int .i64 at_, .int .i64 m] w fun e w' => e = .returned (.int .i64 (work p at_ m).2) ∧ C w' base q (work p at_ m).1 ∧ Below base w w' := by
  have hlow := h.low
  have hlt := h.lt
  have hbase : base ≤ w.heap.size := by omega
  obtain ⟨d1, d2⟩ := tdiv_in 3 m1 m2 (by decide)
  obtain ⟨d3, d4⟩ := tdiv_in 7 m1 m2 (by decide)
  obtain ⟨d5, d6⟩ := tdiv_in 5 m1 m2 (by decide)
  have HT := Lib.hid (fun W => mtopics_any m W m1 m2)
  have N10 := Lib.hid (fun W => mnumber_any (m.tdiv 3) 10 W (by decide) d1 d2 (by decide))
  have N3 := Lib.hid (fun W => mnumber_any (m.tdiv 7) 3 W (by decide) d3 d4 (by decide))
  have N4 := Lib.hid (fun W => mnumber_any (m.tdiv 5) 4 W (by decide) d5 d6 (by decide))
  have e3 : IntKind.i64.wrap (m.tdiv 3) = m.tdiv 3 := by rw [IntKind.wrap_i64]; omega
  have e7 : IntKind.i64.wrap (m.tdiv 7) = m.tdiv 7 := by rw [IntKind.wrap_i64]; omega
  have e5 : IntKind.i64.wrap (m.tdiv 5) = m.tdiv 5 := by rw [IntKind.wrap_i64]; omega
  obtain ⟨R, hw⟩ : ∃ R, R = work p at_ m := ⟨_, rfl⟩
  rw [← hw]
  unfold work at hw
  obtain ⟨k3, hk3, hk3'⟩ := nmb_nat (m.tdiv 7) 3 (by decide)
  obtain ⟨k4, hk4, hk4'⟩ := nmb_nat (m.tdiv 5) 4 (by decide)
  rw [hk3] at N3 hw
  rw [hk4] at N4 hw
  have ew : IntKind.i64.wrap (1 + (k3 : Int)) = 1 + (k3 : Int) := by rw [IntKind.wrap_i64]; omega
  generalize nmb (m.tdiv 3) 10 = v10 at *
  generalize bs (topics m) = T at *
  have HW := Lib.hid hw
  have HC := Lib.hid h
  clear hw h d1 d2 d3 d4 d5 d6 hk3 hk4 m1 m2 hk3' hk4'
  go_enter Try.func24, Try.ntmps24
  go_wp2_with fail
  refine (HT.out _).mono ?_
  rintro e w1 ⟨rfl, hb1⟩
  have hbw1 := hb1.mono hbase
  have hc1 := HC.out.below hb1 (Nat.le_refl _)
  have HB1 := Lib.hid hbw1
  have HC1 := Lib.hid hc1
  clear hb1 hbw1 hc1 HC HT
  go_wp2_with fail
  refine (N10.out _).mono ?_
  rintro e w2 ⟨rfl, rfl⟩
  go_wp2_with fail
  refine (N3.out _).mono ?_
  rintro e w2 ⟨rfl, rfl⟩
  go_wp2_with fail
  refine (mworknode_any T v10 (1 + k3) HC1.out (by omega)).mono ?_
  rintro e w2 ⟨rfl, hc2, hb2⟩
  have HC2 := Lib.hid hc2
  have HB2 := Lib.hid (HB1.out.trans hb2)
  clear hc2 hb2 HC1 HB1
  go_wp2_with fail
  refine (mjoin_any (at_ : Int) (p.n : Int) no HC2.out (by show p.m ≤ 100000; omega)).mono ?_
  rintro e w3 ⟨rfl, hc3, hb3, -⟩
  have HB3 := Lib.hid (HB2.out.trans hb3)
  have n1 : ((p.node (Nd.work T v10 (1 + k3))).join at_ p.n no).n = p.n + 1 := by rw [join_n, node_n]
  have m1 : ((p.node (Nd.work T v10 (1 + k3))).join at_ p.n no).m = p.m + 1 := by rw [join_m, node_m]
  have e1 : ((p.node (Nd.work T v10 (1 + k3))).m : Int) = (p.m : Int) := rfl
  rw [e1]
  clear e1
  have hW1 := HW.out
  have hpn : P.n p = p.n := rfl
  generalize (p.node (Nd.work T v10 (1 + k3))).join at_ p.n no = p1 at *
  have HC3 := Lib.hid hc3
  clear hc3 hb3 HC2 HB2 HW hpn
  go_wp2_with fail
  refine (N4.out _).mono ?_
  rintro e w4 ⟨rfl, rfl⟩
  by_cases h0 : k4 = 0
  · subst h0
    rw [if_pos (show ((0 : Nat) : Int) = 0 from rfl)] at hW1
    go_wp2_with fail
    refine (mplain_any 2 HC3.out (by omega)).mono ?_
    rintro e w5 ⟨rfl, hc5, hb5⟩
    have HB5 := Lib.hid (HB3.out.trans hb5)
    have n2 : (p1.node (Nd.plain 2)).n = p.n + 2 := by rw [node_n, n1]
    have m2 : (p1.node (Nd.plain 2)).m = p.m + 1 := by rw [node_m, m1]
    have hM : (((p1.node (Nd.plain 2)).m : Nat) : Int) = (p.m : Int) + 1 := by omega
    have hN1 : ((p1.n : Nat) : Int) = (p.n : Int) + 1 := by omega
    rw [hM, hN1] at hW1
    clear hM
    generalize p1.node (Nd.plain 2) = p2 at *
    generalize hp3 : (p2.set p.n fun x => { x with caught := txC }) = p3
    have hp3' : (p2.set p.n fun x => { x with caught := bs [99, 97, 117, 103, 104, 116] }) = p3 := hp3
    rw [hp3'] at hW1
    have HW1 := Lib.hid hW1
    clear hW1 hp3'
    obtain ⟨g, c, r1, r2, r3, r4, r5, r6, r7⟩ := hc5.row (k := p.n) (by omega)
    have s6 := r5 6 _ rfl
    have f6 := r6 (p.n * 8 + 6)
    have hpn : (p.n : Int) < (p2.n : Int) := by omega
    have hp0 : (0 : Int) ≤ (p.n : Int) := by omega
    have hc6 := r7 6 (.string txC) (fun x => { x with caught := txC }) (by decide) (fun _ => rfl)
    have n3 : (p2.set p.n fun x => { x with caught := txC }).n = p.n + 2 := by rw [set_n, n2]
    have m3 : (p2.set p.n fun x => { x with caught := txC }).m = p2.m := set_m
    rw [hp3] at hc6 n3 m3
    have HC6 := Lib.hid hc6
    clear hp3 hc6
    have HB6 := Lib.hid (HB5.out.setCell (p := ⟨g, p.n * 8 + 6, none⟩) r2 (.string txC))
    clear r2 r3 r4 r5 r6 r7 hc5 hb5 HC3 HB3 HB5
    go_upto_region 6 with (fail)
    have hc6 : C (w5.setCell ⟨g, p.n * 8 + 6, none⟩ (.string ⟨#[99, 97, 117, 103, 104, 116]⟩)) base q p3 := HC6.out
    have hb6 : Below base w (w5.setCell ⟨g, p.n * 8 + 6, none⟩ (.string ⟨#[99, 97, 117, 103, 104, 116]⟩)) := HB6.out
    clear HC6 HB6 s6 f6 r1
    generalize w5.setCell ⟨g, p.n * 8 + 6, none⟩ (.string ⟨#[99, 97, 117, 103, 104, 116]⟩) = w6 at *
    have hc6d : C w6.drew base q p3 := hc6.below (Below.refl _ _).drew (Nat.le_refl _)
    have HB6 := Lib.hid hb6.drew
    obtain ⟨g1, c1, r1, r2, r3, r4, r5, r6, r7⟩ := hc6d.row (k := p.n) (by omega)
    have r1' : w6.cell? ⟨q, 1, none⟩ = some (.slice (some ⟨g1, 0, none⟩) p3.n c1) := r1
    have hpn3 : (p.n : Int) < (p.n : Int) + 2 := by omega
    have hj : Calls Try.prog 28 #[.pointer (some ⟨q, 0, none⟩), .int .i64 p.n, .int .i64 ((p.n : Int) + 1), .string ⟨#[]⟩] w6.drew fun e w' => e = .returned (.int .i64 ((p.m : Int) + 1)) ∧ C w' base q (p3.join p.n ((p.n : Int) + 1) no) ∧ Below base w6.drew w' ∧ w'.cell? ⟨q, 1, none⟩ = w6.drew.cell? ⟨q, 1, none⟩ := by
      rw [show (p.m : Int) + 1 = ((p3.m : Nat) : Int) from by omega]
      exact mjoin_any (p.n : Int) ((p.n : Int) + 1) no hc6d (by omega)
    have HJ := Lib.hid hj
    have hn4 : p.n < (p3.join p.n ((p.n : Int) + 1) no).n := by rw [join_n]; omega
    clear hj hc6 hb6 hc6d r2 r3 r4 r5 r6 r7
    go_region_law (go_simp; go_at_call 28; refine HJ.out.mono ?_; rintro e w7 ⟨rfl, hc7, hb7, hk7⟩; obtain ⟨g2, c2, t1, t2, t3, t4, t5, t6, t7⟩ := hc7.row hn4; (obtain rfl : g1 = g2 := by (rw [hk7, r1] at t1; injection t1 with t1; injection t1 with t1; injection t1 with t1; injection t1)); have x7 := t5 7 _ rfl; have fz := t6 (p.n * 8 + 7); have HT7 := Lib.hid t7; have HT2 := Lib.hid t2; clear t3 t4 t5 t6 t7 hc7)
    all_goals
      have HFIN := Lib.hid (HT7.out 7 (.int .i64 ((p.m : Int) + 1)) (fun x => { x with tgt := (p.m : Int) + 1 }) (by decide) (fun _ => rfl))
      have HBF := Lib.hid ((HB6.out.trans hb7).setCell (p := ⟨g1, p.n * 8 + 7, none⟩) HT2.out (.int .i64 ((p.m : Int) + 1)))
      clear hb7 HB6 t1
      go_wp2
      go_ret
      have hW2 := HW1.out
      subst hW2
      exact ⟨rfl, HFIN.out, HBF.out⟩
  · have hkI : ¬ (k4 : Int) = 0 := by omega
    have hkB : ((k4 : Int) == 0) = false := by rw [beq_eq_false_iff_ne]; exact hkI
    rw [if_neg hkI] at hW1
    subst hW1
    clear hkI h0
    go_wp2
    go_ret
    exact ⟨rfl, HC3.out, HB3.out⟩
end
end Pr
end Go.Proofs.Ytjdgloofdafebaa
