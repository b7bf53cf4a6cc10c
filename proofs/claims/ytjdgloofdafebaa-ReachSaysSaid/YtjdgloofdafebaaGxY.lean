/- Walks of leaseholdmake: a gateway that leads back by a Work. -/
import Derived.Test.YtjdgloofdafebaaGwY
namespace Go.Proofs.Ytjdgloofdafebaa
open Go.RowKit

namespace Pr
section
variable {w : World} {base q : Nat} {p : P}
set_option maxHeartbeats 3200000 in
set_option maxRecDepth 10000 in
theorem mloop_any (at_ : Nat) (m : Int) (h : C w base q p) (hn : p.n ≤ 1000) (hm : p.m ≤ 1000) (m1 : -9223372036854775808 ≤ m) (m2 : m ≤ 9223372036854775807) :
    Calls Try.prog 26 #[.pointer (some ⟨q, 0, none⟩), .int .i64 at_, .int .i64 m] w fun e w' => e = .returned (.int .i64 (loop p at_ m).2) ∧ C w' base q (loop p at_ m).1 ∧ Below base w w' := by
  have hlow := h.low
  have hlt := h.lt
  have hbase : base ≤ w.heap.size := by omega
  have HT := Lib.hid (fun W => mtopics_any m W m1 m2)
  obtain ⟨X, hX⟩ : ∃ X, IntKind.i64.wrap (3 + m) = X := ⟨_, rfl⟩
  have hX' : wrap64 (3 + m) = X := by unfold wrap64; rw [← hX, IntKind.wrap_i64]
  have hXb : -9223372036854775808 ≤ X ∧ X ≤ 9223372036854775807 := by rw [← hX, IntKind.wrap_i64]; omega
  have HK := Lib.hid (fun W => mconds_any X W hXb.1 hXb.2)
  obtain ⟨R, hw⟩ : ∃ R, R = loop p at_ m := ⟨_, rfl⟩
  rw [← hw]
  unfold loop at hw
  simp only [] at hw
  rw [hX'] at hw
  generalize bs (topics m) = T at *
  generalize bs (conds X) = K at *
  have HW := Lib.hid hw
  have HC := Lib.hid h
  clear hw h m1 m2 hX' hXb
  go_enter Try.func26, Try.ntmps26
  go_wp2_with fail
  refine (mplain_any 5 HC.out (by omega)).mono ?_
  rintro e w1 ⟨rfl, hc1, hb1⟩
  have HB1 := Lib.hid hb1
  have HC1 := Lib.hid hc1
  clear hc1 hb1 HC
  go_wp2_with fail
  refine (mjoin_any (at_ : Int) (p.n : Int) no HC1.out (by show p.m ≤ 100000; omega)).mono ?_
  rintro e w2 ⟨rfl, hc2, hb2, -⟩
  have HB2 := Lib.hid (HB1.out.trans hb2)
  have n1 : ((p.node (Nd.plain 5)).join at_ p.n no).n = p.n + 1 := by rw [join_n, node_n]
  have m1 : ((p.node (Nd.plain 5)).join at_ p.n no).m = p.m + 1 := by rw [join_m, node_m]
  have hW1 := HW.out
  generalize (p.node (Nd.plain 5)).join at_ p.n no = p1 at *
  have HC2 := Lib.hid hc2
  clear hc2 hb2 HC1 HB1 HW
  go_wp2_with fail
  refine (HT.out _).mono ?_
  rintro e w3 ⟨rfl, hb3⟩
  have HB3 := Lib.hid (HB2.out.trans (hb3.mono (Nat.le_trans hbase HB2.out.size)))
  have HC3 := Lib.hid (HC2.out.below hb3 (Nat.le_refl _))
  clear hb3 HB2 HC2 HT
  go_wp2_with fail
  refine (mworknode_any T 0 1 HC3.out (by omega)).mono ?_
  rintro e w4 ⟨rfl, hc4, hb4⟩
  have HB4 := Lib.hid (HB3.out.trans hb4)
  have n2 : (p1.node (Nd.work T 0 1)).n = p.n + 2 := by rw [node_n, n1]
  have m2 : (p1.node (Nd.work T 0 1)).m = p.m + 1 := by rw [node_m, m1]
  have N1 : ((p1.n : Nat) : Int) = (p.n : Int) + 1 := by omega
  rw [N1]
  clear N1 n1 m1
  generalize p1.node (Nd.work T 0 1) = p2 at *
  have HC4 := Lib.hid hc4
  clear hc4 hb4 HC3 HB3
  go_wp2_with fail
  refine (mplain_any 5 HC4.out (by omega)).mono ?_
  rintro e w5 ⟨rfl, hc5, hb5⟩
  have HB5 := Lib.hid (HB4.out.trans hb5)
  have n3 : (p2.node (Nd.plain 5)).n = p.n + 3 := by rw [node_n, n2]
  have m3 : (p2.node (Nd.plain 5)).m = p.m + 1 := by rw [node_m, m2]
  have N2 : ((p2.n : Nat) : Int) = (p.n : Int) + 2 := by omega
  rw [N2]
  clear N2 n2 m2
  generalize p2.node (Nd.plain 5) = p3 at *
  have HC5 := Lib.hid hc5
  clear hc5 hb5 HC4 HB4
  go_wp2_with fail
  refine (HK.out _).mono ?_
  rintro e w6 ⟨rfl, hb6⟩
  have HB6 := Lib.hid (HB5.out.trans (hb6.mono (Nat.le_trans hbase HB5.out.size)))
  have HC6 := Lib.hid (HC5.out.below hb6 (Nat.le_refl _))
  clear hb6 HB5 HC5 HK
  go_wp2_with fail
  refine (mjoin_any (p.n : Int) ((p.n : Int) + 1) K HC6.out (by omega)).mono ?_
  rintro e w7 ⟨rfl, hc7, hb7, -⟩
  have HB7 := Lib.hid (HB6.out.trans hb7)
  have HC7 := Lib.hid hc7
  clear hc7 hb7 HC6 HB6
  go_wp2_with fail
  refine (mjoin_any ((p.n : Int) + 1) (p.n : Int) no HC7.out (by rw [join_m]; omega)).mono ?_
  rintro e w8 ⟨rfl, hc8, hb8, -⟩
  have HB8 := Lib.hid (HB7.out.trans hb8)
  have n4 : ((p3.join (p.n : Int) ((p.n : Int) + 1) K).join ((p.n : Int) + 1) (p.n : Int) no).n = p.n + 3 := n3
  have m4 : ((p3.join (p.n : Int) ((p.n : Int) + 1) K).join ((p.n : Int) + 1) (p.n : Int) no).m = p.m + 3 := by rw [join_m, join_m, m3]
  have N3 : (((p3.join (p.n : Int) ((p.n : Int) + 1) K).m : Nat) : Int) = (p.m : Int) + 2 := by rw [join_m, m3]; omega
  rw [N3]
  have M4 : ((((p3.join (p.n : Int) ((p.n : Int) + 1) K).join ((p.n : Int) + 1) (p.n : Int) no).m : Nat) : Int) = (p.m : Int) + 3 := by omega
  have c1 : ((p.n + 1 : Nat) : Int) = (p.n : Int) + 1 := by omega
  have c2 : ((p.n + 2 : Nat) : Int) = (p.n : Int) + 2 := by omega
  rw [c1, c2, M4] at hW1
  have HW1 := Lib.hid hW1
  clear N3 M4 c1 c2 hW1
  generalize (p3.join (p.n : Int) ((p.n : Int) + 1) K).join ((p.n : Int) + 1) (p.n : Int) no = p4 at *
  clear HB7 HC7 n3 m3
  go_upto_region 7 with (fail)
  have hc6d : C w8.drew base q p4 := hc8.below (Below.refl _ _).drew (Nat.le_refl _)
  have HB9 := Lib.hid HB8.out.drew
  obtain ⟨g1, c1, r1, r2, r3, r4, r5, r6, r7⟩ := hc6d.row (k := p.n) (by omega)
  have r1' : w8.cell? ⟨q, 1, none⟩ = some (.slice (some ⟨g1, 0, none⟩) p4.n c1) := r1
  have hpn3 : (p.n : Int) < (p.n : Int) + 3 := by omega
  have hp0 : (0 : Int) ≤ (p.n : Int) := by omega
  have hj : Calls Try.prog 28 #[.pointer (some ⟨q, 0, none⟩), .int .i64 p.n, .int .i64 ((p.n : Int) + 2), .string ⟨#[]⟩] w8.drew fun e w' => e = .returned (.int .i64 ((p.m : Int) + 3)) ∧ C w' base q (p4.join p.n ((p.n : Int) + 2) no) ∧ Below base w8.drew w' ∧ w'.cell? ⟨q, 1, none⟩ = w8.drew.cell? ⟨q, 1, none⟩ := by
    rw [show (p.m : Int) + 3 = ((p4.m : Nat) : Int) from by omega]
    exact mjoin_any (p.n : Int) ((p.n : Int) + 2) no hc6d (by omega)
  have HJ := Lib.hid hj
  have hn4 : p.n < (p4.join p.n ((p.n : Int) + 2) no).n := by rw [join_n]; omega
  clear hj hc8 hb8 HB8 hc6d r2 r3 r4 r5 r6 r7
  go_region_law (go_simp; go_at_call 28; refine HJ.out.mono ?_; rintro e w9 ⟨rfl, hc7, hb7, hk7⟩; obtain ⟨g2, c2, t1, t2, t3, t4, t5, t6, t7⟩ := hc7.row hn4; (obtain rfl : g1 = g2 := by (rw [hk7, r1] at t1; injection t1 with t1; injection t1 with t1; injection t1 with t1; injection t1)); have x7 := t5 4 _ rfl; have fz := t6 (p.n * 8 + 4); have HT7 := Lib.hid t7; have HT2 := Lib.hid t2; clear t3 t4 t5 t6 t7 hc7)
  all_goals
    have HFIN := Lib.hid (HT7.out 4 (.int .i64 ((p.m : Int) + 3)) (fun x => { x with dflt := (p.m : Int) + 3 }) (by decide) (fun _ => rfl))
    have HBF := Lib.hid ((HB9.out.trans hb7).setCell (p := ⟨g1, p.n * 8 + 4, none⟩) HT2.out (.int .i64 ((p.m : Int) + 3)))
    clear hb7 HB9 t1
    go_wp2
    go_ret
    have hW2 := HW1.out
    subst hW2
    exact ⟨ret_int (by simp), HFIN.out, HBF.out⟩
end
end Pr
end Go.Proofs.Ytjdgloofdafebaa
