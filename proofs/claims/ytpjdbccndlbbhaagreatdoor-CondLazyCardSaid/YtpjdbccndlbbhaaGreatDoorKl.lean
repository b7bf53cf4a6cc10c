/- Walk of the statement CondLazy: or, and look at the second part only where the first one does not tell. -/
import Derived.Test.YtpjdbccndlbbhaaGreatDoorKa
namespace Go.Proofs.YtpjdbccndlbbhaaGreatDoor
open Go.RowKit

namespace Co
theorem fitZo (i : Nat) (hi : i < 5) : (tZo[i]!).Fit := by
  obtain ⟨h1, h2, h3⟩ := okZo i hi
  refine ⟨h1, h2, ?_, h3⟩
  have e : i = 0 ∨ i = 1 ∨ i = 2 ∨ i = 3 ∨ i = 4 := by omega
  rcases e with rfl | rfl | rfl | rfl | rfl <;> rfl
theorem fitZa (i : Nat) (hi : i < 5) : (tZa[i]!).Fit := by
  obtain ⟨h1, h2, h3⟩ := okZa i hi
  refine ⟨h1, h2, ?_, h3⟩
  have e : i = 0 ∨ i = 1 ∨ i = 2 ∨ i = 3 ∨ i = 4 := by omega
  rcases e with rfl | rfl | rfl | rfl | rfl <;> rfl
theorem fitZb (i : Nat) (hi : i < 5) : (tZb[i]!).Fit := by
  obtain ⟨h1, h2, h3⟩ := okZb i hi
  refine ⟨h1, h2, ?_, h3⟩
  have e : i = 0 ∨ i = 1 ∨ i = 2 ∨ i = 3 ∨ i = 4 := by omega
  rcases e with rfl | rfl | rfl | rfl | rfl <;> rfl
theorem lZ_lite (p : Bool) : ∀ v ∈ lZ p, v.text.size ≤ 80 := by
  intro v hv
  simp only [lZ, List.mem_cons, List.not_mem_nil, or_false] at hv
  rcases hv with rfl
  show (⟨#[]⟩ : ByteArray).size ≤ 80; decide
theorem cZ_no (i : Nat) (hi : i < 5) : cZ[i]! ≠ 0 := by
  have e : i = 0 ∨ i = 1 ∨ i = 2 ∨ i = 3 ∨ i = 4 := by omega
  rcases e with rfl | rfl | rfl | rfl | rfl <;> decide
theorem tZ_len (i : Nat) (hi : i < 5) : (tZ[i]!).length ≤ 80 := by
  have e : i = 0 ∨ i = 1 ∨ i = 2 ∨ i = 3 ∨ i = 4 := by omega
  rcases e with rfl | rfl | rfl | rfl | rfl <;> decide
theorem joinZo (i : Nat) (hi : i < 5) (W : World) : (Op.stringOp .add ⟨#[112, 32, 111, 114, 32]⟩ ⟨(tZ[i]!).toArray⟩).run Tryz.prog W = .ok (.string ⟨((tZo[i]!).s).toArray⟩) W := by
  have := tZ_len i hi
  rw [(sZ i hi).1]
  exact run_string_add_lists W [112, 32, 111, 114, 32] _ (by decide) (by omega)
theorem joinZa (i : Nat) (hi : i < 5) (W : World) : (Op.stringOp .add ⟨#[112, 32, 97, 110, 100, 32]⟩ ⟨(tZ[i]!).toArray⟩).run Tryz.prog W = .ok (.string ⟨((tZa[i]!).s).toArray⟩) W := by
  have := tZ_len i hi
  rw [(sZ i hi).2.1]
  exact run_string_add_lists W [112, 32, 97, 110, 100, 32] _ (by decide) (by omega)
theorem joinZb (i : Nat) (hi : i < 5) (W : World) : (Op.stringOp .add ⟨(tZ[i]!).toArray⟩ ⟨#[32, 111, 114, 32, 112]⟩).run Tryz.prog W = .ok (.string ⟨((tZb[i]!).s).toArray⟩) W := by
  have := tZ_len i hi
  rw [(sZ i hi).2.2]
  exact run_string_add_lists W _ [32, 111, 114, 32, 112] (by omega) (by decide)
end Co
set_option maxHeartbeats 3200000 in
set_option maxRecDepth 20000 in
theorem condLazy_walk (p : Bool) (which : Int) (ads : List Addr) (w : World) (h0 : -9223372036854775808 ≤ which) (h1 : which ≤ 9223372036854775807)
    (hE0 : Errs w 136 sents ads) (hW : CoWords w) :
    Calls Tryz.prog 5 #[.bool p, .int .i64 which] w fun e w' => e = .returned (.bool true) ∧ Below w.heap.size w w' := by
  have hE := coErrs16 hE0 hW
  have HE := Lib.hid hE
  have HE0 := Lib.hid hE0
  have HF := Lib.hid (cfirst_any hE (Below.refl w.heap.size w))
  have HA := Lib.hid (And.intro h0 h1)
  clear hE hE0 hW h0 h1
  go_enter Tryz.func5, Tryz.ntmps5
  go_wp2_with fail
  refine HF.out.mono ?_
  rintro e w1 ⟨rfl, hb1⟩
  have HB1 := Lib.hid hb1
  clear hb1 HF
  go_wp2_with fail
  refine (cflag_any _ _).mono ?_
  rintro e w2 ⟨rfl, hb2⟩
  have HB2 := Lib.hid (HB1.out.trans (hb2.mono HB1.out.size))
  clear hb2 HB1
  go_upto_if 26 with (fail)
  generalize hwq : ((w2.alloc _).alloc _).alloc _ = wq at *
  have hbx : Below w2.heap.size w2 wq := by rw [← hwq]; exact below3 _ _ _ _
  have hx1 : wq.heap[w2.heap.size]? = some (.cells ((Co.lZ p).flatMap Vr.V.cells).toArray 26 (0, 0)) := by rw [← hwq]; exact (three_new _ _ _ _).1
  have hx2 : wq.heap[w2.heap.size + 1]? = some (.cells (Co.tZ.map fun s => Value.string ⟨s.toArray⟩).toArray 9 (0, 0)) := by rw [← hwq]; exact (three_new _ _ _ _).2.1
  have hx3 : wq.heap[w2.heap.size + 1 + 1]? = some (.cells (Co.cZ.map (Value.int .i64)).toArray 3 (0, 0)) := by rw [← hwq]; exact (three_new _ _ _ _).2.2
  have HV := Lib.hid (varsC_lit 1 hx1 rfl (by decide) (Co.lZ_lite p))
  have HT : Hid (∀ i, i < 5 → wq.cell? ⟨w2.heap.size + 1, i, none⟩ = some (.string ⟨(Co.tZ[i]!).toArray⟩)) := Lib.hid fun i hi => lit_texts hx2 hi
  have HQ : Hid (∀ i, i < 5 → wq.cell? ⟨w2.heap.size + 1 + 1, i, none⟩ = some (.int .i64 Co.cZ[i]!)) := Lib.hid fun i hi => lit_ints hx3 hi
  have HBC := Lib.hid (HB2.out.trans (hbx.mono HB2.out.size))
  have HEC := Lib.hid (HE.out.below HBC.out)
  have hl3 := blk_lt hx3
  clear hwq hbx hx1 hx2 hx3 HB2 HE
  go_cut [1] from 23 to 29 (fun s wx => wx = wq ∧ ∃ m : Nat, s = .int .i64 m ∧ m ≤ 9223372036854775807)
  case first =>
    obtain ⟨h0, h1⟩ := HA.out
    clear HV HT HQ HBC HEC HE0 hl3 HA
    by_cases hneg : which < 0
    · obtain ⟨m, hm⟩ : ∃ m : Nat, -(which + 1) = m := ⟨(-(which + 1)).toNat, by omega⟩
      have e1 : IntKind.i64.wrap (which + 1) = which + 1 := by rw [IntKind.wrap_i64]; omega
      have e2 : IntKind.i64.wrap (-(which + 1)) = (m : Int) := by rw [hm, IntKind.wrap_i64]; omega
      have e3 : m ≤ 9223372036854775807 := by omega
      clear hm
      go_wp2_with fail
      go_meet
      exact ⟨rfl, m, rfl, e3⟩
    · obtain ⟨m, rfl⟩ : ∃ m : Nat, which = m := ⟨which.toNat, by omega⟩
      go_wp2_with fail
      go_meet
      exact ⟨rfl, m, rfl, by omega⟩
  case rest =>
    obtain ⟨rfl, m, rfl, hm⟩ := hcut
    have hmod : ((m : Int).tmod 5) = ((m % 5 : Nat) : Int) := rfl
    have hk : m % 5 < 5 := Nat.mod_lt _ (by decide)
    clear HA hm
    generalize m % 5 = k at *
    have hk0 : (0 : Int) ≤ (k : Int) := by omega
    have hkI : (k : Int) < 5 := by omega
    have c1 := HT.out k hk
    have c2 := HQ.out k hk
    have r1 := Co.joinZo k hk
    have r2 := Co.joinZa k hk
    have r3 := Co.joinZb k hk
    have hcd := Co.cZ_no k hk
    have X1 := Lib.hid (fun wy (hb : Below wc.heap.size wc wy) => cholds_any (c := 1) HEC.out HV.out (Co.tZo[k]!) (Co.fitZo k hk) hb)
    have X2 := Lib.hid (fun wy (hb : Below wc.heap.size wc wy) => cholds_any (c := 1) HEC.out HV.out (Co.tZa[k]!) (Co.fitZa k hk) hb)
    have X3 := Lib.hid (fun wy (hb : Below wc.heap.size wc wy) => cholds_any (c := 1) HEC.out HV.out (Co.tZb[k]!) (Co.fitZb k hk) hb)
    obtain ⟨v1, v2, v3⟩ := Co.evZ p k hk
    rw [v1] at X1
    rw [v2] at X2
    rw [v3] at X3
    clear v1 v2 v3
    generalize Co.cZ[k]! = cd at *
    generalize Co.tZ[k]! = tz at *
    generalize (Co.tZo[k]!).s = s1 at *
    generalize (Co.tZa[k]!).s = s2 at *
    generalize (Co.tZb[k]!).s = s3 at *
    have hcdI : ¬ cd = 0 := hcd
    have HCD := Lib.hid hcd
    clear hcd
    have HC1 := Lib.hid (fun w' h => cell_below (w := wc) (w' := w') h c1)
    have HC2 := Lib.hid (fun w' h => cell_below (w := wc) (w' := w') h c2)
    clear c2 hk HT HQ
    have HBX : Hid (∀ wy, Below wc.heap.size wc wy → Errs wy 136 sents ads) := Lib.hid fun wy hb => HE0.out.below (HBC.out.trans (hb.mono HBC.out.size)) (Nat.le_refl _)
    have HSA : Hid (∀ ev, SeenBy (errMap pos16 ads) ev cd → SeenAs ads ev cd) := Lib.hid fun ev hs => seenAs_of HE0.out hs
    clear HE0 HEC HV
    cases p
    · rw [if_neg (by decide)] at X1 X2
      go_wp2_with fail
      refine (X1.out _ (Below.refl _ _)).mono ?_
      rintro e w5 ⟨⟨e1, rfl, hs1⟩, hb5⟩
      have HS1 := Lib.hid (HSA.out _ hs1)
      have d1 := HC1.out _ hb5
      have HB5 := Lib.hid hb5
      clear hs1 hb5 c1 r1 X1
      go_wp2_with fail
      refine (X2.out _ HB5.out).mono ?_
      rintro e w6 ⟨⟨e2, rfl, hs2⟩, hb6⟩
      obtain rfl := seen_nil hs2
      have hb6c := HB5.out.trans (hb6.mono HB5.out.size)
      have d2 := HC1.out _ hb6c
      have HB6 := Lib.hid hb6c
      clear hs2 hb6 hb6c d1 r2 X2 HB5
      go_wp2_with fail
      refine (X3.out _ HB6.out).mono ?_
      rintro e w7 ⟨⟨e3, rfl, hs3⟩, hb7⟩
      have hb7c := HB6.out.trans (hb7.mono HB6.out.size)
      have HI1 := Lib.hid (is_any ads e1 cd w7 (HBX.out _ hb7c) HS1.out cd)
      have HS3 := Lib.hid (HSA.out _ hs3)
      have q7 := HC2.out _ hb7c
      have HB7 := Lib.hid hb7c
      clear hs3 hb7 hb7c d2 r3 X3 HB6
      go_wp2_with fail
      refine HI1.out.mono ?_
      rintro e w8 ⟨rfl, hb8⟩
      have hb8c := HB7.out.trans (hb8.mono HB7.out.size)
      have HI3 := Lib.hid (is_any ads e3 cd w8 (HBX.out _ hb8c) HS3.out cd)
      have q8 := HC2.out _ hb8c
      have HB8 := Lib.hid hb8c
      clear hb8 hb8c HB7 q7 HI1
      go_wp2_with fail
      refine HI3.out.mono ?_
      rintro e w9 ⟨rfl, hb9⟩
      have HB9 := Lib.hid (HBC.out.trans ((HB8.out.trans (hb9.mono HB8.out.size)).mono HBC.out.size))
      clear hb9 HB8 q8 HI3
      go_wp2
      go_ret
      exact ⟨rfl, HB9.out⟩
    · rw [if_pos rfl] at X1 X2
      go_wp2_with fail
      refine (X1.out _ (Below.refl _ _)).mono ?_
      rintro e w5 ⟨⟨e1, rfl, hs1⟩, hb5⟩
      obtain rfl := seen_nil hs1
      have d1 := HC1.out _ hb5
      have HB5 := Lib.hid hb5
      clear hs1 hb5 c1 r1 X1
      go_wp2_with fail
      refine (X2.out _ HB5.out).mono ?_
      rintro e w6 ⟨⟨e2, rfl, hs2⟩, hb6⟩
      have HS2 := Lib.hid (HSA.out _ hs2)
      have hb6c := HB5.out.trans (hb6.mono HB5.out.size)
      have d2 := HC1.out _ hb6c
      have HB6 := Lib.hid hb6c
      clear hs2 hb6 hb6c d1 r2 X2 HB5
      go_wp2_with fail
      refine (X3.out _ HB6.out).mono ?_
      rintro e w7 ⟨⟨e3, rfl, hs3⟩, hb7⟩
      have hb7c := HB6.out.trans (hb7.mono HB6.out.size)
      have HI2 := Lib.hid (is_any ads e2 cd w7 (HBX.out _ hb7c) HS2.out cd)
      have HS3 := Lib.hid (HSA.out _ hs3)
      have q7 := HC2.out _ hb7c
      have HB7 := Lib.hid hb7c
      clear hs3 hb7 hb7c d2 r3 X3 HB6
      go_wp2_with fail
      refine HI2.out.mono ?_
      rintro e w8 ⟨rfl, hb8⟩
      have hb8c := HB7.out.trans (hb8.mono HB7.out.size)
      have HI3 := Lib.hid (is_any ads e3 cd w8 (HBX.out _ hb8c) HS3.out cd)
      have q8 := HC2.out _ hb8c
      have HB8 := Lib.hid hb8c
      clear hb8 hb8c HB7 q7 HI2
      go_wp2_with fail
      refine HI3.out.mono ?_
      rintro e w9 ⟨rfl, hb9⟩
      have HB9 := Lib.hid (HBC.out.trans ((HB8.out.trans (hb9.mono HB8.out.size)).mono HBC.out.size))
      clear hb9 HB8 q8 HI3
      go_wp2
      go_ret
      exact ⟨rfl, HB9.out⟩
end Go.Proofs.YtpjdbccndlbbhaaGreatDoor
