/- The statement VarsSay: its walk. -/
import Derived.Test.YthkgjdhbibialaaDoorSf
import Derived.Test.YthkgjdhbibialaaDoorVf
import Derived.Test.YthkgjdhbibialaaDoorVh
import Derived.Test.YthkgjdhbibialaaDoorOpen
namespace Go.Proofs.YthkgjdhbibialaaDoor
open Go.RowKit

theorem val_new (w : World) (x y : Int) (t : ByteArray) (W : World) (hW : W = w.alloc (.cells #[.int .i64 x, .int .i64 y, .string t] 26)) :
    W.cell? ⟨w.heap.size, 0, none⟩ = some (.int .i64 x) ∧ W.cell? ⟨w.heap.size, 1, none⟩ = some (.int .i64 y) ∧ W.cell? ⟨w.heap.size, 2, none⟩ = some (.string t) ∧ Below w.heap.size w W := by
  subst hW
  have hh := heap_alloc_new w (.cells #[.int .i64 x, .int .i64 y, .string t] 26)
  exact ⟨cell_of_row _ w.heap.size 0 _ _ (0, 0) hh, cell_of_row _ w.heap.size 1 _ _ (0, 0) hh, cell_of_row _ w.heap.size 2 _ _ (0, 0) hh, (Below.refl _ _).alloc (Nat.le_refl _) _⟩
theorem fault_new (w : World) (x : Int) (p : Bool) (y : Int) (W : World) (hW : W = w.alloc (.cells #[.int .i64 x, .bool p, .int .i64 y] 34)) :
    W.cell? ⟨w.heap.size, 0, none⟩ = some (.int .i64 x) ∧ W.cell? ⟨w.heap.size, 1, none⟩ = some (.bool p) ∧ W.cell? ⟨w.heap.size, 2, none⟩ = some (.int .i64 y) ∧ Below w.heap.size w W := by
  subst hW
  have hh := heap_alloc_new w (.cells #[.int .i64 x, .bool p, .int .i64 y] 34)
  exact ⟨cell_of_row _ w.heap.size 0 _ _ (0, 0) hh, cell_of_row _ w.heap.size 1 _ _ (0, 0) hh, cell_of_row _ w.heap.size 2 _ _ (0, 0) hh, (Below.refl _ _).alloc (Nat.le_refl _) _⟩
theorem same_true {ads : List Addr} {w : World} {ev : Value} {c : Int} {o : Option Nat} {p : Bool} {q : Int} (hE : Errs w 104 sents ads) (h : SeenF (errMap pos16 ads) w ev c o) (hp : p = o.isSome) (hq : q = ((o.getD 0 : Nat) : Int)) :
    Calls Tryd.prog 16 #[ev, .agg #[.int .i64 c, .bool p, .int .i64 q]] w fun e w' => e = .returned (.bool true) ∧ Below w.heap.size w w' := by
  have hs := same_seen hE h c p q
  have e : (c == c && (o.isSome == p && (((o.getD 0 : Nat) : Int) == q))) = true := by subst hp; subst hq; simp
  rw [e] at hs
  unfold faultV at hs
  exact hs

set_option maxRecDepth 100000 in
set_option maxHeartbeats 4000000 in
theorem varsSay_walk (s : ByteArray) (A : Option Addr) (n c : Nat) (l : List Vr.V) (C : Option Addr) (m cc : Nat) (more : List Vr.V) (ads : List Addr) (w : World) (hs : s.size ≤ maxLen) (hin : InRow w 4 A n c (l.flatMap Vr.V.cells)) (hv : ∀ x ∈ l, Vr.InV x)
    (hin2 : InRow w 4 C m cc (more.flatMap Vr.V.cells)) (hv2 : ∀ x ∈ more, Vr.InV x) (hE0 : Errs w 104 sents ads) :
    Calls Tryd.prog 3 #[.string s, .slice A n c, .slice C m cc] w fun e w' => e = .returned (.bool true) ∧ Below w.heap.size w w' := by
  have hE := vaErrs16 hE0
  have r0 : VRow w w.heap.size A n l := hin.row
  have m0 : VRow w w.heap.size C m more := hin2.row
  have hA := hin.nn
  have hcap := hin.cap
  have hmost := hin.most
  have hcap2 := hin2.cap
  have hmost2 := hin2.most
  unfold maxLen at hmost hmost2 hs
  have HL := Lib.hid r0.len
  have HM := Lib.hid m0.len
  have HV := Lib.hid hv
  have HU := Lib.hid hv2
  clear hin hin2 hv hv2
  have hF := vfirst_any hE (Below.refl w.heap.size w)
  by_cases h60 : 60 < s.size
  · have h60' : (60 : Int) < (s.size : Int) := by omega
    go_enter Tryd.func3, Tryd.ntmps3
    go_wp2_with fail
    refine hF.mono ?_
    rintro e w1 ⟨rfl, hb1⟩
    go_wp2
    go_ret
    exact ⟨rfl, hb1⟩
  · have h60' : ¬ (60 : Int) < (s.size : Int) := by omega
    have h60d : decide ((60 : Int) < (s.size : Int)) = false := decide_eq_false h60'
    go_enter Tryd.func3, Tryd.ntmps3
    go_wp2_with fail
    refine hF.mono ?_
    rintro e w1 ⟨rfl, hb1⟩
    clear hF
    have hr1 := (r0.below hb1 (Nat.le_refl _)).mono hb1.size
    have hm1 := (m0.below hb1 (Nat.le_refl _)).mono hb1.size
    have hLl := light_any A n c l hr1 (by omega) HV.out
    have hLm := light_any C m cc more hm1 (by omega) HU.out
    cases hq : Vr.light l with
    | false =>
      rw [hq] at hLl
      clear hLm hq
      go_wp2_with fail
      refine hLl.mono ?_
      rintro e w2 ⟨rfl, rfl⟩
      go_wp2
      go_ret
      exact ⟨rfl, hb1⟩
    | true =>
      rw [hq] at hLl
      have hn20 : n ≤ 20 := by have := (Vr.light_len hq).1; rw [HL.out] at this; exact this
      clear hq
      cases hq : Vr.light more with
      | false =>
        rw [hq] at hLm
        clear hq
        go_wp2_with fail
        refine hLl.mono ?_
        rintro e w2 ⟨rfl, rfl⟩
        go_wp2_with fail
        refine hLm.mono ?_
        rintro e w2 ⟨rfl, rfl⟩
        go_wp2
        go_ret
        exact ⟨rfl, hb1⟩
      | true =>
        rw [hq] at hLm
        have hm20 : m ≤ 20 := by have := (Vr.light_len hq).1; rw [HM.out] at this; exact this
        clear hq
        have hG1 := get_any A n c l s hr1 (by omega)
        obtain ⟨gv, gb, hg⟩ : ∃ gv gb, Vr.get l s = (gv, gb) := ⟨_, _, rfl⟩
        rw [hg] at hG1
        unfold getV Vr.V.inner at hG1
        dsimp only at hG1
        have HG := Lib.hid hg
        clear hg
        go_wp2_with fail
        refine hLl.mono ?_
        rintro e w2 ⟨rfl, rfl⟩
        go_wp2_with fail
        refine hLm.mono ?_
        rintro e w2 ⟨rfl, rfl⟩
        go_wp2_with fail
        refine hG1.mono ?_
        rintro e w2 ⟨rfl, hb2⟩
        have hbw2 := hb1.trans (hb2.mono hb1.size)
        clear hLl hLm hG1 hr1 hm1 hb1 hb2
        go_upto_region 7 with (fail)
        obtain ⟨W3, hW3⟩ : ∃ W3, W3 = w2.alloc (.cells #[.int .i64 gv.kind, .int .i64 gv.num, .string gv.text] 26) := ⟨_, rfl⟩
        obtain ⟨a0, a1, a2, hb3⟩ := val_new w2 gv.kind gv.num gv.text W3 hW3
        rw [← hW3]
        clear hW3
        obtain ⟨pa, hpa⟩ : ∃ pa, pa = w2.heap.size := ⟨_, rfl⟩
        have hbw3 := hbw2.trans (hb3.mono hbw2.size)
        rw [← hpa] at a0 a1 a2
        rw [← hpa]
        clear hpa hb3 hbw2
        have hr3 := (r0.below hbw3 (Nat.le_refl _)).mono hbw3.size
        have hG2 := refget_any (w := W3) A n c l s hr3 (by omega)
        rw [HG.out] at hG2
        unfold getV Vr.V.inner at hG2
        dsimp only at hG2
        clear hr3
        go_wp2_with fail
        refine hG2.mono ?_
        rintro e w4 ⟨rfl, hb4⟩
        have a0 := below_cells hb4 a0
        have a1 := below_cells hb4 a1
        have a2 := below_cells hb4 a2
        have hbw4 := hbw3.trans (hb4.mono hbw3.size)
        clear hG2 hb4 hbw3
        go_upto_region 8 with (fail)
        obtain ⟨W5, hW5⟩ : ∃ W5, W5 = w4.alloc (.cells #[.int .i64 gv.kind, .int .i64 gv.num, .string gv.text] 26) := ⟨_, rfl⟩
        obtain ⟨b0, b1, b2, hb5⟩ := val_new w4 gv.kind gv.num gv.text W5 hW5
        rw [← hW5]
        clear hW5
        obtain ⟨pb, hpb⟩ : ∃ pb, pb = w4.heap.size := ⟨_, rfl⟩
        have hbw5 := hbw4.trans (hb5.mono hbw4.size)
        have a0 := below_cells hb5 a0
        have a1 := below_cells hb5 a1
        have a2 := below_cells hb5 a2
        rw [← hpb] at b0 b1 b2
        rw [← hpb]
        clear hpb hb5 hbw4
        have hr5 := (r0.below hbw5 (Nat.le_refl _)).mono hbw5.size
        have hm5 := (m0.below hbw5 (Nat.le_refl _)).mono hbw5.size
        have hSet := set_any (W := w) A n c l C m cc more hE hbw5 hr5 hA (by omega) hm5 (by omega) HV.out HU.out
        obtain ⟨L2, x2, o2, hL2⟩ : ∃ L2 x2 o2, Vr.setV l more = (L2, x2, o2) := ⟨_, _, _, rfl⟩
        have HL2 := Lib.hid hL2
        rw [hL2] at hSet
        dsimp only at hSet
        clear hL2 hr5 hm5
        go_wp2_with fail
        refine hSet.mono ?_
        rintro e w6 ⟨A1, n1, c1, ev, rfl, ho1, hsv, hb6⟩
        have a0 := below_cells hb6 a0
        have a1 := below_cells hb6 a1
        have a2 := below_cells hb6 a2
        have b0 := below_cells hb6 b0
        have b1 := below_cells hb6 b1
        have b2 := below_cells hb6 b2
        have hbw6 := hbw5.trans (hb6.mono hbw5.size)
        clear hSet hb6 hbw5
        have hr6 := (r0.below hbw6 (Nat.le_refl _)).mono hbw6.size
        have hm6 := (m0.below hbw6 (Nat.le_refl _)).mono hbw6.size
        have hRS := refset_any (w := w6) A n c l C m cc more hr6 (by omega) hm6 (by omega) HV.out HU.out
        rw [HL2.out] at hRS
        dsimp only at hRS
        obtain ⟨pl, hpl⟩ : ∃ pl, pl = o2.isSome := ⟨_, rfl⟩
        obtain ⟨ps, hps⟩ : ∃ ps : Int, ps = ((o2.getD 0 : Nat) : Int) := ⟨_, rfl⟩
        unfold faultP faultV at hRS
        rw [← hpl, ← hps] at hRS
        have HPL := Lib.hid hpl
        have HPS := Lib.hid hps
        clear hpl hps hr6 hm6
        go_wp2_with fail
        refine hRS.mono ?_
        rintro e w7 ⟨A2, n2, c2, rfl, ho2, hb7⟩
        have a0 := below_cells hb7 a0
        have a1 := below_cells hb7 a1
        have a2 := below_cells hb7 a2
        have b0 := below_cells hb7 b0
        have b1 := below_cells hb7 b1
        have b2 := below_cells hb7 b2
        have ho1 := ho1.below hb7 (Nat.le_refl _)
        have hsv := hsv.below hb7 (Nat.le_refl _)
        have hbw7 := hbw6.trans (hb7.mono hbw6.size)
        clear hRS hb7 hbw6
        go_upto_region 10 with (fail)
        obtain ⟨W8, hW8⟩ : ∃ W8, W8 = w7.alloc (.cells #[.int .i64 x2, .bool pl, .int .i64 ps] 34) := ⟨_, rfl⟩
        obtain ⟨f0, f1, f2, hb8⟩ := fault_new w7 x2 pl ps W8 hW8
        rw [← hW8]
        clear hW8
        obtain ⟨pf, hpf⟩ : ∃ pf, pf = w7.heap.size := ⟨_, rfl⟩
        rw [← hpf] at f0 f1 f2
        rw [← hpf]
        have a0 := below_cells hb8 a0
        have a1 := below_cells hb8 a1
        have a2 := below_cells hb8 a2
        have b0 := below_cells hb8 b0
        have b1 := below_cells hb8 b1
        have b2 := below_cells hb8 b2
        have ho1 := ho1.below hb8 (Nat.le_refl _)
        have ho2 := ho2.below hb8 (Nat.le_refl _)
        have hsv := hsv.below hb8 (Nat.le_refl _)
        have hbw8 := hbw7.trans (hb8.mono hbw7.size)
        clear hpf hb8 hbw7
        have hN1 := name_any s W8 (by omega)
        have hN2 := refName_any s W8 (by omega)
        generalize Vr.name s.data.toList = nb at *
        have hnb : (nb == nb) = true := by simp
        have hgb : (gb == gb) = true := by simp
        have hr8 := (r0.below hbw8 (Nat.le_refl _)).mono hbw8.size
        have hK := check_any (W := w) A n c l hE hbw8 hr8 (by omega) HV.out
        obtain ⟨x1, o1, hck⟩ : ∃ x1 o1, Vr.check l = (x1, o1) := ⟨_, _, rfl⟩
        have HCK := Lib.hid hck
        rw [hck] at hK
        clear hck hr8
        go_wp2_with fail
        refine hN1.mono ?_
        rintro e w9 ⟨rfl, rfl⟩
        go_wp2_with fail
        refine hN2.mono ?_
        rintro e w9 ⟨rfl, rfl⟩
        clear hN1 hN2
        go_wp2_with fail
        refine hK.mono ?_
        rintro e w9 ⟨⟨ev1, rfl, hsv1⟩, hb9⟩
        have a0 := below_cells hb9 a0
        have a1 := below_cells hb9 a1
        have a2 := below_cells hb9 a2
        have b0 := below_cells hb9 b0
        have b1 := below_cells hb9 b1
        have b2 := below_cells hb9 b2
        have f0 := below_cells hb9 f0
        have f1 := below_cells hb9 f1
        have f2 := below_cells hb9 f2
        have ho1 := ho1.below hb9 (Nat.le_refl _)
        have ho2 := ho2.below hb9 (Nat.le_refl _)
        have hsv := hsv.below hb9 (Nat.le_refl _)
        have hbw9 := hbw8.trans (hb9.mono hbw8.size)
        clear hK hb9 hbw8
        have hr9 := (r0.below hbw9 (Nat.le_refl _)).mono hbw9.size
        have hRK := refcheck_any (w := w9) A n c l hr9 (by omega) HV.out
        rw [HCK.out] at hRK
        obtain ⟨ql, hql⟩ : ∃ ql, ql = o1.isSome := ⟨_, rfl⟩
        obtain ⟨qs, hqs⟩ : ∃ qs : Int, qs = ((o1.getD 0 : Nat) : Int) := ⟨_, rfl⟩
        unfold faultP faultV at hRK
        rw [← hql, ← hqs] at hRK
        have HQL := Lib.hid hql
        have HQS := Lib.hid hqs
        clear hql hqs hr9
        go_wp2_with fail
        refine hRK.mono ?_
        rintro e w10 ⟨rfl, hb10⟩
        have a0 := below_cells hb10 a0
        have a1 := below_cells hb10 a1
        have a2 := below_cells hb10 a2
        have b0 := below_cells hb10 b0
        have b1 := below_cells hb10 b1
        have b2 := below_cells hb10 b2
        have f0 := below_cells hb10 f0
        have f1 := below_cells hb10 f1
        have f2 := below_cells hb10 f2
        have ho1 := ho1.below hb10 (Nat.le_refl _)
        have ho2 := ho2.below hb10 (Nat.le_refl _)
        have hsv := hsv.below hb10 (Nat.le_refl _)
        have hsv1 := hsv1.below hb10 (Nat.le_refl _)
        have hbw10 := hbw9.trans (hb10.mono hbw9.size)
        clear hRK hb10 hbw9
        have hS1 := same_true (hE0.below hbw10 (Nat.le_refl _)) hsv1 HQL.out HQS.out
        go_wp2_with fail
        refine hS1.mono ?_
        rintro e w11 ⟨rfl, hb11⟩
        have a0 := below_cells hb11 a0
        have a1 := below_cells hb11 a1
        have a2 := below_cells hb11 a2
        have b0 := below_cells hb11 b0
        have b1 := below_cells hb11 b1
        have b2 := below_cells hb11 b2
        have f0 := below_cells hb11 f0
        have f1 := below_cells hb11 f1
        have f2 := below_cells hb11 f2
        have ho1 := ho1.below hb11 (Nat.le_refl _)
        have ho2 := ho2.below hb11 (Nat.le_refl _)
        have hsv := hsv.below hb11 (Nat.le_refl _)
        have hbw11 := hbw10.trans (hb11.mono hbw10.size)
        clear hS1 hsv1 hb11 hbw10
        have hV := fun W => sameValue_any gv gv W
        rw [show Vr.sameVal gv gv = true by simp [Vr.sameVal]] at hV
        unfold Vr.V.inner at hV
        go_wp2_with fail
        refine (hV _).mono ?_
        rintro e w12 ⟨rfl, hb12⟩
        clear hV a0 a1 a2 b0 b1 b2
        have f0 := below_cells hb12 f0
        have f1 := below_cells hb12 f1
        have f2 := below_cells hb12 f2
        have ho1 := ho1.below hb12 (Nat.le_refl _)
        have ho2 := ho2.below hb12 (Nat.le_refl _)
        have hsv := hsv.below hb12 (Nat.le_refl _)
        have hbw12 := hbw11.trans (hb12.mono hbw11.size)
        clear hb12 hbw11
        obtain rfl : n1 = n2 := ho1.len.symm.trans ho2.len
        have hn1 : n1 ≤ 1000000 := by
          have h1 := ho1.len
          have h2 : L2.length ≤ 40 := by
            have h3 := HL2.out
            unfold Vr.setV at h3
            split at h3
            · injection h3 with h3 _
              rw [← h3]
              have h4 := (Vr.sets_len_le more l).2
              rw [HL.out, HM.out] at h4
              omega
            · injection h3 with h3 _
              rw [← h3]
              simp
          omega
        have hVs := sameVars_any (w := w12) A1 n1 c1 L2 A2 n1 c2 L2 ho1.row ho2.row hn1 hn1
        rw [Vr.sameL_refl] at hVs
        clear ho1 ho2
        go_wp2_with fail
        refine hVs.mono ?_
        rintro e w13 ⟨rfl, hb13⟩
        have f0 := below_cells hb13 f0
        have f1 := below_cells hb13 f1
        have f2 := below_cells hb13 f2
        have hsv := hsv.below hb13 (Nat.le_refl _)
        have hbw13 := hbw12.trans (hb13.mono hbw12.size)
        clear hVs hb13 hbw12
        have hS2 := same_true (hE0.below hbw13 (Nat.le_refl _)) hsv HPL.out HPS.out
        go_wp2_with fail
        refine hS2.mono ?_
        rintro e w14 ⟨rfl, hb14⟩
        have hbw14 := hbw13.trans (hb14.mono hbw13.size)
        clear hS2 hsv hb14 hbw13 f0 f1 f2
        have hr14 := (r0.below hbw14 (Nat.le_refl _)).mono hbw14.size
        have hm14 := (m0.below hbw14 (Nat.le_refl _)).mono hbw14.size
        have hQ1 := vsame_any (w := w14) A n c l C m cc more hr14 hm14 (by omega) (by omega)
        obtain ⟨sb, hsb⟩ : ∃ sb, sb = Vr.sameL l more := ⟨_, rfl⟩
        have HSB := Lib.hid hsb
        rw [← hsb] at hQ1
        have hsbb : (sb == sb) = true := by simp
        clear hsb
        go_wp2_with fail
        refine hQ1.mono ?_
        rintro e w15 ⟨rfl, hb15⟩
        have hbw15 := hbw14.trans (hb15.mono hbw14.size)
        have hQ2 := sameVars_any (w := w15) A n c l C m cc more ((r0.below hbw15 (Nat.le_refl _)).mono hbw15.size) ((m0.below hbw15 (Nat.le_refl _)).mono hbw15.size) (by omega) (by omega)
        rw [← HSB.out] at hQ2
        clear hQ1 hb15 hr14 hm14 hbw14
        go_wp2_with fail
        refine hQ2.mono ?_
        rintro e w16 ⟨rfl, hb16⟩
        go_wp2
        go_ret
        exact ⟨rfl, hbw15.trans (hb16.mono hbw15.size)⟩
end Go.Proofs.YthkgjdhbibialaaDoor
