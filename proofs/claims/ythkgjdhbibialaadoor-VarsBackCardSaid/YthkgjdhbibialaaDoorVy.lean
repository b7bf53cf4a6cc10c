/- The statement VarsBack: its walk. -/
import Derived.Test.YthkgjdhbibialaaDoorVu
namespace Go.Proofs.YthkgjdhbibialaaDoor
open Go.RowKit

set_option maxRecDepth 100000 in
set_option maxHeartbeats 8000000 in
theorem varsBack_walk (A : Option Addr) (n c : Nat) (l : List Vr.V) (C : Option Addr) (m cc : Nat) (tail : List UInt8) (nn : Int) (f : Bool) (s : ByteArray) (ads : List Addr) (w : World) (hin : InRow w 4 A n c (l.flatMap Vr.V.cells)) (hv : ∀ x ∈ l, Vr.InV x)
    (ht : InBytes w C m cc tail) (hn0 : -9223372036854775808 ≤ nn) (hn1 : nn ≤ 9223372036854775807) (hs : s.size ≤ maxLen)
    (hE0 : Errs w 104 [7, 6, 0, 4, 2, 5, 1, 3] ads) :
    Calls Tryd.prog 5 #[.slice A n c, .slice C m cc, .int .i64 nn, .bool f, .string s] w fun e w' => e = .returned (.bool true) ∧ Below w.heap.size w w' := by
  obtain ⟨i0, hi0, hz0, hz1, hz2⟩ := info_parts info_u8
  have hE := vaErrs8 hE0
  have hD := rdErrs8 hE0
  have r0 : VRow w w.heap.size A n l := hin.row
  have t0 := ht.bytes
  have tnn := ht.nn
  have hcap := hin.cap
  have hmost := hin.most
  have htc := ht.cap
  have htm := ht.most
  unfold maxLen at hmost hs htm
  have HL := Lib.hid r0.len
  have HTL := Lib.hid t0.len
  have HV := Lib.hid hv
  clear hE0 hin ht hv
  go_enter Tryd.func5, Tryd.ntmps5
  go_wp2_with fail
  refine (vfirst_any hE (Below.refl w.heap.size w)).mono ?_
  rintro e w1 ⟨rfl, hb1⟩
  have r1' := (r0.below hb1 (Nat.le_refl _)).mono hb1.size
  have hLt := light_any A n c l r1' (by omega) HV.out
  cases hlt : Vr.light l with
  | false =>
    rw [hlt] at hLt
    clear hlt
    go_wp2_with (go_at_call 9; refine hLt.mono ?_; rintro e w' ⟨rfl, rfl⟩)
    go_ret
    exact ⟨rfl, hb1⟩
  | true =>
    rw [hlt] at hLt
    obtain ⟨hl20, _⟩ := Vr.light_len hlt
    rw [HL.out] at hl20
    clear hlt
    go_wp2_with fail
    refine hLt.mono ?_
    rintro e w' ⟨rfl, rfl⟩
    clear hLt
    by_cases h40 : 40 < m
    · have h40' : (40 : Int) < (m : Int) := by omega
      go_wp2
      go_ret
      exact ⟨rfl, hb1⟩
    · have h40' : ¬ (40 : Int) < (m : Int) := by omega
      by_cases h60 : 60 < s.size
      · have h60' : (60 : Int) < (s.size : Int) := by omega
        go_wp2
        go_ret
        exact ⟨rfl, hb1⟩
      · have h60' : ¬ (60 : Int) < (s.size : Int) := by omega
        go_wp2_with fail
        refine (vnum_any nn w1).mono ?_
        rintro e w2 ⟨rfl, hb12⟩
        have hb2 := hb1.trans (hb12.mono hb1.size)
        go_upto_region 7 with (fail)
        have bx2 := Box3.new w2 1 nn ⟨#[]⟩
        have hb23 : Below w2.heap.size w2 (w2.alloc (.cells #[.int .i64 1, .int .i64 nn, .string ⟨#[]⟩] 26)) := (Below.refl _ _).alloc (Nat.le_refl _) _
        have hb3 := hb2.trans (hb23.mono hb2.size)
        obtain ⟨pa, hpa⟩ : ∃ pa, w2.heap.size = pa := ⟨_, rfl⟩
        rw [hpa] at bx2
        rw [hpa]
        clear hb12 hb2 hb23 hpa r1' hb1
        generalize w2.alloc (.cells #[.int .i64 1, .int .i64 nn, .string ⟨#[]⟩] 26) = w3 at *
        obtain ⟨fi, hfi⟩ : ∃ fi : Int, fi = if f then 1 else 0 := ⟨_, rfl⟩
        have hFl := vflag_any f w3
        rw [← hfi] at hFl
        have HFI := Lib.hid hfi
        clear hfi
        go_wp2_with fail
        refine hFl.mono ?_
        rintro e w4 ⟨rfl, hb34⟩
        have bx4 := bx2.below hb34
        have hb4 := hb3.trans (hb34.mono hb3.size)
        go_upto_region 8 with (fail)
        have by4 := Box3.new w4 2 fi ⟨#[]⟩
        have hb45 : Below w4.heap.size w4 (w4.alloc (.cells #[.int .i64 2, .int .i64 fi, .string ⟨#[]⟩] 26)) := (Below.refl _ _).alloc (Nat.le_refl _) _
        have hb5 := hb4.trans (hb45.mono hb4.size)
        have bx5 := bx4.below hb45
        obtain ⟨pb, hpb⟩ : ∃ pb, w4.heap.size = pb := ⟨_, rfl⟩
        rw [hpb] at by4
        rw [hpb]
        clear hFl hb34 bx2 hb4 hb45 bx4 hb3 hpb
        generalize w4.alloc (.cells #[.int .i64 2, .int .i64 fi, .string ⟨#[]⟩] 26) = w5 at *
        go_wp2_with fail
        refine (vword_any s w5).mono ?_
        rintro e w6 ⟨rfl, hb56⟩
        have bx6 := bx5.below hb56
        have by6 := by4.below hb56
        have hb6 := hb5.trans (hb56.mono hb5.size)
        go_upto_region 9 with (fail)
        have bz6 := Box3.new w6 3 0 s
        have hb67 : Below w6.heap.size w6 (w6.alloc (.cells #[.int .i64 3, .int .i64 0, .string s] 26)) := (Below.refl _ _).alloc (Nat.le_refl _) _
        have hb7 := hb6.trans (hb67.mono hb6.size)
        have bx7 := bx6.below hb67
        have by7 := by6.below hb67
        obtain ⟨pc, hpc⟩ : ∃ pc, w6.heap.size = pc := ⟨_, rfl⟩
        rw [hpc] at bz6
        rw [hpc]
        clear hb56 bx5 by4 hb6 hb67 bx6 by6 hb5 hpc
        generalize w6.alloc (.cells #[.int .i64 3, .int .i64 0, .string s] 26) = w7 at *
        obtain ⟨x0, x1, x2⟩ := bx7
        obtain ⟨y0, y1, y2⟩ := by7
        obtain ⟨z0, z1, z2⟩ := bz6
        have hfe : (fi == 1) = f := by rw [HFI.out]; cases f <;> rfl
        have hf01 : fi = 0 ∨ fi = 1 := by rw [HFI.out]; cases f <;> simp
        have HF01 := Lib.hid hf01
        have hnn : (nn == nn) = true := by simp
        have hff : (f == f) = true := by simp
        have hss : (s.toList == s.toList) = true := by simp
        clear hf01
        have hb78 : Below w7.heap.size w7 (w7.alloc (.cells #[.string ⟨#[97]⟩, .int .i64 1, .int .i64 nn, .string ⟨#[]⟩, .string ⟨#[98]⟩, .int .i64 2, .int .i64 fi, .string ⟨#[]⟩, .string ⟨#[99]⟩, .int .i64 3, .int .i64 0, .string s] 45)) := (Below.refl _ _).alloc (Nat.le_refl _) _
        have hK := check_any (W := w) (w := w7.alloc (.cells #[.string ⟨#[97]⟩, .int .i64 1, .int .i64 nn, .string ⟨#[]⟩, .string ⟨#[98]⟩, .int .i64 2, .int .i64 fi, .string ⟨#[]⟩, .string ⟨#[99]⟩, .int .i64 3, .int .i64 0, .string s] 45)) (some ⟨w7.heap.size, 0, none⟩) 3 3 [Vr.v1 nn, Vr.v2 fi, Vr.v3 s] hE (hb7.trans (hb78.mono hb7.size)) ((varRow_lit3 w7 nn fi s).mono (by simp)) (by omega) (fun x hx => by
          simp only [List.mem_cons, List.not_mem_nil, or_false] at hx
          have h1 := HF01.out
          rcases hx with rfl | rfl | rfl
          · exact ⟨by show (1 : Nat) ≤ _; omega, by show (0 : Nat) ≤ _; omega, by show (-9223372036854775808 : Int) ≤ 1; omega, by show (1 : Int) ≤ _; omega, hn0, hn1⟩
          · exact ⟨by show (1 : Nat) ≤ _; omega, by show (0 : Nat) ≤ _; omega, by show (-9223372036854775808 : Int) ≤ 2; omega, by show (2 : Int) ≤ _; omega, by show -9223372036854775808 ≤ fi; omega, by show fi ≤ 9223372036854775807; omega⟩
          · exact ⟨by show (1 : Nat) ≤ _; omega, by show s.size ≤ _; omega, by show (-9223372036854775808 : Int) ≤ 3; omega, by show (3 : Int) ≤ _; omega, by show (-9223372036854775808 : Int) ≤ 0; omega, by show (0 : Int) ≤ _; omega⟩)
        rw [Vr.three_fine nn fi s HF01.out (by omega)] at hK
        go_wp2_with fail
        refine hK.mono ?_
        rintro e w8 ⟨⟨ev8, rfl, hs8⟩, hb8⟩
        obtain rfl := hs8.none_of
        have hb8' := (hb7.trans (hb78.mono hb7.size)).trans (hb8.mono (Nat.le_trans hb7.size (by simp)))
        clear hs8 hK hb78 hb8 hb7 x0 x1 x2 y0 y1 y2 z0 z1 z2 hfe hnn hff hss
        have hCk := check_any (W := w) (w := w8) A n c l hE hb8' ((r0.below hb8' (Nat.le_refl _)).mono hb8'.size) (by omega) HV.out
        by_cases hc0 : (Vr.check l).1 = 0
        · rw [hc0, Vr.check_pos hc0] at hCk
          have HG := Lib.hid (Vr.good_check hc0)
          have hn12 := (Vr.check_zero hc0).1
          rw [HL.out] at hn12
          clear hc0
          go_wp2_with fail
          refine hCk.mono ?_
          rintro e w9 ⟨⟨ev9, rfl, hs9⟩, hb89⟩
          obtain rfl := hs9.none_of
          have hb9 := hb8'.trans (hb89.mono hb8'.size)
          clear hs9 hCk hb89 hb8'
          have hPt := vput_any (w := w9) none 0 0 [] A n c l (Bytes.nil _ _ _) (fun _ => ⟨rfl, rfl⟩) (by omega) ((r0.below hb9 (Nat.le_refl _)).mono hb9.size) (by omega) (fun x hx => Vr.fault_small (HV.out x hx) (HG.out.fts x hx))
          rw [List.nil_append] at hPt
          have hpl := Vr.puts_len l (fun x hx => Vr.fault_small (HV.out x hx) (HG.out.fts x hx))
          rw [HL.out] at hpl
          have hel := encs_len [(n : Int)] (fun x hx => by obtain rfl := List.mem_singleton.1 hx; omega)
          simp only [List.length_cons, List.length_nil] at hel
          obtain ⟨bs, hbs⟩ : ∃ bs, bs = encs [(n : Int)] ++ Vr.puts l := ⟨_, rfl⟩
          have hbl : bs.length ≤ 30000 := by rw [hbs, List.length_append]; omega
          rw [← hbs] at hPt
          have HBS := Lib.hid hbs
          clear hbs hpl hel
          go_wp2_with fail
          refine hPt.mono ?_
          rintro e w10 ⟨A10, m10, c10, rfl, ho10, hb910⟩
          have hb10 := hb9.trans (hb910.mono hb9.size)
          have h10 := ho10.len
          have hm10 : m10 ≤ 30000 := by omega
          have hsz910 := hb910.size
          have hsz9 := hb9.size
          clear hPt hb9 hb910 h10 hbl
          go_wp2_with (at_builtin; refine append_row rfl (.tmp 88) (.tmp 89) _ rfl 5 i0 _ 1 1 Tryd.underlying48 hi0 hz0 hz1 hz2 rfl (by decide) w9.heap.size _ m10 _ rfl ho10 w.heap.size _ m cc _ rfl tnn (t0.below hb10 (Nat.le_refl _)) (bv_one _) ?h7 ?h8 ?h9 ?_)
          case h7 => unfold maxLen; omega
          case h8 => omega
          case h9 => exact hsz910
          intro v11 w11 ho11 hg11 _
          obtain ⟨A11, c11, rfl, _⟩ := own_form ho11
          have ho11' : OwnBytes w11 w9.heap.size 5 A11 (m10 + m) c11 (bs ++ tail) := by unfold OwnBytes; rw [List.map_append]; exact ho11
          have hb11 : Below w.heap.size w w11 := hb10.grown hg11 (Nat.le_trans hsz9 hsz910) (fun k hk => Nat.le_trans hsz9 (ho10.lt k hk).1)
          have hRd := read_any (E := errMap pos8 ads) (w := w11) A11 (m10 + m) c11 ho11'.bytes ho11'.nn (by omega)
          clear ho11 hg11 ho10 hb10
          go_wp2_with fail
          refine hRd.mono ?_
          rintro e w12 ⟨p, rfl, hp, hR, hb1112⟩
          have hb12 := hb11.trans (hb1112.mono hb11.size)
          have hwp : w.heap.size ≤ p := Nat.le_trans hb11.size hp
          clear hRd hb11 hb1112 ho11'
          have hTk := takeAll_any hD hb12 hwp hR
          have htk : Vr.takeAll (bs ++ tail) 0 = (l, tail, 0) := by
            rw [HBS.out]
            have := Vr.takeAll_puts l tail (by rw [HL.out]; exact hn12) HV.out HG.out.fts
            rwa [HL.out] at this
          rw [htk] at hTk
          dsimp only at hTk
          clear htk
          go_wp2_with fail
          refine hTk.mono ?_
          rintro e w13 ⟨A13, n13, c13, rfl, ho13, hR13, hg13⟩
          have hb13 : Below w.heap.size w w13 := hb12.grown hg13 hb12.size (fun k hk => by cases hk; exact hwp)
          have hl13 := ho13.len
          rw [HL.out] at hl13
          subst hl13
          clear hTk hR hg13 hb12
          have hSl := sameVars_any (w := w13) A13 n c13 l A n c l ho13.row ((r0.below hb13 (Nat.le_refl _)).mono hb13.size) (by omega) (by omega)
          rw [Vr.sameL_refl] at hSl
          go_wp2_with fail
          refine hSl.mono ?_
          rintro e w14 ⟨rfl, hb1314⟩
          have hb14 := hb13.trans (hb1314.mono hb13.size)
          have hR14 := hR13.below hb1314
          have ho14 := ho13.below hb1314 (Nat.le_refl _)
          clear hSl hb1314 hb13 hR13 ho13
          have hEr := err_any hR14
          have hLf := left_any hR14
          rw [HTL.out] at hLf
          have hVs := vsame_any (w := w14) A13 n c13 l A n c l ho14.row ((r0.below hb14 (Nat.le_refl _)).mono hb14.size) (by omega) (by omega)
          rw [Vr.sameL_refl] at hVs
          have hmm : ((m : Int) == (m : Int)) = true := by simp
          go_wp2_with fail
          refine hEr.mono ?_
          rintro e w15 ⟨⟨ev, rfl, hsv⟩, rfl⟩
          obtain rfl := seen_nil hsv
          clear hsv hEr
          go_wp2_with fail
          refine hLf.mono ?_
          rintro e w15 ⟨rfl, rfl⟩
          go_wp2_with fail
          refine hVs.mono ?_
          rintro e w16 ⟨rfl, hb1416⟩
          go_wp2
          go_ret
          exact ⟨rfl, hb14.trans (hb1416.mono hb14.size)⟩
        · go_wp2_with fail
          refine hCk.mono ?_
          rintro e w9 ⟨⟨ev9, rfl, hs9⟩, hb89⟩
          obtain ⟨t9, a9, rfl⟩ := hs9.some_of hc0
          clear hs9 hc0 hCk
          go_wp2
          go_ret
          exact ⟨rfl, hb8'.trans (hb89.mono hb8'.size)⟩
end Go.Proofs.YthkgjdhbibialaaDoor
