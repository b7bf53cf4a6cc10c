/- AgainPlays: the walk. -/
import Derived.Test.YtfpennnbicclfaaAhe
import Derived.Test.YtfpennnbicclfaaSame
import Derived.Deep.CutRange
namespace Go.Proofs.Ytfpennnbicclfaa
open Go.RowKit
open Ag
set_option maxRecDepth 10000 in
set_option maxHeartbeats 3200000 in
theorem againPlays_walk (A0 : Option Addr) (n0 c0 : Nat) (l : List Dw) (w : World) (hin : InRow w 5 A0 n0 c0 (l.flatMap dκ.cs)) (hp : ∀ y ∈ l, PartIn w y.b) :
    Calls Try.prog 3 #[.slice A0 n0 c0] w fun e w' => e = .returned (.bool true) ∧ Below w.heap.size w w' := by
  have HF := Lib.hid (first_any w)
  have HL := Lib.hid (show l.length = n0 from (show KRow dκ w w.heap.size A0 n0 l from hin.row).len (by decide))
  have HIN := Lib.hid hin.row
  have HP := Lib.hid hp
  clear hin hp
  go_enter Try.func3, Try.ntmps3
  go_wp2_with fail
  refine HF.out.mono ?_
  rintro e w1 ⟨rfl, hb1⟩
  have HB1 := Lib.hid hb1
  clear HF hb1
  by_cases h60 : 60 < n0
  · have hI : (60 : Int) < (n0 : Int) := by omega
    go_wp2
    go_ret
    exact ⟨rfl, HB1.out⟩
  have hI : ¬ (60 : Int) < (n0 : Int) := by omega
  have hbb := bel_alloc HB1.out (.cells #[.map none] 27)
  have HB3 := Lib.hid (bel_alloc hbb (.cells #[.slice none 0 0] 31))
  have hq := (Cel.lit w1 #[.map none] 27).below ((Below.refl _ _).alloc (Nat.le_refl _) (.cells #[.slice none 0 0] 31)) (Nat.le_refl _)
  have hx := Cel.lit (w1.alloc (.cells #[.map none] 27)) #[.slice none 0 0] 31
  rw [show (w1.alloc (.cells #[.map none] 27)).heap.size = w1.heap.size + 1 by simp] at hx
  have HT3 := Lib.hid (Bth.zero hq hx HB1.out.size (by have := HB1.out.size; omega) (by omega))
  clear hbb hq hx h60
  go_wp2_with fail
  generalize (w1.alloc _).alloc _ = w3 at *
  generalize w1.heap.size + 1 = x at *
  generalize w1.heap.size = q0 at *
  clear HB1
  go_loopw [4, 6] (fun s4 s6 wr => ∃ (j : Nat) (q : Nat) (m : Option Nat) (ls : List Pg) (A : Option Addr) (n c : Nat) (ps : List Pg) (M : List Ab), s4 = .pointer (some ⟨q, 0, none⟩) ∧ s6 = .int .i64 j ∧ j ≤ n0 ∧ Bth w.heap.size wr q m ls x A n c ps M M ∧ Below w.heap.size w wr) (fun _ s6 _ => n0 - (intOf s6).toNat)
  case atStart => exact ⟨0, q0, none, [], none, 0, 0, [], [], rfl, rfl, Nat.zero_le _, HT3.out, HB3.out⟩
  case round =>
    obtain ⟨j, q, m, ls, A, n, c, ps, M, rfl, rfl, hj, hbt, hbr⟩ := hrel
    have hj0 : (0 : Int) ≤ (j : Int) := by omega
    have HT := Lib.hid hbt
    have HBR := Lib.hid hbr
    clear hbt hbr HT3 HB3
    by_cases hlt : j < n0
    · have hI2 : (j : Int) < (n0 : Int) := by omega
      have hjl : j < l.length := by have := HL.out; omega
      obtain ⟨b, off, rfl, hbl, _⟩ := HIN.out.2 (by omega)
      have hrw := HIN.out.below HBR.out (Nat.le_refl _)
      obtain ⟨k0, k1, k2, k3, k4⟩ := d_cells hrw hjl
      have hpp := HP.out l[j] (List.getElem_mem hjl)
      have HKC := Lib.hid (fun (W : World) (hW : Below w.heap.size w W) => d_cells (HIN.out.below hW (Nat.le_refl _)) hjl)
      clear hrw
      generalize l[j] = y at *
      obtain ⟨kd, wi, inc, ky, ⟨ba, bn, bc, bl⟩⟩ := y
      dsimp only at *
      by_cases h40 : 40 < bn
      · have hbI : (40 : Int) < (bn : Int) := by omega
        go_wp2
        go_ret
        exact ⟨rfl, HBR.out⟩
      have hbI : ¬ (40 : Int) < (bn : Int) := by omega
      have HPP := Lib.hid hpp
      have HCL := Lib.hid (clone_book q m ls wr HT.out.bk)
      clear hpp
      go_wp2_with fail
      (with_reducible refine HCL.out.mono ?_)
      rintro e w2 ⟨cb, m2, l2, rfl, hb2, hab2, hf2, hbw2⟩
      have HC2 := Lib.hid hb2
      have HF2 := Lib.hid hf2
      have HW2 := Lib.hid hbw2
      have HAL := Lib.hid (all_any cb m2 l2 w2 hb2)
      clear hb2 hf2 hbw2 hab2 HCL k0 k1 k2 k3 k4
      go_wp2_with fail
      (with_reducible refine HAL.out.mono ?_)
      rintro e w3 ⟨A3, c3, ps3, rfl, hab3, _, _, hb3⟩
      have HN3 := Lib.hid (show ps3.length = l2.length by have := congrArg List.length hab3; rwa [List.length_map, List.length_map] at this)
      have HC3 := Lib.hid (HC2.out.below hb3)
      have HW3 := Lib.hid (HW2.out.trans (hb3.mono HW2.out.size))
      have HHD := Lib.hid (head_any kd wi inc ky ba bn bc w3)
      obtain ⟨k0, k1, k2, k3, k4⟩ := HKC.out w3 (HBR.out.trans (HW3.out.mono HBR.out.size))
      clear hab3 hb3 HAL HC2 HW2
      go_wp2_with fail
      (with_reducible refine HHD.out.mono ?_)
      rintro e w4 ⟨rfl, hb4⟩
      have HS := Lib.hid (show (wn (wi % 8).toNat).size ≤ 1000000 by show 2 ≤ 1000000; decide)
      generalize wn (wi % 8).toNat = s at *
      generalize 1 + inc % 3 = i at *
      generalize 1 + ky % 9 = k at *
      have HW5 := Lib.hid (bel_alloc (HW3.out.trans (hb4.mono HW3.out.size)) (.cells #[.string s, .int .i64 i, .int .i64 k] 39))
      have HO5 := Lib.hid (⟨(HC3.out.below hb4).below ((Below.refl _ _).alloc (Nat.le_refl _) _), HF2.out, Cel.lit w4 #[.string s, .int .i64 i, .int .i64 k] 39, (HW3.out.trans (hb4.mono HW3.out.size)).size⟩ : Oth wr.heap.size (w4.alloc (.cells #[.string s, .int .i64 i, .int .i64 k] 39)) cb m2 l2 w4.heap.size [.string s, .int .i64 i, .int .i64 k])
      clear hb4 HHD HC3 HW3 k0 k1 k2 k3 k4
      obtain ⟨k0, k1, k2, k3, k4⟩ := HKC.out _ (HBR.out.trans (HW5.out.mono HBR.out.size))
      go_upto_block 2 with (fail)
      generalize w4.alloc _ = w5 at *
      generalize w4.heap.size = z at *
      have HT5 := Lib.hid (HT.out.below HW5.out)
      have HB5 := Lib.hid (HBR.out.trans (HW5.out.mono HBR.out.size))
      have HLT := Lib.hid (fun (i : Nat) (hi : Foot q m ls i) => HT.out.bk.lt hi)
      have HXL := Lib.hid HT.out.dc.cel.lt
      clear HT HBR HF2
      go_cut [4, 10, 11, 12, 13, 14] from 26 to 121 (fun s4 _ _ _ _ _ wx => ∃ (q : Nat) (m : Option Nat) (ls : List Pg) (A : Option Addr) (n c : Nat) (ps : List Pg) (M : List Ab), s4 = .pointer (some ⟨q, 0, none⟩) ∧ Bth w.heap.size wx q m ls x A n c ps M M ∧ BkC wx cb m2 l2 ∧ Below w.heap.size w wx)
      case first =>
        by_cases h1 : kd = 1
        · subst h1
          have hn40 : bn ≤ 1000000 := by omega
          have hlow : ∀ a, 0 < bn → ba = some a → a.block < w.heap.size := fun a h0 ha => by
            obtain ⟨b', off', he, hb', _⟩ := HPP.out.bytes.2 (by omega)
            rw [ha] at he
            obtain rfl := Option.some.inj he
            exact hb'
          have HKP := Lib.hid (fun (W : World) (hW : Below w5.heap.size w5 W) => (HT5.out.below hW).keepP s i k ba bn bc bl HS.out (RowS.mono (RowS.below HPP.out.bytes (HB5.out.trans (hW.mono HB5.out.size)) (Nat.le_refl _)) (HB5.out.trans (hW.mono HB5.out.size)).size) HPP.out.nn hn40 (fun h0 a ha => hlow a h0 ha))
          obtain ⟨bb, hbb⟩ : ∃ bb, decide ((Ag.look M s i k).1 = 0) = bb := ⟨_, rfl⟩
          rw [hbb] at HKP
          have HBB := Lib.hid hbb
          have HD0 := Lib.hid (Below.refl w5.heap.size w5)
          have HD1 := Lib.hid (Below.refl w5.heap.size w5).drew
          obtain ⟨d0, d1, d2⟩ := cel3 HO5.out.hd
          clear hbb hlow
          go_upto_region 24 with (fail)
          go_region_law (first
            | (go_simp; go_at_call 12; first
               | ((with_reducible refine (HKP.out _ HD0.out).mono ?_)
                  rintro e w6 ⟨rfl, m6, l6, hbt6, hkp6⟩
                  have hbx6 := (HB5.out.trans (HD0.out.mono HB5.out.size)).trans (hkp6.below (HB5.out.trans (HD0.out.mono HB5.out.size)).size (fun u hu hw => by have := (HT5.out.foot u (.inl hw)).1; omega))
                  have HT6 := Lib.hid hbt6
                  have HB6 := Lib.hid hbx6
                  have HO6 := Lib.hid ((HO5.out.below HD0.out).kp0 hkp6 (fun u hu hw => by have := HLT.out u (.inl hw); omega))
                  have HKD := Lib.hid (hbt6.keepD s i k ba bn bc bl HS.out (RowS.mono (RowS.below HPP.out.bytes hbx6 (Nat.le_refl _)) hbx6.size) hn40)
                  rw [HBB.out] at HKD
                  clear d0 d1 d2 k0 k1 k2 k3 k4
                  obtain ⟨d0, d1, d2⟩ := cel3 HO6.out.hd
                  obtain ⟨k0, k1, k2, k3, k4⟩ := HKC.out _ hbx6
                  clear hbt6 hkp6 hbx6)
               | ((with_reducible refine (HKP.out _ HD1.out).mono ?_)
                  rintro e w6 ⟨rfl, m6, l6, hbt6, hkp6⟩
                  have hbx6 := (HB5.out.trans (HD1.out.mono HB5.out.size)).trans (hkp6.below (HB5.out.trans (HD1.out.mono HB5.out.size)).size (fun u hu hw => by have := (HT5.out.foot u (.inl hw)).1; omega))
                  have HT6 := Lib.hid hbt6
                  have HB6 := Lib.hid hbx6
                  have HO6 := Lib.hid ((HO5.out.below HD1.out).kp0 hkp6 (fun u hu hw => by have := HLT.out u (.inl hw); omega))
                  have HKD := Lib.hid (hbt6.keepD s i k ba bn bc bl HS.out (RowS.mono (RowS.below HPP.out.bytes hbx6 (Nat.le_refl _)) hbx6.size) hn40)
                  rw [HBB.out] at HKD
                  clear d0 d1 d2 k0 k1 k2 k3 k4
                  obtain ⟨d0, d1, d2⟩ := cel3 HO6.out.hd
                  obtain ⟨k0, k1, k2, k3, k4⟩ := HKC.out _ hbx6
                  clear hbt6 hkp6 hbx6))
            | (go_simp; go_at_call 13; (with_reducible refine HKD.out.mono ?_)
               rintro e w7 ⟨rfl, A7, n7, c7, ps7, hbt7, hkp7⟩
               have HT7 := Lib.hid hbt7
               have HO7 := Lib.hid (HO6.out.kp0 hkp7 (fun u hu e => by have := HXL.out; omega))
               have HB7 := Lib.hid (HB6.out.trans (hkp7.below HB6.out.size (fun u hu e => by have := HT6.out.dr x (.inl rfl); omega)))
               clear hbt7 hkp7))
          all_goals
            go_wp2
            go_meet
            exact ⟨q, m6, l6, A7, n7, c7, ps7, _, rfl, HT7.out, HO7.out.bk, HB7.out⟩
        · have h1' : (kd == 1) = false := by simpa using h1
          by_cases h2 : kd = 2
          · subst h2
            have HLK := Lib.hid (look_any q m ls s i k w5 HT5.out.bk HS.out)
            rw [HT5.out.em] at HLK
            obtain ⟨r, hr⟩ : ∃ r, Ag.look M s i k = r := ⟨_, rfl⟩
            rw [hr] at HLK
            have HRR := Lib.hid hr
            clear hr
            obtain ⟨r1, r2⟩ := r
            dsimp only at HLK
            obtain ⟨d0, d1, d2⟩ := cel3 HO5.out.hd
            clear k0 k1 k2 k3 k4
            go_wp2_with fail
            (with_reducible refine HLK.out.mono ?_)
            rintro e w6 ⟨A6, n6, c6, rfl, ho6, hb6⟩
            have HT6 := Lib.hid (HT5.out.below hb6)
            have HO6 := Lib.hid (HO5.out.below hb6)
            have HB6 := Lib.hid (HB5.out.trans (hb6.mono HB5.out.size))
            have HR6 := Lib.hid (own_bytes_row ho6)
            have HDK := Lib.hid (dlook_any x A n c ps s i k w6 HT6.out.dc)
            rw [HT6.out.en, HRR.out] at HDK
            clear d0 d1 d2 ho6 hb6 HLK
            obtain ⟨d0, d1, d2⟩ := cel3 HO6.out.hd
            go_wp2_with fail
            (with_reducible refine HDK.out.mono ?_)
            rintro e w7 ⟨A7, n7, c7, rfl, ho7, hn7, hb7⟩
            have HT7 := Lib.hid (HT6.out.below hb7)
            have HO7 := Lib.hid (HO6.out.below hb7)
            have HB7 := Lib.hid (HB6.out.trans (hb7.mono HB6.out.size))
            have hl6 : r2.length = n6 := by have := HR6.out.len; simpa using this
            have hl7 : r2.length = n7 := by have := ho7.len; simpa using this
            have HSB := Lib.hid (same_any A6 A7 n6 n7 c6 c7 r2 r2 w7 (RowS.mono (RowS.below HR6.out hb7 (Nat.le_refl _)) hb7.size) ho7 (by omega) (by omega))
            rw [show (r2 == r2) = true by simp] at HSB
            clear d0 d1 d2 ho7 hb7 HDK hl6 hl7
            go_wp2_with (go_at_call 16; (with_reducible refine HSB.out.mono ?_); rintro e w8 ⟨rfl, hb8⟩)
            go_meet
            exact ⟨q, m, ls, A, n, c, ps, M, rfl, HT7.out.below hb8, HO7.out.bk.below hb8, HB7.out.trans (hb8.mono HB7.out.size)⟩
          · have h2' : (kd == 2) = false := by simpa using h2
            have hba : Below w5.heap.size w5 (w5.alloc (.cells #[.map none] 27)) := (Below.refl _ _).alloc (Nat.le_refl _) _
            have HM6 := Lib.hid (Cel.lit w5 #[.map none] 27)
            have HT6 := Lib.hid (HT5.out.below hba)
            have HO6 := Lib.hid (HO5.out.below hba)
            have HB6 := Lib.hid (HB5.out.trans (hba.mono HB5.out.size))
            have HALL := Lib.hid (all_any q m ls _ HT6.out.bk)
            have HFT := Lib.hid (fun (u : Nat) (hu : Foot cb m2 l2 u ∨ u = z) => (show u < w5.heap.size from hu.elim (fun h => HO5.out.bk.lt h) (fun h => by rw [h]; exact HO5.out.hd.lt)))
            have HDT := Lib.hid (fun (u : Nat) (hu : DR A ps u) => HT5.out.dlt hu)
            have hxl : x < w5.heap.size := HT5.out.dc.cel.lt
            have hbq : w.heap.size ≤ w5.heap.size := HB5.out.size
            clear hba k0 k1 k2 k3 k4
            go_wp2_with fail
            generalize w5.alloc _ = w6 at *
            generalize w5.heap.size = q' at *
            (with_reducible refine HALL.out.mono ?_)
            rintro e w7 ⟨A7, c7, ps7, rfl, hab7, hok7, hpo7, hb7⟩
            have HLD := Lib.hid ((HT6.out.below hb7).load q' (HM6.out.below hb7 (Nat.le_refl _)) hbq (by omega) (fun h => by have := HDT.out q' h; omega) A7 ps7.length c7 ps7 hok7.row (fun p hp => (hpo7 p hp).at_ (few_of (hab7.trans HT6.out.em) HT6.out.fm p hp)) hab7)
            have HO7 := Lib.hid (HO6.out.below hb7)
            have HB7 := Lib.hid (HB6.out.trans (hb7.mono HB6.out.size))
            clear hab7 hok7 hpo7 hb7 HALL
            go_wp2_with fail
            (with_reducible refine HLD.out.mono ?_)
            rintro e w8 ⟨rfl, m8, l8, hbt8, hkp8⟩
            have HT8 := Lib.hid hbt8
            have HO8 := Lib.hid (HO7.out.kp hkp8 (fun u hu e => by have := HFT.out u hu; omega))
            have HB8 := Lib.hid (HB7.out.trans (hkp8.below HB7.out.size (fun u hu e => by omega)))
            clear hbt8 hkp8 HLD
            go_wp2
            go_meet
            exact ⟨q', m8, l8, A, n, c, ps, M, rfl, HT8.out, HO8.out.bk, HB8.out⟩
      case rest =>
        obtain ⟨q, m, ls, A, n, c, ps, M, rfl, hbt, hbc, hbw⟩ := hcut
        have HT := Lib.hid hbt
        have HBC := Lib.hid hbc
        have HBW := Lib.hid hbw
        clear hbt hbc hbw HT5 HB5 HO5 HW5 HLT HKC HPP HS k0 k1 k2 k3 k4
        generalize wc = w5 at *
        have HALQ := Lib.hid (fun (W : World) (hW : Below w5.heap.size w5 W) => all_any q m ls W (HT.out.bk.below hW))
        have HALC := Lib.hid (fun (W : World) (hW : Below w5.heap.size w5 W) => all_any cb m2 l2 W (HBC.out.below hW))
        have HD0 := Lib.hid (Below.refl w5.heap.size w5)
        have HD1 := Lib.hid (Below.refl w5.heap.size w5).drew
        have e0 := HT.out.dc.cel.cell 0 _ rfl
        go_upto_region 31 with (fail)
        go_region_law (first
          | (go_simp; go_at_call 18; (with_reducible refine HSM.out.mono ?_)
             rintro e w7 ⟨rfl, hb7⟩
             have HB7 := Lib.hid (HB6.out.trans (hb7.mono HB6.out.size))
             clear hb7)
          | (go_simp; go_at_call 10; first
             | ((with_reducible refine (HALQ.out _ HD0.out).mono ?_)
                rintro e w6 ⟨A6, c6, ps6, he, hab6, hok6, hpo6, hb6⟩
                have e6 : ps6.length = n := by
                  have h1 := congrArg List.length hab6
                  rw [List.length_map, HT.out.em] at h1
                  exact h1.trans HT.out.len.1.symm
                rw [e6] at he hok6
                subst he
                have hbx := HD0.out.trans (hb6.mono HD0.out.size)
                have hdc := HT.out.dc.below hbx
                have HSM := Lib.hid (same_pages A6 A n c6 c ps6 ps w6 (OwnK.pl hok6) hdc.pl hok6.row hdc.row (fun p hp => (hpo6 p hp).at_ (few_of (hab6.trans HT.out.em) HT.out.fm p hp)) (fun p hp => (hdc.pgs p hp).1) (hab6.trans (HT.out.em.trans HT.out.en.symm)) hdc.few)
                have HB6 := Lib.hid hbx
                clear e0 e6 hab6 hok6 hpo6 hb6
                have e0 := hdc.cel.cell 0 _ rfl
                clear hdc hbx)
             | ((with_reducible refine (HALQ.out _ HD1.out).mono ?_)
                rintro e w6 ⟨A6, c6, ps6, he, hab6, hok6, hpo6, hb6⟩
                have e6 : ps6.length = n := by
                  have h1 := congrArg List.length hab6
                  rw [List.length_map, HT.out.em] at h1
                  exact h1.trans HT.out.len.1.symm
                rw [e6] at he hok6
                subst he
                have hbx := HD1.out.trans (hb6.mono HD1.out.size)
                have hdc := HT.out.dc.below hbx
                have HSM := Lib.hid (same_pages A6 A n c6 c ps6 ps w6 (OwnK.pl hok6) hdc.pl hok6.row hdc.row (fun p hp => (hpo6 p hp).at_ (few_of (hab6.trans HT.out.em) HT.out.fm p hp)) (fun p hp => (hdc.pgs p hp).1) (hab6.trans (HT.out.em.trans HT.out.en.symm)) hdc.few)
                have HB6 := Lib.hid hbx
                clear e0 e6 hab6 hok6 hpo6 hb6
                have e0 := hdc.cel.cell 0 _ rfl
                clear hdc hbx)
             | ((with_reducible refine (HALC.out _ HB7.out).mono ?_)
                rintro e w8 ⟨A8, c8, ps8, rfl, hab8, _, _, hb8⟩
                have hq8 : (ps3.length : Int) = (ps8.length : Int) := by
                  have h1 := congrArg List.length hab8
                  rw [List.length_map, List.length_map] at h1
                  have := HN3.out
                  omega
                have HB8 := Lib.hid (HB7.out.trans (hb8.mono HB7.out.size))
                clear hab8 hb8)))
        all_goals
          go_wp2
          go_roundw
          case rel =>
            exact ⟨j + 1, q, m, ls, A, n, c, ps, M, rfl, by first | rfl | go_num, by omega, HT.out.below HB8.out, HBW.out.trans (HB8.out.mono HBW.out.size)⟩
          case measure =>
            simp only [intOf]
            omega
    · obtain rfl : j = n0 := by omega
      go_wp2
      go_ret
      exact ⟨rfl, HBR.out⟩
end Go.Proofs.Ytfpennnbicclfaa
