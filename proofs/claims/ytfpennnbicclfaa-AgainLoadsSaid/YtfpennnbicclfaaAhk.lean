/- AgainLoads: the walk. -/
import Derived.Test.YtfpennnbicclfaaAhg
import Derived.Test.YtfpennnbicclfaaAhj
import Derived.Deep.CutRange
namespace Go.Proofs.Ytfpennnbicclfaa
open Go.RowKit
open Ag
theorem Ag.come_arg {w : World} {l : List Pg} (h : ∀ y ∈ l, PgCome w y) (hs : ∀ i, i < l.length → (l[i]!).keys.length ≤ 10 ∧ (l[i]!).rows.length ≤ 10 ∧ (l[i]!).wkr.size ≤ 40) : ∀ p ∈ l, PgArg w p ∧ p.wkr.size ≤ 1000000 := fun p hp => by
  obtain ⟨i, hi, rfl⟩ := List.getElem_of_mem hp
  have h1 := hs i hi
  rw [getElem!_pos l i hi] at h1
  exact ⟨(h _ hp).arg h1.1 h1.2.1, by omega⟩
theorem Ag.come_lt {w : World} {p : Pg} (h : PgCome w p) (hf : fitsA p.ab = true) {i : Nat} (hi : p.own i ∨ p.rd i) : i < w.heap.size := by
  obtain ⟨h5, h6, _, _⟩ := fits_iff.1 hf
  have h5 : p.keys.length = (p.rows.map Part.l).length := h5
  rw [List.length_map] at h5
  have h6 : 1 ≤ p.keys.length := h6
  rcases hi with (⟨a, ha, rfl⟩ | ⟨a, ha, rfl⟩) | ⟨r, hr, h0, a, ha, rfl⟩
  · obtain ⟨b, off, he, hb, _⟩ := h.keys.2 h6
    rw [ha] at he
    obtain rfl := Option.some.inj he
    exact hb
  · obtain ⟨b, off, he, hb, _⟩ := h.rows.2 (by omega)
    rw [ha] at he
    obtain rfl := Option.some.inj he
    exact hb
  · exact (h.rep r hr).lt h0 a ha
theorem Ag.few_of2 {w : World} {q : Nat} {m : Option Nat} {ls qs : List Pg} (hb : BkC w q m ls) (he : qs.map Pg.ab = ls.map Pg.ab) : ∀ p ∈ qs, p.keys.length ≤ 1000 ∧ p.rows.length ≤ 1000 := fun p hp => by
  have h1 : p.ab ∈ ls.map Pg.ab := by rw [← he]; exact List.mem_map_of_mem hp
  obtain ⟨y, hy, h2⟩ := List.mem_map.1 h1
  have h3 := (hb.pgs y hy).few
  have h4 : y.keys = p.keys := congrArg Ab.keys h2
  have h5 : y.rows.map Part.l = p.rows.map Part.l := congrArg Ab.reps h2
  have h6 := congrArg List.length h5
  rw [List.length_map, List.length_map] at h6
  rw [h4] at h3
  omega
theorem Ag.loadP_any {B : Nat} {w : World} {q : Nat} {m : Option Nat} {ls : List Pg} {x : Nat} {A : Option Addr} {n c : Nat} {ps : List Pg} {M N : List Ab} (h : Bth B w q m ls x A n c ps M N) (C : Option Addr) (n5 c5 : Nat) (qs : List Pg) (hr : KRow rκ w w.heap.size C n5 (qs.map Pg.raw)) (hp : ∀ p ∈ qs, PgArg w p ∧ p.wkr.size ≤ 1000000) :
    Calls Try.prog 17 #[.pointer (some ⟨q, 0, none⟩), .slice C n5 c5] w fun e w' => e = .returned (.bool (loadA (qs.map Pg.ab)).isSome) ∧ ∃ m' l', BkC w' q m' l' ∧ l'.map Pg.ab = (loadA (qs.map Pg.ab)).getD M ∧ DcC w' x A n c ps ∧ (∀ i, Foot q m' l' i → i ≠ x) ∧ Below B w w' := by
  have h1 := load_any q m ls C n5 c5 qs w h.bk hr hp
  have hq := h.foot q (.inl (.inl rfl))
  have hql := h.bk.cel.lt
  have hxl := h.dc.cel.lt
  obtain ⟨R, hR⟩ : ∃ R, loadA (qs.map Pg.ab) = R := ⟨_, rfl⟩
  rw [hR] at h1 ⊢
  refine h1.mono ?_
  intro e w' ho
  cases R with
  | none =>
    obtain ⟨rfl, hb⟩ := ho
    exact ⟨rfl, m, ls, h.bk.below hb, h.em, h.dc.below hb, fun i hi => (h.foot i hi).2.1, hb.mono (by omega)⟩
  | some M' =>
    obtain ⟨rfl, m', l', hb', hab, hkp, hf⟩ := ho
    refine ⟨rfl, m', l', hb', hab, h.dc.kp hkp (fun i hi e => ?_), fun i hi => ?_, hkp.below (by omega) (fun i hi e => by omega)⟩
    · subst e
      exact hi.elim hq.2.1 hq.2.2
    · rcases hf i hi with rfl | hi
      · exact hq.2.1
      · omega
theorem Ag.loadD_any {w : World} {q : Nat} {m : Option Nat} {ls : List Pg} {x : Nat} {A : Option Addr} {n c : Nat} {ps : List Pg} {N : List Ab} (hb : BkC w q m ls) (hd : DcC w x A n c ps) (hn : ps.map Pg.ab = N) (hf : ∀ i, Foot q m ls i → i ≠ x) (C : Option Addr) (n5 c5 : Nat) (qs : List Pg) (hr : KRow rκ w w.heap.size C n5 (qs.map Pg.raw)) (hp : ∀ p ∈ qs, PgArg w p ∧ p.wkr.size ≤ 1000000) (hs : ∀ p ∈ qs, fitsA p.ab = true → ∀ i, p.own i ∨ p.rd i → i ≠ x) :
    Calls Try.prog 19 #[.pointer (some ⟨x, 0, none⟩), .slice C n5 c5] w fun e w' => e = .returned (.bool (loadA (qs.map Pg.ab)).isSome) ∧ ∃ A' n' c' ps', BkC w' q m ls ∧ DcC w' x A' n' c' ps' ∧ ps'.map Pg.ab = (loadA (qs.map Pg.ab)).getD N ∧ Below x w w' := by
  have h1 := dload_any x A n c ps C n5 c5 qs w hd hr hp hs
  have hxl := hd.cel.lt
  obtain ⟨R, hR⟩ : ∃ R, loadA (qs.map Pg.ab) = R := ⟨_, rfl⟩
  rw [hR] at h1 ⊢
  refine h1.mono ?_
  intro e w' ho
  cases R with
  | none =>
    obtain ⟨rfl, hbb⟩ := ho
    exact ⟨rfl, A, n, c, ps, hb.below hbb, hd.below hbb, hn, hbb.mono (by omega)⟩
  | some M' =>
    obtain ⟨rfl, A', n', c', ps', hd', hab, hkp⟩ := ho
    exact ⟨rfl, A', n', c', ps', hkp.bk hb hf, hd', hab, hkp.below (by omega) (fun i hi e => by omega)⟩
set_option maxRecDepth 10000 in
set_option maxHeartbeats 3200000 in
theorem againLoads_walk (A0 : Option Addr) (n0 c0 : Nat) (l : List Pg) (w : World) (hin : InRow w 4 A0 n0 c0 ((l.map Pg.raw).flatMap rκ.cs)) (hp : ∀ y ∈ l, PgCome w y) :
    Calls Try.prog 4 #[.slice A0 n0 c0] w fun e w' => e = .returned (.bool true) ∧ Below w.heap.size w w' := by
  obtain ⟨i0, hi0, hz0, hz1, hz2⟩ := info_parts info_dpg
  have HF := Lib.hid (first_any w)
  have HIN := Lib.hid (show KRow rκ w w.heap.size A0 n0 (l.map Pg.raw) from hin.row)
  have HL := Lib.hid (show l.length = n0 by have := HIN.out.len (by decide); rwa [List.length_map] at this)
  have HP := Lib.hid hp
  clear hin hp
  go_enter Try.func4, Try.ntmps4
  go_wp2_with fail
  refine HF.out.mono ?_
  rintro e w1 ⟨rfl, hb1⟩
  have HB1 := Lib.hid hb1
  clear HF hb1
  by_cases h10 : 10 < n0
  · have hI : (10 : Int) < (n0 : Int) := by omega
    go_wp2
    go_ret
    exact ⟨rfl, HB1.out⟩
  have hI : ¬ (10 : Int) < (n0 : Int) := by omega
  go_wp2_with fail
  go_loopw [4, 5] (fun s4 s5 wr => ∃ (j : Nat) (A4 : Option Addr) (c4 : Nat), s4 = .slice A4 j c4 ∧ s5 = .int .i64 j ∧ j ≤ n0 ∧ OwnK rκ wr w1.heap.size 52 A4 j c4 ((l.map Pg.raw).take j) ∧ (∀ i, i < j → (l[i]!).keys.length ≤ 10 ∧ (l[i]!).rows.length ≤ 10 ∧ (l[i]!).wkr.size ≤ 40) ∧ Below w1.heap.size w1 wr) (fun _ s5 _ => n0 - (intOf s5).toNat)
  case atStart => exact ⟨0, none, 0, rfl, rfl, Nat.zero_le _, ⟨by decide, World.ownsRow_nil _ _ _ _⟩, fun i hi => absurd hi (Nat.not_lt_zero i), Below.refl _ _⟩
  case round =>
    obtain ⟨j, A4, c4, rfl, rfl, hj, hor, hsm, hbr⟩ := hrel
    have hj0 : (0 : Int) ≤ (j : Int) := by omega
    have HOR := Lib.hid hor
    have HSM := Lib.hid hsm
    have HBR := Lib.hid hbr
    have HBW := Lib.hid (HB1.out.trans (hbr.mono HB1.out.size))
    clear hor hsm hbr
    by_cases hlt : j < n0
    · have hI2 : (j : Int) < (n0 : Int) := by omega
      have hjl : j < l.length := by have := HL.out; omega
      obtain ⟨b, off, rfl, _⟩ := HIN.out.2 (by omega)
      obtain ⟨k0, k1, k2, k3⟩ := r_cells (HIN.out.below HBW.out (Nat.le_refl _)) hjl
      have HTK := Lib.hid (show (l.map Pg.raw).take (j + 1) = (l.map Pg.raw).take j ++ [(l[j]).raw] by rw [List.take_succ_eq_append_getElem (by rw [List.length_map]; exact hjl), List.getElem_map])
      have HS2 := Lib.hid (fun (h : (l[j]).keys.length ≤ 10 ∧ (l[j]).rows.length ≤ 10 ∧ (l[j]).wkr.size ≤ 40) (i : Nat) (hi : i < j + 1) => (show (l[i]!).keys.length ≤ 10 ∧ (l[i]!).rows.length ≤ 10 ∧ (l[i]!).wkr.size ≤ 40 by
        by_cases e : i = j
        · rw [e, getElem!_pos l j hjl]
          exact h
        · exact HSM.out i (by omega)))
      generalize l[j] = p at *
      obtain ⟨wkr, inc, ka, kc, keys, ra, rc, rows⟩ := p
      dsimp only at k0 k1 k2 k3 HS2
      by_cases g1 : 10 < keys.length
      · have g1I : (10 : Int) < (keys.length : Int) := by omega
        go_wp2
        go_ret
        exact ⟨rfl, HBW.out⟩
      have g1I : ¬ (10 : Int) < (keys.length : Int) := by omega
      by_cases g2 : 10 < rows.length
      · have g2I : (10 : Int) < (rows.length : Int) := by omega
        go_wp2
        go_ret
        exact ⟨rfl, HBW.out⟩
      have g2I : ¬ (10 : Int) < (rows.length : Int) := by omega
      by_cases g3 : 40 < wkr.size
      · have g3I : (40 : Int) < (wkr.size : Int) := by omega
        go_wp2
        go_ret
        exact ⟨rfl, HBW.out⟩
      have g3I : ¬ (40 : Int) < (wkr.size : Int) := by omega
      have HS3 := Lib.hid (HS2.out ⟨by omega, by omega, by omega⟩)
      clear HS2 g1 g2 g3
      go_upto_region 12 with (fail)
      have hbd : Below wr.heap.size wr wr.drew := (Below.refl _ _).drew
      have HOD := Lib.hid (OwnK.alloc (HOR.out.below hbd (Nat.le_refl _)) (.cells #[.string wkr, .int .i64 inc, .slice ka keys.length kc, .slice ra rows.length rc] 52))
      have HLT := Lib.hid (show KRow rκ (wr.drew.alloc (.cells #[.string wkr, .int .i64 inc, .slice ka keys.length kc, .slice ra rows.length rc] 52)) (wr.drew.alloc (.cells #[.string wkr, .int .i64 inc, .slice ka keys.length kc, .slice ra rows.length rc] 52)).heap.size (some ⟨wr.drew.heap.size, 0, none⟩) 1 [Pg.raw ⟨wkr, inc, ka, kc, keys, ra, rc, rows⟩] from (lit_pg wr.drew ⟨wkr, inc, ka, kc, keys, ra, rc, rows⟩))
      have HBD := Lib.hid (bel_alloc (HBR.out.trans (hbd.mono HBR.out.size)) (.cells #[.string wkr, .int .i64 inc, .slice ka keys.length kc, .slice ra rows.length rc] 52))
      clear hbd
      go_region_law (first
        | (refine step_append_k (κ := rκ) rfl (.tmp 47) (.tmp 69) 29 52 i0 _ 72 Try.underlying29 hi0 hz0 hz1 hz2 rfl rfl (wr.drew.alloc (.cells #[.string wkr, .int .i64 inc, .slice ka keys.length kc, .slice ra rows.length rc] 52)) w1.heap.size _ A4 j c4 ((l.map Pg.raw).take j) ⟨wr.drew.heap.size, 0, none⟩ (Pg.raw ⟨wkr, inc, ka, kc, keys, ra, rc, rows⟩) rfl HOD.out rfl HLT.out (by omega) (by decide) HBD.out.size ?_
           intro A5 c5 w5 ho5 hg5
           have HO5 := Lib.hid ho5
           have HB5 := Lib.hid (HBD.out.trans (hg5.below HOD.out.2 HBD.out.size))
           clear ho5 hg5))
      all_goals
        go_wp2
        go_roundw
        case rel => exact ⟨j + 1, A5, c5, rfl, by first | rfl | go_num, by omega, by rw [HTK.out]; exact HO5.out, HS3.out, HB5.out⟩
        case measure =>
          simp only [intOf]
          omega
    · obtain rfl : j = n0 := by omega
      have HARG := Lib.hid (come_arg HP.out (fun i hi => HSM.out i (by have := HL.out; omega)))
      have hrow := HOR.out
      rw [List.take_of_length_le (by rw [List.length_map]; have := HL.out; omega)] at hrow
      have HRW := Lib.hid hrow
      have hqB : w.heap.size ≤ wr.heap.size := HBW.out.size
      have hbb := bel_alloc HBW.out (.cells #[.map none] 27)
      have HB3 := Lib.hid (bel_alloc hbb (.cells #[.slice none 0 0] 31))
      have hal : Below wr.heap.size wr ((wr.alloc (.cells #[.map none] 27)).alloc (.cells #[.slice none 0 0] 31)) := bel_alloc ((Below.refl _ _).alloc (Nat.le_refl _) _) _
      have hq := (Cel.lit wr #[.map none] 27).below ((Below.refl _ _).alloc (Nat.le_refl _) (.cells #[.slice none 0 0] 31)) (Nat.le_refl _)
      have hx := Cel.lit (wr.alloc (.cells #[.map none] 27)) #[.slice none 0 0] 31
      rw [show (wr.alloc (.cells #[.map none] 27)).heap.size = wr.heap.size + 1 by simp] at hx
      have HT3 := Lib.hid (Bth.zero (B := wr.heap.size) hq hx (Nat.le_refl _) (by omega) (by omega))
      have HBX := Lib.hid hal
      clear hbb hq hx hal h10 HOR HSM HB1 HBR hrow
      go_wp2_with fail
      generalize (wr.alloc _).alloc _ = w3 at *
      generalize hxx : wr.heap.size + 1 = x at *
      have hxw : w.heap.size < x := by omega
      clear hxx
      have HKP := Lib.hid (HT3.out.keepP ⟨#[120]⟩ 1 1 none 0 0 [] (by decide) (Row.nil _ _ _) (fun _ => ⟨rfl, rfl⟩) (by decide) (fun h => absurd h (by decide)))
      (with_reducible refine HKP.out.mono ?_)
      rintro e w4 ⟨rfl, m4, l4, hbt4, hkp4⟩
      have HT4 := Lib.hid hbt4
      have HB4 := Lib.hid (HBX.out.trans (hkp4.below HBX.out.size (fun u hu hw => by have := (HT3.out.foot u (.inl hw)).1; omega)))
      have HKD := Lib.hid (hbt4.keepD ⟨#[120]⟩ 1 1 none 0 0 [] (by decide) (Row.nil _ _ _) (by decide))
      clear hbt4 hkp4 HKP HT3
      go_wp2_with fail
      (with_reducible refine HKD.out.mono ?_)
      rintro e w5 ⟨rfl, A5, n5, c5, ps5, hbt5, hkp5⟩
      have HT5 := Lib.hid hbt5
      have HB5 := Lib.hid (HB4.out.trans (hkp5.below HB4.out.size (fun u hu e => by have := HT4.out.dr x (.inl rfl); omega)))
      clear hbt5 hkp5 HKD HT4 HB4 HBX
      have HW5 := Lib.hid (HBW.out.trans (HB5.out.mono HBW.out.size))
      obtain ⟨R, hR⟩ : ∃ R, loadA (l.map Pg.ab) = R := ⟨_, rfl⟩
      have HRR := Lib.hid hR
      obtain ⟨rb, hrb⟩ : ∃ rb, R.isSome = rb := ⟨_, rfl⟩
      have HRB := Lib.hid hrb
      have HLP := Lib.hid (fun (W : World) (hW : Below w5.heap.size w5 W) => loadP_any (HT5.out.below hW) A0 j c0 l ((HIN.out.below (HW5.out.trans (hW.mono HW5.out.size)) (Nat.le_refl _)).mono (HW5.out.trans (hW.mono HW5.out.size)).size) (fun p hp => ⟨(HARG.out p hp).1.below (HW5.out.trans (hW.mono HW5.out.size)), (HARG.out p hp).2⟩))
      rw [hR, hrb] at HLP
      have HLDF := Lib.hid (fun (w6 : World) (m6 : Option Nat) (l6 : List Pg) (hbk6 : BkC w6 wr.heap.size m6 l6) (hdc6 : DcC w6 x A5 n5 c5 ps5) (hft6 : ∀ i, Foot wr.heap.size m6 l6 i → i ≠ x) (hbw6 : Below wr.heap.size wr w6) => loadD_any hbk6 hdc6 HT5.out.en hft6 A4 j c4 l (RowS.mono (RowS.below HRW.out.row hbw6 (Nat.le_refl _)) hbw6.size) (fun p hp => ⟨(HARG.out p hp).1.below (HBW.out.trans (hbw6.mono HBW.out.size)), (HARG.out p hp).2⟩) (fun p hp hf i hi => by
        have := come_lt (HP.out p hp) hf hi
        omega))
      rw [hR, hrb] at HLDF
      have HB0 := Lib.hid (fun (W w6 : World) (h1 : Below w5.heap.size w5 W) (h2 : Below wr.heap.size W w6) => (show Below wr.heap.size wr w6 from HB5.out.trans ((h1.mono HB5.out.size).trans h2)))
      have HSMF := Lib.hid (fun (w7 w8 : World) (m6 : Option Nat) (l6 : List Pg) (A7 : Option Addr) (n7 c7 : Nat) (ps7 : List Pg) (A8 : Option Addr) (c8 : Nat) (ps8 : List Pg) (hbk : BkC w7 wr.heap.size m6 l6) (hdc : DcC w8 x A7 n7 c7 ps7) (heq : l6.map Pg.ab = ps7.map Pg.ab) (hab8 : ps8.map Pg.ab = l6.map Pg.ab) (hok8 : OwnK rκ w8 w7.heap.size 51 A8 n7 c8 (ps8.map Pg.raw)) (hpo8 : ∀ p ∈ ps8, PgOwn w8 w7.heap.size p) => same_pages A8 A7 n7 c8 c7 ps8 ps7 w8 (OwnK.pl hok8) hdc.pl hok8.row hdc.row (fun p hp => (hpo8 p hp).at_ (few_of2 hbk hab8 p hp)) (fun p hp => (hdc.pgs p hp).1) (hab8.trans heq) hdc.few)
      have HD0 := Lib.hid (Below.refl w5.heap.size w5)
      have HD1 := Lib.hid (Below.refl w5.heap.size w5).drew
      have hxB : wr.heap.size ≤ x := HT5.out.dr x (.inl rfl)
      clear hR hrb HT5
      go_upto_region 17 with (fail)
      go_region_law (first
        | (go_simp; go_at_call 18; (with_reducible refine HSM.out.mono ?_)
           rintro e w9 ⟨rfl, hb9⟩
           have HB9 := Lib.hid (HB8.out.trans (hb9.mono HB8.out.size))
           clear hb9)
        | (go_simp; go_at_call 10; (with_reducible refine HALL.out.mono ?_)
           rintro e w8 ⟨A8, c8, ps8, he, hab8, hok8, hpo8, hb8⟩
           have e8 : ps8.length = n7 := by
             have h1 := congrArg List.length (hab8.trans HEQ7.out)
             rw [List.length_map, List.length_map] at h1
             exact h1.trans HDC7.out.len
           rw [e8] at he hok8
           subst he
           have hdc := HDC7.out.below hb8
           have HSM := Lib.hid (HSMF.out w7 w8 m6 l6 A7 n7 c7 ps7 A8 c8 ps8 HBK7.out hdc HEQ7.out hab8 hok8 hpo8)
           have HB8 := Lib.hid (HB7.out.trans (hb8.mono HB7.out.size))
           clear e0 e8 hab8 hok8 hpo8 hb8
           have e0 := hdc.cel.cell 0 _ rfl
           clear hdc)
        | (go_simp; go_at_call 19; (with_reducible refine HLD.out.mono ?_)
           rintro e w7 ⟨rfl, A7, n7, c7, ps7, hbk7, hdc7, hab7, hb7⟩
           have e0 := hdc7.cel.cell 0 _ rfl
           have HB7 := Lib.hid (HB6.out.trans (hb7.mono hxB))
           have HALL := Lib.hid (all_any wr.heap.size m6 l6 w7 hbk7)
           have HBK7 := Lib.hid hbk7
           have HDC7 := Lib.hid hdc7
           have HEQ7 := Lib.hid (HAB6.out.trans hab7.symm)
           clear hbk7 hdc7 hab7 hb7)
        | (go_simp; go_at_call 17; first
          | ((with_reducible refine (HLP.out _ HD0.out).mono ?_)
             rintro e w6 ⟨rfl, m6, l6, hbk6, hab6, hdc6, hft6, hb6⟩
             have HAB6 := Lib.hid hab6
             have HB6 := Lib.hid (HB0.out _ w6 HD0.out hb6)
             have HLD := Lib.hid (HLDF.out w6 m6 l6 hbk6 hdc6 hft6 HB6.out)
             clear hbk6 hab6 hdc6 hft6 hb6)
          | ((with_reducible refine (HLP.out _ HD1.out).mono ?_)
             rintro e w6 ⟨rfl, m6, l6, hbk6, hab6, hdc6, hft6, hb6⟩
             have HAB6 := Lib.hid hab6
             have HB6 := Lib.hid (HB0.out _ w6 HD1.out hb6)
             have HLD := Lib.hid (HLDF.out w6 m6 l6 hbk6 hdc6 hft6 HB6.out)
             clear hbk6 hab6 hdc6 hft6 hb6)))
      all_goals
        go_wp2
        go_ret
        exact ⟨rfl, HBW.out.trans (HB9.out.mono HBW.out.size)⟩
end Go.Proofs.Ytfpennnbicclfaa
