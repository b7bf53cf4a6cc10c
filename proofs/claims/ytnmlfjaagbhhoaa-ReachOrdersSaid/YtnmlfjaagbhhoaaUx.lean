/- The program's Ring, in general. -/
import Derived.Test.YtnmlfjaagbhhoaaUd
import Derived.Test.YtnmlfjaagbhhoaaUf
import Derived.Deep.RegionLaw
namespace Go.Proofs.Ytnmlfjaagbhhoaa
open Go.RowKit

namespace Pr
theorem info_rowG : (Try.prog.info? 22).map (fun i => (i.zero, i.size, i.bytes)) = some (some (.slice none 0 0), 1, 24) := by kernel_rfl
theorem isnode_yesG (s : ByteArray) (A : Option Addr) (n c : Nat) (F : Option Addr) (m d : Nat) {i : Nat} (hi : i < n) (w : World) :
    Calls Try.prog 20 #[.agg #[.string s, .slice A n c, .slice F m d], .int .i64 (i : Int)] w fun e w' => e = .returned (.bool true) ∧ Below w.heap.size w w' :=
  (isnode_any s A n c F m d (i : Int)).mono fun e w' h => by
    rw [decide_eq_true (show (0 : Int) ≤ (i : Int) by omega), decide_eq_true (show (i : Int) < (n : Int) by omega)] at h
    exact h
/-- Whether there is a ring: no order of all. -/
def RingOut (p : P) (w : World) (e : Ending) (w' : World) : Prop := (∃ r : Bool, e = .returned (.bool r) ∧ (r = true ↔ (Rc.ord p.n (nxt p.n p.flows p.m)).length < p.n)) ∧ Below w.heap.size w w'
set_option maxHeartbeats 6400000 in
set_option maxRecDepth 10000 in
theorem ring_gen (A : Option Addr) (n c : Nat) (F : Option Addr) (m d : Nat) (p : P) (hw : Wt p) (w : World) (hN : KRow Nd.κ w w.heap.size A n p.nodes) (hF : KRow Fl.κ w w.heap.size F m p.flows) (hn : n ≤ 100000) (hm : m ≤ 100000) :
    Calls Try.prog 9 #[.agg #[.string p.name, .slice A n c, .slice F m d]] w (RingOut p w) := by
  obtain rfl : p.n = n := hN.len (by decide)
  obtain rfl : p.m = m := hF.len (by decide)
  have HF := Lib.hid hF
  have HWT := Lib.hid hw
  have HB := Lib.hid ((Below.refl w.heap.size w).alloc (Nat.le_refl _) (.cells #[.string p.name, .slice A p.n c, .slice F p.m d] 30))
  have hcel := Cel.lit w #[.string p.name, .slice A p.n c, .slice F p.m d] 30
  obtain ⟨i0, hi0, hz0, hz1, hz2⟩ := info_parts info_int
  obtain ⟨i1, hi1, hy0, hy1, hy2⟩ := info_parts info_rowG
  clear hN hF hw
  go_enter Try.func9, Try.ntmps9
  go_upto_region 1 with (fail)
  generalize hwa : w.alloc _ = wa at *
  have hpa : w.heap.size < wa.heap.size := by rw [← hwa]; simp
  have HC := Lib.hid hcel
  obtain ⟨⟨z0, z1, z2⟩, _⟩ := tri_facts hcel
  clear hcel hwa
  go_upto_region 2 with (at_make; refine wpList_make_full _ rfl (.tmp 15) (.tmp 15) 51 rfl wa.heap.size 22 i1 _ 1 Try.underlying51 hi1 hy0 hy1 .i64 .i64 _ _ p.n rfl rfl rfl rfl (by rw [hy2]; omega) (by unfold maxLen; omega) (Nat.le_refl _) ?_; intro w1 ho1 hg1)
  have hC1 := own_cel ho1
  rw [made_one _ rfl] at hC1
  have HC1 := Lib.hid (HC.out.kept hg1 (by simp))
  have HB1 := Lib.hid (HB.out.grown hg1 HB.out.size (fun k hk => by cases hk))
  clear z0 z1 z2 ho1
  obtain ⟨⟨z0, z1, z2⟩, _⟩ := tri_facts HC1.out
  have hp1 : wa.heap.size < w1.heap.size := hC1.lt
  clear hg1
  go_upto_region 3 with (at_make; refine wpList_make_full _ rfl (.tmp 19) (.tmp 19) 22 rfl w1.heap.size 3 i0 _ 1 Try.underlying22 hi0 hz0 hz1 .i64 .i64 _ _ p.n rfl rfl rfl rfl (by rw [hz2]; omega) (by unfold maxLen; omega) (Nat.le_refl _) ?_; intro w2 ho2 hg2)
  have hY2 := own_cel ho2
  rw [made_one _ rfl] at hY2
  have HC2 := Lib.hid (HC1.out.kept hg2 (by simp))
  have HB2 := Lib.hid (HB1.out.grown hg2 HB1.out.size (fun k hk => by cases hk))
  have hC2 := hC1.kept hg2 (by simp)
  clear z0 z1 z2 ho2 hC1
  obtain ⟨⟨z0, z1, z2⟩, _⟩ := tri_facts HC2.out
  have hp2 : w1.heap.size < w2.heap.size := hY2.lt
  have hNX : NX w2 wa.heap.size w2.heap.size w2.heap.size p.n (nxN p 0) := ⟨by omega, fun _ => none, fun _ => 0, hC2, fun i _ => ⟨⟨by decide, World.ownsRow_nil _ _ _ _⟩, fun a ha => by cases ha⟩, fun i j _ _ _ a b ha => by cases ha⟩
  have HNX := Lib.hid hNX
  have HY : Hid (Cel w2 w1.heap.size (wv (fun v => (wyN p 0 v : Int)) p.n)) := Lib.hid hY2
  clear hg2 hC2 hY2 hNX
  go_wp2_with fail
  clear z0 z1 z2
  go_loopw [24] (fun k wr => ∃ j : Nat, j ≤ p.m ∧ k = .int .i64 j ∧ NX wr wa.heap.size w2.heap.size wr.heap.size p.n (nxN p j) ∧ Cel wr w1.heap.size (wv (fun v => (wyN p j v : Int)) p.n) ∧ Cel wr w.heap.size [.string p.name, .slice A p.n c, .slice F p.m d] ∧ Below w.heap.size w wr ∧ w2.heap.size ≤ wr.heap.size) (fun k _ => p.m - (intOf k).toNat)
  case atStart => exact ⟨0, Nat.zero_le _, rfl, HNX.out, HY.out, HC2.out, HB2.out, Nat.le_refl _⟩
  case round =>
    obtain ⟨j, hj, rfl, hnx, hy, hc, hbr, hsr⟩ := hrel
    have hj0 : (0 : Int) ≤ (j : Int) := by omega
    have HNXr := Lib.hid hnx
    have HYr := Lib.hid hy
    have HCr := Lib.hid hc
    have HBR := Lib.hid hbr
    clear hnx hy hc hbr HNX HY
    by_cases hlt : j < p.m
    · have hI : (j : Int) < (p.m : Int) := by omega
      obtain ⟨b, off, rfl, _, _⟩ := HF.out.2 (by omega)
      obtain ⟨f0, f1, f2⟩ := fl_at (HF.out.below HBR.out (Nat.le_refl _)) hlt
      have hsn := nxN_succ p hlt
      have hsy := wyN_succ p hlt
      obtain ⟨x, y, hx, hy, hxn, hyn⟩ := HWT.out _ (fl_mem hlt)
      generalize p.flows[j]! = f at *
      obtain ⟨frm, til, cond⟩ := f
      dsimp only at hx hy f0 f1 f2 hsn hsy
      subst hx
      subst hy
      have hba : Below wr.heap.size wr (wr.alloc (.cells #[.int .i64 x, .int .i64 y, .string cond] 39)) := (Below.refl _ _).alloc (Nat.le_refl _) _
      have HNXa := Lib.hid (HNXr.out.kept (grown_none hba (Nat.le_refl _)) (by simp) (fun g hg => by cases hg))
      have HYa := Lib.hid (HYr.out.below hba (Nat.le_refl _))
      have HCa := Lib.hid (HCr.out.below hba (Nat.le_refl _))
      have HBa := Lib.hid (HBR.out.trans (hba.mono HBR.out.size))
      have HXa := Lib.hid (Cel.lit wr #[.int .i64 x, .int .i64 y, .string cond] 39)
      have HSN := Lib.hid hsn
      have HSY := Lib.hid hsy
      have hsa : w2.heap.size ≤ (wr.alloc (.cells #[.int .i64 x, .int .i64 y, .string cond] 39)).heap.size := by simp; omega
      clear hba HNXr HYr HCr HBR hsn hsy
      go_upto_region 6 with (fail)
      generalize wr.alloc _ = wc at *
      obtain ⟨⟨z0, z1, z2⟩, _⟩ := tri_facts HCa.out
      obtain ⟨⟨n0, n1, n2⟩, _⟩ := tri_facts HXa.out
      go_wp2_with fail
      refine (isnode_yesG p.name A p.n c (some ⟨b, off, none⟩) p.m d hxn wc).mono ?_
      rintro e w3 ⟨rfl, hb3⟩
      have HCb := Lib.hid (HCa.out.below hb3 (Nat.le_refl _))
      have HXb := Lib.hid (HXa.out.below hb3 (Nat.le_refl _))
      clear z0 z1 z2 n0 n1 n2
      obtain ⟨⟨z0, z1, z2⟩, _⟩ := tri_facts HCb.out
      obtain ⟨⟨n0, n1, n2⟩, _⟩ := tri_facts HXb.out
      go_wp2_with fail
      refine (isnode_yesG p.name A p.n c (some ⟨b, off, none⟩) p.m d hyn w3).mono ?_
      rintro e w4 ⟨rfl, hb4⟩
      have hb34 := hb3.trans (hb4.mono hb3.size)
      have HNX4 := Lib.hid (HNXa.out.kept (grown_none hb34 (Nat.le_refl _)) (by simp) (fun g hg => by cases hg))
      have HY4 := Lib.hid (HYa.out.below hb34 (Nat.le_refl _))
      have HC4 := Lib.hid (HCa.out.below hb34 (Nat.le_refl _))
      have HX4 := Lib.hid (HXa.out.below hb34 (Nat.le_refl _))
      have HB4 := Lib.hid (HBa.out.trans (hb34.mono HBa.out.size))
      have hs4 : w2.heap.size ≤ w4.heap.size := Nat.le_trans hsa hb34.size
      clear z0 z1 z2 n0 n1 n2 hb3 hb4 hb34 HNXa HYa HCa HXa HCb HXb HBa
      go_upto_region 7 with (fail)
      obtain ⟨X, c, hcx, hox, hax⟩ := HNX4.out.ex
      have hbd : Below w4.heap.size w4 w4.drew := (Below.refl _ _).drew
      have hba : Below w4.drew.heap.size w4.drew (w4.drew.alloc (.cells #[.int .i64 y] 3)) := (Below.refl _ _).alloc (Nat.le_refl _) _
      have hbda : Below w4.heap.size w4 (w4.drew.alloc (.cells #[.int .i64 y] 3)) := hbd.trans hba
      have HCXa := Lib.hid (hcx.below hbda (Nat.le_refl _))
      have HOXa := Lib.hid (fun i hi => (hox i hi).1.below hbda (Nat.le_refl _))
      have HAX := Lib.hid hax
      have HOB := Lib.hid (fun a ha => (hox x hxn).2 a ha)
      have HYa := Lib.hid (HY4.out.below hbda (Nat.le_refl _))
      have HCa := Lib.hid (HC4.out.below hbda (Nat.le_refl _))
      have HXa := Lib.hid (HX4.out.below hbda (Nat.le_refl _))
      have HBa := Lib.hid (HB4.out.trans (hbda.mono HB4.out.size))
      obtain ⟨⟨n0, n1, n2⟩, _⟩ := tri_facts HX4.out
      obtain ⟨⟨n0', n1', n2'⟩, _⟩ := tri_facts (HX4.out.below hbd (Nat.le_refl _))
      have hcat : ((List.range p.n).map fun i => Value.slice (X i) (nxN p j i).length (c i))[x]? = some (.slice (X x) (nxN p j x).length (c x)) := by
        rw [List.getElem?_map, List.getElem?_range hxn]; rfl
      have k1 := hcx.cell x _ hcat
      have k1' := (hcx.below hbd (Nat.le_refl _)).cell x _ hcat
      have HR : Hid (KRow iκ (w4.drew.alloc (.cells #[.int .i64 y] 3)) (w4.drew.heap.size + 1) (some ⟨w4.drew.heap.size, 0, none⟩) 1 [(y : Int)]) := Lib.hid (KRow.lit (κ := iκ) w4.drew 3 [(y : Int)] #[.int .i64 y] rfl)
      have hlen : (nxN p j x).length ≤ 1000000 := by
        have : (nxN p j x).length ≤ p.m := by
          unfold nxN
          rw [List.length_map]
          exact Nat.le_trans (List.length_filter_le _ _) (by rw [List.length_take]; omega)
        omega
      have hbase : w2.heap.size ≤ (w4.drew.alloc (.cells #[.int .i64 y] 3)).heap.size := by have := hbda.size; omega
      have hx0 : (0 : Int) ≤ (x : Int) := by omega
      have hxI : (x : Int) < (p.n : Int) := by omega
      have hl1 : wa.heap.size < w4.heap.size := hcx.lt
      have hl2 : wr.heap.size < w4.heap.size := HX4.out.lt
      have hl1' : ¬ wa.heap.size = w4.heap.size := by omega
      have hl2' : ¬ wr.heap.size = w4.heap.size := by omega
      clear hcx hox hax hbd hba hbda
      go_region_law (refine step_append_k (κ := iκ) rfl (.tmp 45) (.tmp 48) 22 3 i0 _ 8 Try.underlying22 hi0 hz0 hz1 hz2 rfl rfl _ w2.heap.size _ (X x) (nxN p j x).length (c x) ((nxN p j x).map Int.ofNat) ⟨w4.drew.heap.size, 0, none⟩ (y : Int) rfl (HOXa.out x hxn) rfl HR.out hlen (by decide) hbase ?_; intro X' c' w' ho hg; obtain ⟨hput, hcel⟩ := NX.put (by omega) HCXa.out HOXa.out HAX.out hxn hg ho; have g1 := hcel.cell x _ hcat; have g2 := hcel.froz x (by simpa using hxn); have hrw := own_ne (c := c x) (k := (nxN p j x).length) (A := X x) (b := wr.heap.size) (fun a ha e => by have := HOB.out a ha; omega); obtain ⟨⟨m0, m1, m2⟩, _⟩ := tri_facts (HXa.out.kept hg.grown hrw))
      all_goals
        have hry := own_ne (c := c x) (k := (nxN p j x).length) (A := X x) (b := w1.heap.size) (fun a ha e => by have := ((HOXa.out x hxn).block ha).1; omega)
        have hrc := own_ne (c := c x) (k := (nxN p j x).length) (A := X x) (b := w.heap.size) (fun a ha e => by have := ((HOXa.out x hxn).block ha).1; omega)
        have hgs : w'.grownBy (w'.setCell ⟨wa.heap.size, x, none⟩ (.slice X' ((nxN p j x).length + 1) c')) (some wa.heap.size) := grown_setCell w' ⟨wa.heap.size, x, none⟩ _
        have HXs := Lib.hid ((HXa.out.kept hg.grown hrw).kept hgs (fun e => by have := Option.some.inj e; have := HNX4.out.low; omega))
        have HYs := Lib.hid ((HYa.out.kept hg.grown hry).kept hgs (fun e => by have := Option.some.inj e; omega))
        have HCs := Lib.hid ((HCa.out.kept hg.grown hrc).kept hgs (fun e => by have := Option.some.inj e; omega))
        have HBs := Lib.hid ((HBa.out.trans ((hg.below (HOXa.out x hxn).2 hbase).mono (by omega))).setCell (p := ⟨wa.heap.size, x, none⟩) (by show w.heap.size ≤ wa.heap.size; omega) (.slice X' ((nxN p j x).length + 1) c'))
        have HPUT := Lib.hid hput
        have hss : w2.heap.size ≤ (w'.setCell ⟨wa.heap.size, x, none⟩ (.slice X' ((nxN p j x).length + 1) c')).heap.size := by have := hg.size; simp at this ⊢; omega
        have hse : (w'.setCell ⟨wa.heap.size, x, none⟩ (.slice X' ((nxN p j x).length + 1) c')).heap.size = w'.heap.size := by simp
        rw [← hse] at HPUT
        clear hry hrc hgs hse hput hcel g1 g2 hrw m0 m1 m2 hg ho HXa HYa HCa HBa HNX4 HY4 HC4 HX4 HB4 n0 n1 n2 n0' n1' n2' k1 k1' hl1 hl2 hl1' hl2'
        generalize w'.setCell _ _ = wn at *
        obtain ⟨⟨n0, n1, n2⟩, _⟩ := tri_facts HXs.out
        have y1 := HYs.out.cell y _ (wv_at _ hyn)
        have y2 := HYs.out.froz y (by unfold wv; simpa using hyn)
        have hy0 : (0 : Int) ≤ (y : Int) := by omega
        have hyI : (y : Int) < (p.n : Int) := by omega
        have hyw := wyN_le p j y
        have hye : IntKind.i64.wrap ((wyN p j y : Int) + 1) = (wyN p j y : Int) + 1 := by rw [IntKind.wrap_i64]; omega
        go_wp2_with fail
        have hgy : wn.grownBy (wn.setCell ⟨w1.heap.size, y, none⟩ (.int .i64 ((wyN p j y : Int) + 1))) (some w1.heap.size) := grown_setCell wn ⟨w1.heap.size, y, none⟩ _
        have hfx : NX (wn.setCell ⟨w1.heap.size, y, none⟩ (.int .i64 ((wyN p j y : Int) + 1))) wa.heap.size w2.heap.size wn.heap.size p.n (nxN p (j + 1)) := by
          have h1 := HPUT.out.kept hgy (fun e => by have := Option.some.inj e; omega) (fun g hg => by have := Option.some.inj hg; omega)
          have h2 : (fun i => if i = x then nxN p j i ++ [y] else nxN p j i) = nxN p (j + 1) := by
            funext i
            rw [HSN.out i]
            by_cases e : i = x
            · subst e; simp
            · have e' : ¬ (x : Int) = (i : Int) := by omega
              rw [if_neg e, if_neg e']
          rw [← h2]
          exact h1
        have hfy : Cel (wn.setCell ⟨w1.heap.size, y, none⟩ (.int .i64 ((wyN p j y : Int) + 1))) w1.heap.size (wv (fun v => (wyN p (j + 1) v : Int)) p.n) := by
          have h1 := HYs.out.set (i := y) (by unfold wv; simpa using hyn) (.int .i64 ((wyN p j y : Int) + 1))
          unfold wv at h1
          rw [set_range] at h1
          have h2 : (fun v => if v = y then Value.int .i64 ((wyN p j y : Int) + 1) else .int .i64 (wyN p j v : Int)) = fun v => .int .i64 (wyN p (j + 1) v : Int) := by
            funext v
            rw [HSY.out v]
            by_cases e : v = y
            · subst e; simp
            · have e' : ¬ (y : Int) = (v : Int) := by omega
              rw [if_neg e, if_neg e']
          rw [h2] at h1
          exact h1
        have hfc := HCs.out.kept hgy (fun e => by have := Option.some.inj e; omega)
        have hfb := HBs.out.setCell (p := ⟨w1.heap.size, y, none⟩) (by show w.heap.size ≤ w1.heap.size; omega) (.int .i64 ((wyN p j y : Int) + 1))
        go_roundw
        case measure => simp [intOf]; omega
        case rel => exact ⟨j + 1, by omega, by go_num, by simpa using hfx, hfy, hfc, hfb, by simpa using hss⟩
    · obtain rfl : j = p.m := by omega
      have hI : ¬ ((p.m : Nat) : Int) < (p.m : Int) := by omega
      obtain ⟨NXr, NXc, hnr⟩ := HNXr.out.nr
      have hKM0 : KM w wr w.heap.size wa.heap.size w1.heap.size w2.heap.size wr.heap.size p.n [.string p.name, .slice A p.n c, .slice F p.m d] (nx p) NXr NXc [] (fun v => (wyN p p.m v : Int)) none 0 :=
        ⟨hnr, HYr.out, ⟨by decide, World.ownsRow_nil _ _ _ _⟩, HCr.out, HBR.out, Nat.le_refl _, hpa, hp1, hp2, hsr⟩
      have HK0 := Lib.hid hKM0
      clear hKM0 hnr HNXr HYr HCr HBR
      go_wp2_with fail
      generalize wr = wq at *
      go_loopw [7, 61] (fun s k wr => ∃ (j : Nat) (X : Option Addr) (cc : Nat), j ≤ p.n ∧ k = .int .i64 j ∧ s = .slice X ((List.range j).filter fun v => wyN p p.m v == 0).length cc ∧ KM w wr w.heap.size wa.heap.size w1.heap.size w2.heap.size wq.heap.size p.n [.string p.name, .slice A p.n c, .slice F p.m d] (nx p) NXr NXc ((List.range j).filter fun v => wyN p p.m v == 0) (fun v => (wyN p p.m v : Int)) X cc) (fun _ k _ => p.n - (intOf k).toNat)
      case atStart => exact ⟨0, none, 0, Nat.zero_le _, rfl, rfl, HK0.out⟩
      case round =>
        obtain ⟨j, X, cc, hj, rfl, rfl, hk⟩ := hrel
        have hj0 : (0 : Int) ≤ (j : Int) := by omega
        have HK := Lib.hid hk
        clear hk HK0
        by_cases hlt : j < p.n
        · have hIj : (j : Int) < (p.n : Int) := by omega
          have y1 := HK.out.ways.cell j _ (wv_at _ hlt)
          have hfl : (List.range (j + 1)).filter (fun v => wyN p p.m v == 0) = (List.range j).filter (fun v => wyN p p.m v == 0) ++ (if wyN p p.m j = 0 then [j] else []) := by
            rw [List.range_succ, List.filter_append, List.filter_cons]
            by_cases hx : wyN p p.m j = 0
            · rw [if_pos hx, if_pos (by rw [hx]; rfl)]; rfl
            · rw [if_neg hx, if_neg (by rw [beq_eq_false_iff_ne.2 hx]; decide)]; rfl
          have hgl : ((List.range j).filter fun v => wyN p p.m v == 0).length ≤ j := Nat.le_trans (List.length_filter_le _ _) (by rw [List.length_range]; exact Nat.le_refl _)
          have HFL := Lib.hid hfl
          clear hfl
          generalize (List.range j).filter (fun v => wyN p p.m v == 0) = G at *
          by_cases hx : wyN p p.m j = 0
          · rw [hx] at y1
            rw [if_pos hx] at HFL
            have hba : Below wr.heap.size wr (wr.alloc (.cells #[.int .i64 j] 3)) := (Below.refl _ _).alloc (Nat.le_refl _) _
            have HKa := Lib.hid (HK.out.below hba)
            have HR : Hid (KRow iκ (wr.alloc (.cells #[.int .i64 j] 3)) (wr.heap.size + 1) (some ⟨wr.heap.size, 0, none⟩) 1 [(j : Int)]) := Lib.hid (KRow.lit (κ := iκ) wr 3 [(j : Int)] #[.int .i64 j] rfl)
            clear hba hx
            have y1 : wr.cell? ⟨w1.heap.size, j, none⟩ = some (.int .i64 0) := y1
            go_wp2_with (at_builtin; refine append_k (κ := iκ) rfl (.tmp 68) (.tmp 70) 22 3 i0 _ 8 Try.underlying22 hi0 hz0 hz1 hz2 rfl rfl _ wq.heap.size _ X G.length cc _ ⟨wr.heap.size, 0, none⟩ (j : Int) rfl HKa.out.gone rfl HR.out (by omega) (by decide) HKa.out.le ?_; intro X' cc' w' ho' hg')
            have HK2 := Lib.hid (HKa.out.app hg' ho')
            clear ho' hg'
            go_wp2_with fail
            go_roundw
            case measure => simp [intOf]; omega
            case rel => exact ⟨j + 1, X', cc', by omega, by go_num, by rw [HFL.out, List.length_append]; rfl, by rw [HFL.out]; exact HK2.out⟩
          · have hxB : ((wyN p p.m j : Int) == 0) = false := by rw [beq_eq_false_iff_ne]; omega
            rw [if_neg hx, List.append_nil] at HFL
            obtain ⟨z, hz⟩ : ∃ z : Int, (wyN p p.m j : Int) = z := ⟨_, rfl⟩
            rw [hz] at hxB y1
            clear hx hz
            go_wp2_with fail
            go_roundw
            case measure => simp [intOf]; omega
            case rel => exact ⟨j + 1, X, cc, by omega, by go_num, by rw [HFL.out], by rw [HFL.out]; exact HK.out⟩
        · obtain rfl : j = p.n := by omega
          have hIj : ¬ ((p.n : Nat) : Int) < (p.n : Int) := by omega
          have HKS := Lib.hid (KhT.start HWT.out)
          generalize (List.range p.n).filter (fun v => wyN p p.m v == 0) = G0 at *
          go_wp2_with fail
          go_loopw [7, 10] (fun s k wr => ∃ (G : List Nat) (W : Nat → Int) (X : Option Addr) (cc kk : Nat), kk ≤ G.length ∧ k = .int .i64 kk ∧ s = .slice X G.length cc ∧ KhT p G W kk 0 ∧ KM w wr w.heap.size wa.heap.size w1.heap.size w2.heap.size wq.heap.size p.n [.string p.name, .slice A p.n c, .slice F p.m d] (nx p) NXr NXc G W X cc) (fun _ k _ => p.n - (intOf k).toNat)
          case atStart => exact ⟨G0, _, X, cc, 0, Nat.zero_le _, rfl, rfl, HKS.out, HK.out⟩
          case round =>
            obtain ⟨G, W, X, cc, kk, hkl, rfl, rfl, hkh, hkm⟩ := hrel
            have HKH := Lib.hid hkh
            have HKM := Lib.hid hkm
            have hgn := hkh.kh.len
            have hk0 : (0 : Int) ≤ (kk : Int) := by omega
            clear hkh hkm HK HKS
            by_cases hlt : kk < G.length
            · have hIk : (kk : Int) < (G.length : Int) := by omega
              obtain ⟨b, off, rfl, _, _⟩ := HKM.out.gone.row.2 (by omega)
              have g1 := iκ_cells HKM.out.gone.row hlt
              have hgk : (G.map Int.ofNat)[kk]! = (G[kk] : Int) := by
                rw [getElem!_pos (G.map Int.ofNat) kk (by simpa using hlt)]; simp
              rw [hgk] at g1
              have hun := HKH.out.kh.lt _ (List.getElem_mem hlt)
              have hgu : G[kk]? = some G[kk] := List.getElem?_eq_getElem hlt
              generalize G[kk] = u at *
              have hu0 : (0 : Int) ≤ (u : Int) := by omega
              have huI : (u : Int) < (p.n : Int) := by omega
              have r1 := HKM.out.rows.cel.cell u (.slice (NXr u) (nx p u).length (NXc u)) (by rw [List.getElem?_map, List.getElem?_range hun]; rfl)
              have hnl := nx_len p u
              clear hgk
              go_wp2_with fail
              clear g1 r1
              generalize hXu : NXr u = Xu at *
              generalize NXc u = Xc at *
              have HXU := Lib.hid hXu
              clear hXu
              go_loopw [7, 87] (fun s i wr' => ∃ (G' : List Nat) (W' : Nat → Int) (X' : Option Addr) (cc' t : Nat), t ≤ (nx p u).length ∧ i = .int .i64 t ∧ s = .slice X' G'.length cc' ∧ KhT p G' W' kk t ∧ G'[kk]? = some u ∧ KM w wr' w.heap.size wa.heap.size w1.heap.size w2.heap.size wq.heap.size p.n [.string p.name, .slice A p.n c, .slice F p.m d] (nx p) NXr NXc G' W' X' cc') (fun _ i _ => (nx p u).length - (intOf i).toNat)
              case atStart => exact ⟨G, W, _, cc, 0, Nat.zero_le _, rfl, rfl, HKH.out, hgu, HKM.out⟩
              case round =>
                obtain ⟨G, W, X, cc, t, htl, rfl, rfl, hkh, hgu, hkm⟩ := hrel
                have HKH := Lib.hid hkh
                have HKM := Lib.hid hkm
                have HGU := Lib.hid hgu
                have hgn := hkh.kh.len
                have ht0 : (0 : Int) ≤ (t : Int) := by omega
                clear hkh hkm hgu
                by_cases htt : t < (nx p u).length
                · have hIt : (t : Int) < ((nx p u).length : Int) := by omega
                  have hrow := (HKM.out.rows.own u hun).1.row
                  rw [HXU.out] at hrow
                  obtain ⟨b2, off2, rfl, _, _⟩ := hrow.2 (by omega)
                  have g1 := iκ_cells hrow htt
                  have hgt : ((nx p u).map Int.ofNat)[t]! = ((nx p u)[t] : Int) := by
                    rw [getElem!_pos ((nx p u).map Int.ofNat) t (by simpa using htt)]; simp
                  rw [hgt] at g1
                  have hvn := nx_in HWT.out u _ (List.getElem_mem htt)
                  have hvt : (nx p u)[t]? = some (nx p u)[t] := List.getElem?_eq_getElem htt
                  generalize (nx p u)[t] = v at *
                  have hv0 : (0 : Int) ≤ (v : Int) := by omega
                  have hvI : (v : Int) < (p.n : Int) := by omega
                  have HST := Lib.hid (HKH.out.step2 HWT.out HGU.out hvt hvn)
                  obtain ⟨wb1, wb2⟩ := HKH.out.kh.bounds hvn hn hm
                  have y1 := HKM.out.ways.cell v _ (wv_at _ hvn)
                  have y2 := HKM.out.ways.froz v (by unfold wv; simpa using hvn)
                  have hws : IntKind.i64.wrap (W v - 1) = W v - 1 := by rw [IntKind.wrap_i64]; omega
                  have HS := Lib.hid (HKM.out.set hvn (W v - 1))
                  clear hgt hrow hvt
                  go_upto_region 24 with (fail)
                  generalize wr.setCell _ _ = ws at *
                  clear y1 y2 g1
                  have y1 := HS.out.ways.cell v _ (wv_at _ hvn)
                  rw [if_pos rfl] at y1
                  by_cases hz : W v - 1 = 0
                  · rw [if_pos hz] at HST
                    rw [hz] at y1
                    have hba : Below ws.heap.size ws (ws.alloc (.cells #[.int .i64 v] 3)) := (Below.refl _ _).alloc (Nat.le_refl _) _
                    have HKa := Lib.hid (HS.out.below hba)
                    have HR : Hid (KRow iκ (ws.alloc (.cells #[.int .i64 v] 3)) (ws.heap.size + 1) (some ⟨ws.heap.size, 0, none⟩) 1 [(v : Int)]) := Lib.hid (KRow.lit (κ := iκ) ws 3 [(v : Int)] #[.int .i64 v] rfl)
                    have HGU2 : Hid ((G ++ [v])[kk]? = some u) := Lib.hid (by
                      obtain ⟨h1, h2⟩ := List.getElem?_eq_some_iff.1 HGU.out
                      rw [List.getElem?_append_left h1, HGU.out])
                    clear hba hz hws wb1 wb2
                    go_wp2_with (at_builtin; refine append_k (κ := iκ) rfl (.tmp 102) (.tmp 104) 22 3 i0 _ 8 Try.underlying22 hi0 hz0 hz1 hz2 rfl rfl _ wq.heap.size _ X G.length cc _ ⟨ws.heap.size, 0, none⟩ (v : Int) rfl HKa.out.gone rfl HR.out (by omega) (by decide) HKa.out.le ?_; intro X' cc' w' ho' hg')
                    have HK2 := Lib.hid (HKa.out.app hg' ho')
                    clear ho' hg'
                    go_wp2_with fail
                    go_roundw
                    case measure => simp [intOf]; omega
                    case rel => exact ⟨G ++ [v], _, X', cc', t + 1, by omega, by go_num, by rw [List.length_append]; rfl, HST.out, HGU2.out, HK2.out⟩
                  · have hzB : (W v - 1 == 0) = false := by rw [beq_eq_false_iff_ne]; exact hz
                    rw [if_neg hz] at HST
                    obtain ⟨y, hy⟩ : ∃ y, W v - 1 = y := ⟨_, rfl⟩
                    rw [hy] at hzB y1
                    clear hz hws wb1 wb2 hy
                    go_wp2_with fail
                    go_roundw
                    case measure => simp [intOf]; omega
                    case rel => exact ⟨G, _, X, cc, t + 1, by omega, by go_num, rfl, HST.out, HGU.out, HS.out⟩
                · obtain rfl : t = (nx p u).length := by omega
                  have hIt : ¬ ((nx p u).length : Int) < ((nx p u).length : Int) := by omega
                  obtain ⟨hlt', hge⟩ := List.getElem?_eq_some_iff.1 HGU.out
                  have HN := Lib.hid (HKH.out.next hlt' (by rw [hge]; exact Nat.le_refl _))
                  have hkk1 : kk + 1 ≤ G.length := hlt'
                  clear hge
                  go_wp2_with fail
                  go_roundw
                  case measure => simp [intOf]; omega
                  case rel => exact ⟨G, W, X, cc, kk + 1, hkk1, by go_num, rfl, HN.out, HKM.out⟩
            · obtain rfl : kk = G.length := by omega
              have hIk : ¬ (G.length : Int) < (G.length : Int) := by omega
              have hdn := Lib.hid (HKH.out.done HWT.out rfl)
              obtain ⟨⟨z0, z1, z2⟩, _⟩ := tri_facts HKM.out.box
              have HBE := Lib.hid HKM.out.bel
              clear HKM HKH
              by_cases hg : G.length < p.n
              · have hlI : (G.length : Int) < (p.n : Int) := by omega
                go_wp2
                go_ret
                exact ⟨⟨true, rfl, by simp [hdn.out.1 hg]⟩, HBE.out⟩
              · have hlI : ¬ (G.length : Int) < (p.n : Int) := by omega
                have hno : ¬ (Rc.ord p.n (nxt p.n p.flows p.m)).length < p.n := fun h => hg (hdn.out.2 h)
                have HNO := Lib.hid hno
                clear hno
                go_wp2
                go_ret
                exact ⟨⟨false, rfl, by simp [HNO.out]⟩, HBE.out⟩
end Pr
end Go.Proofs.Ytnmlfjaagbhhoaa
