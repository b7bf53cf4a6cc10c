/- Package reach: onward, backward. -/
import Derived.Test.YtjdgloofdafebaaQdY
import Derived.Deep.RegionLaw
namespace Go.Proofs.Ytjdgloofdafebaa
open Go.RowKit

namespace Pr
/-- A row of rows of one's own. -/
def RowsOut (n : Nat) (L : Nat → List Nat) (w : World) (e : Ending) (w' : World) : Prop := (∃ nb B : Nat, e = .returned (.slice (some ⟨nb, 0, none⟩) n n) ∧ NX w' nb B w'.heap.size n L ∧ w.heap.size ≤ nb) ∧ Below w.heap.size w w'
theorem info_rows : (Try.prog.info? 26).map (fun i => (i.zero, i.size, i.bytes)) = some (some (.slice none 0 0), 1, 24) := by kernel_rfl
set_option maxHeartbeats 3200000 in
set_option maxRecDepth 10000 in
theorem onward_any (s : ByteArray) (A : Option Addr) (n c : Nat) (F : Option Addr) (m d : Nat) (fl : List Fl) (w : World) (hF : KRow Fl.κ w w.heap.size F m fl) (hn : n ≤ 100000) (hm : m ≤ 100000) :
    Calls Try.prog 29 #[.agg #[.string s, .slice A n c, .slice F m d]] w (RowsOut n (nxt n fl m) w) := by
  obtain rfl : fl.length = m := hF.len (by decide)
  have HF := Lib.hid hF
  have HB := Lib.hid ((Below.refl w.heap.size w).alloc (Nat.le_refl _) (.cells #[.string s, .slice A n c, .slice F fl.length d] 25))
  have hcel := Cel.lit w #[.string s, .slice A n c, .slice F fl.length d] 25
  obtain ⟨i0, hi0, hz0, hz1, hz2⟩ := info_parts info_int
  obtain ⟨i1, hi1, hy0, hy1, hy2⟩ := info_parts info_rows
  clear hF
  go_enter Try.func29, Try.ntmps29
  go_upto_region 1 with (fail)
  generalize hwa : w.alloc _ = wa at *
  have hpa : w.heap.size < wa.heap.size := by rw [← hwa]; simp
  have HC := Lib.hid hcel
  obtain ⟨⟨z0, z1, z2⟩, _⟩ := tri_facts hcel
  clear hcel hwa
  go_upto_region 2 with (at_make; refine wpList_make_full _ rfl (.tmp 8) (.tmp 8) 56 rfl wa.heap.size 26 i1 _ 1 Try.underlying56 hi1 hy0 hy1 .i64 .i64 _ _ n rfl rfl rfl rfl (by rw [hy2]; omega) (by unfold maxLen; omega) (Nat.le_refl _) ?_; intro w1 ho1 hg1)
  have hC1 := own_cel ho1
  rw [made_one _ rfl] at hC1
  have HC1 := Lib.hid (HC.out.kept hg1 (by simp))
  have HB1 := Lib.hid (HB.out.grown hg1 HB.out.size (fun k hk => by cases hk))
  clear z0 z1 z2 ho1
  obtain ⟨⟨z0, z1, z2⟩, _⟩ := tri_facts HC1.out
  have hp1 : wa.heap.size < w1.heap.size := hC1.lt
  have hNX : NX w1 wa.heap.size w1.heap.size w1.heap.size n (nxt n fl 0) := ⟨hp1, fun _ => none, fun _ => 0, hC1, fun i _ => ⟨⟨by decide, World.ownsRow_nil _ _ _ _⟩, fun a ha => by cases ha⟩, fun i j _ _ _ a b ha => by cases ha⟩
  have HNX := Lib.hid hNX
  clear hg1 hC1 hNX
  go_wp2_with fail
  clear z0 z1 z2
  go_loopw [13] (fun k wr => ∃ j : Nat, j ≤ fl.length ∧ k = .int .i64 j ∧ NX wr wa.heap.size w1.heap.size wr.heap.size n (nxt n fl j) ∧ Cel wr w.heap.size [.string s, .slice A n c, .slice F fl.length d] ∧ Below w.heap.size w wr ∧ w1.heap.size ≤ wr.heap.size) (fun k _ => fl.length - (intOf k).toNat)
  case atStart => exact ⟨0, Nat.zero_le _, rfl, HNX.out, HC1.out, HB1.out, Nat.le_refl _⟩
  case round =>
    obtain ⟨j, hj, rfl, hnx, hc, hbr, hsr⟩ := hrel
    have hj0 : (0 : Int) ≤ (j : Int) := by omega
    have HNXr := Lib.hid hnx
    have HCr := Lib.hid hc
    have HBR := Lib.hid hbr
    clear hnx hc hbr HNX
    by_cases hlt : j < fl.length
    · have hI : (j : Int) < (fl.length : Int) := by omega
      obtain ⟨b, off, rfl, _, _⟩ := HF.out.2 (by omega)
      obtain ⟨f0, f1, f2⟩ := fl_at (HF.out.below HBR.out (Nat.le_refl _)) hlt
      have HBAD := Lib.hid (@nxt_bad n fl j hlt)
      have HGOOD := Lib.hid (fun a b => @nxt_good n fl j a b hlt)
      generalize fl[j]! = f at *
      have hba : Below wr.heap.size wr (wr.alloc (.cells #[.int .i64 f.frm, .int .i64 f.til, .string f.cond] 40)) := (Below.refl _ _).alloc (Nat.le_refl _) _
      have HNXa := Lib.hid (HNXr.out.kept (grown_none hba (Nat.le_refl _)) (by simp) (fun g hg => by cases hg))
      have HCa := Lib.hid (HCr.out.below hba (Nat.le_refl _))
      have HBa := Lib.hid (HBR.out.trans (hba.mono HBR.out.size))
      have HXa := Lib.hid (Cel.lit wr #[.int .i64 f.frm, .int .i64 f.til, .string f.cond] 40)
      have hsa : w1.heap.size ≤ (wr.alloc (.cells #[.int .i64 f.frm, .int .i64 f.til, .string f.cond] 40)).heap.size := by simp; omega
      clear hba HNXr HCr HBR
      go_upto_region 5 with (fail)
      generalize wr.alloc _ = wc at *
      obtain ⟨⟨z0, z1, z2⟩, _⟩ := tri_facts HCa.out
      obtain ⟨⟨n0, n1, n2⟩, _⟩ := tri_facts HXa.out
      go_wp2_with fail
      refine (joins_any s A n c (some ⟨b, off, none⟩) fl.length d f wc).mono ?_
      rintro e w4 ⟨rfl, hb4⟩
      have HNX4 := Lib.hid (HNXa.out.kept (grown_none hb4 (Nat.le_refl _)) (by simp) (fun g hg => by cases hg))
      have HC4 := Lib.hid (HCa.out.below hb4 (Nat.le_refl _))
      have HX4 := Lib.hid (HXa.out.below hb4 (Nat.le_refl _))
      have HB4 := Lib.hid (HBa.out.trans (hb4.mono HBa.out.size))
      have hs4 : w1.heap.size ≤ w4.heap.size := Nat.le_trans hsa hb4.size
      clear z0 z1 z2 n0 n1 n2 hb4 HNXa HCa HXa HBa f0 f1 f2
      cases hok : okF n f with
      | false =>
        have HEQ := Lib.hid (HBAD.out hok)
        go_wp2_with fail
        go_roundw
        case measure => simp [intOf]; omega
        case rel => exact ⟨j + 1, by omega, by go_num, by rw [HEQ.out]; exact HNX4.out.up (Nat.le_of_lt HX4.out.lt), HC4.out, HB4.out, hs4⟩
      | true =>
        obtain ⟨x, y, hx, hy, hxn, hyn⟩ := okF_iff.1 hok
        have HEQ := Lib.hid (HGOOD.out x y hok hx hy)
        obtain ⟨frm, til, cond⟩ := f
        dsimp only at hx hy
        subst hx
        subst hy
        clear hok HBAD HGOOD
        go_upto_region 6 with (fail)
        obtain ⟨X, c, hcx, hox, hax⟩ := HNX4.out.ex
        have hbd : Below w4.heap.size w4 w4.drew := (Below.refl _ _).drew
        have hba : Below w4.drew.heap.size w4.drew (w4.drew.alloc (.cells #[.int .i64 y] 3)) := (Below.refl _ _).alloc (Nat.le_refl _) _
        have hbda : Below w4.heap.size w4 (w4.drew.alloc (.cells #[.int .i64 y] 3)) := hbd.trans hba
        have HCXa := Lib.hid (hcx.below hbda (Nat.le_refl _))
        have HOXa := Lib.hid (fun i hi => (hox i hi).1.below hbda (Nat.le_refl _))
        have HAX := Lib.hid hax
        have HOB := Lib.hid (fun a ha => (hox x hxn).2 a ha)
        have HCa := Lib.hid (HC4.out.below hbda (Nat.le_refl _))
        have HXa := Lib.hid (HX4.out.below hbda (Nat.le_refl _))
        have HBa := Lib.hid (HB4.out.trans (hbda.mono HB4.out.size))
        obtain ⟨⟨n0, n1, n2⟩, _⟩ := tri_facts HX4.out
        obtain ⟨⟨n0', n1', n2'⟩, _⟩ := tri_facts (HX4.out.below hbd (Nat.le_refl _))
        have hcat : ((List.range n).map fun i => Value.slice (X i) (nxt n fl j i).length (c i))[x]? = some (.slice (X x) (nxt n fl j x).length (c x)) := by
          rw [List.getElem?_map, List.getElem?_range hxn]; rfl
        have k1 := hcx.cell x _ hcat
        have k1' := (hcx.below hbd (Nat.le_refl _)).cell x _ hcat
        have HR : Hid (KRow iκ (w4.drew.alloc (.cells #[.int .i64 y] 3)) (w4.drew.heap.size + 1) (some ⟨w4.drew.heap.size, 0, none⟩) 1 [(y : Int)]) := Lib.hid (KRow.lit (κ := iκ) w4.drew 3 [(y : Int)] #[.int .i64 y] rfl)
        have hlen : (nxt n fl j x).length ≤ 1000000 := by have := nxt_len n fl j x; omega
        have hbase : w1.heap.size ≤ (w4.drew.alloc (.cells #[.int .i64 y] 3)).heap.size := by have := hbda.size; omega
        have hx0 : (0 : Int) ≤ (x : Int) := by omega
        have hxI : (x : Int) < (n : Int) := by omega
        have hl1 : wa.heap.size < w4.heap.size := hcx.lt
        have hl2 : wr.heap.size < w4.heap.size := HX4.out.lt
        have hl1' : ¬ wa.heap.size = w4.heap.size := by omega
        have hl2' : ¬ wr.heap.size = w4.heap.size := by omega
        clear hcx hox hax hbd hba hbda
        go_region_law (refine step_append_k (κ := iκ) rfl (.tmp 27) (.tmp 30) 26 3 i0 _ 8 Try.underlying26 hi0 hz0 hz1 hz2 rfl rfl _ w1.heap.size _ (X x) (nxt n fl j x).length (c x) ((nxt n fl j x).map Int.ofNat) ⟨w4.drew.heap.size, 0, none⟩ (y : Int) rfl (HOXa.out x hxn) rfl HR.out hlen (by decide) hbase ?_; intro X' c' w' ho hg; obtain ⟨hput, hcel⟩ := NX.put (by omega) HCXa.out HOXa.out HAX.out hxn hg ho; have g1 := hcel.cell x _ hcat; have g2 := hcel.froz x (by simpa using hxn); have hrw := own_ne (c := c x) (k := (nxt n fl j x).length) (A := X x) (b := wr.heap.size) (fun a ha e => by have := HOB.out a ha; omega); obtain ⟨⟨m0, m1, m2⟩, _⟩ := tri_facts (HXa.out.kept hg.grown hrw))
        all_goals
          have hrc := own_ne (c := c x) (k := (nxt n fl j x).length) (A := X x) (b := w.heap.size) (fun a ha e => by have := ((HOXa.out x hxn).block ha).1; omega)
          have hgs : w'.grownBy (w'.setCell ⟨wa.heap.size, x, none⟩ (.slice X' ((nxt n fl j x).length + 1) c')) (some wa.heap.size) := grown_setCell w' ⟨wa.heap.size, x, none⟩ _
          have HCs := Lib.hid ((HCa.out.kept hg.grown hrc).kept hgs (fun e => by have := Option.some.inj e; omega))
          have HBs := Lib.hid ((HBa.out.trans ((hg.below (HOXa.out x hxn).2 hbase).mono (by omega))).setCell (p := ⟨wa.heap.size, x, none⟩) (by show w.heap.size ≤ wa.heap.size; omega) (.slice X' ((nxt n fl j x).length + 1) c'))
          have HPUT := Lib.hid hput
          have hss : w1.heap.size ≤ (w'.setCell ⟨wa.heap.size, x, none⟩ (.slice X' ((nxt n fl j x).length + 1) c')).heap.size := by have := hg.size; simp at this ⊢; omega
          have hse : (w'.setCell ⟨wa.heap.size, x, none⟩ (.slice X' ((nxt n fl j x).length + 1) c')).heap.size = w'.heap.size := by simp
          rw [← hse] at HPUT
          clear hrc hgs hse hput hcel g1 g2 hrw m0 m1 m2 hg ho HXa HCa HBa HNX4 HC4 HX4 HB4 n0 n1 n2 n0' n1' n2' k1 k1' hl1 hl2 hl1' hl2'
          generalize w'.setCell _ _ = wn at *
          go_wp2_with fail
          go_roundw
          case measure => simp [intOf]; omega
          case rel => exact ⟨j + 1, by omega, by go_num, by rw [← HEQ.out]; exact HPUT.out, HCs.out, HBs.out, hss⟩
    · obtain rfl : j = fl.length := by omega
      have hI : ¬ ((fl.length : Nat) : Int) < (fl.length : Int) := by omega
      go_wp2
      go_ret
      exact ⟨⟨wa.heap.size, w1.heap.size, rfl, HNXr.out, Nat.le_of_lt hpa⟩, HBR.out⟩
set_option maxHeartbeats 3200000 in
set_option maxRecDepth 10000 in
theorem backward_any (s : ByteArray) (A : Option Addr) (n c : Nat) (F : Option Addr) (m d : Nat) (fl : List Fl) (w : World) (hF : KRow Fl.κ w w.heap.size F m fl) (hn : n ≤ 100000) (hm : m ≤ 100000) :
    Calls Try.prog 34 #[.agg #[.string s, .slice A n c, .slice F m d]] w (RowsOut n (bck n fl m) w) := by
  obtain rfl : fl.length = m := hF.len (by decide)
  have HF := Lib.hid hF
  have HB := Lib.hid ((Below.refl w.heap.size w).alloc (Nat.le_refl _) (.cells #[.string s, .slice A n c, .slice F fl.length d] 25))
  have hcel := Cel.lit w #[.string s, .slice A n c, .slice F fl.length d] 25
  obtain ⟨i0, hi0, hz0, hz1, hz2⟩ := info_parts info_int
  obtain ⟨i1, hi1, hy0, hy1, hy2⟩ := info_parts info_rows
  clear hF
  go_enter Try.func34, Try.ntmps34
  go_upto_region 1 with (fail)
  generalize hwa : w.alloc _ = wa at *
  have hpa : w.heap.size < wa.heap.size := by rw [← hwa]; simp
  have HC := Lib.hid hcel
  obtain ⟨⟨z0, z1, z2⟩, _⟩ := tri_facts hcel
  clear hcel hwa
  go_upto_region 2 with (at_make; refine wpList_make_full _ rfl (.tmp 8) (.tmp 8) 56 rfl wa.heap.size 26 i1 _ 1 Try.underlying56 hi1 hy0 hy1 .i64 .i64 _ _ n rfl rfl rfl rfl (by rw [hy2]; omega) (by unfold maxLen; omega) (Nat.le_refl _) ?_; intro w1 ho1 hg1)
  have hC1 := own_cel ho1
  rw [made_one _ rfl] at hC1
  have HC1 := Lib.hid (HC.out.kept hg1 (by simp))
  have HB1 := Lib.hid (HB.out.grown hg1 HB.out.size (fun k hk => by cases hk))
  clear z0 z1 z2 ho1
  obtain ⟨⟨z0, z1, z2⟩, _⟩ := tri_facts HC1.out
  have hp1 : wa.heap.size < w1.heap.size := hC1.lt
  have hNX : NX w1 wa.heap.size w1.heap.size w1.heap.size n (bck n fl 0) := ⟨hp1, fun _ => none, fun _ => 0, hC1, fun i _ => ⟨⟨by decide, World.ownsRow_nil _ _ _ _⟩, fun a ha => by cases ha⟩, fun i j _ _ _ a b ha => by cases ha⟩
  have HNX := Lib.hid hNX
  clear hg1 hC1 hNX
  go_wp2_with fail
  clear z0 z1 z2
  go_loopw [13] (fun k wr => ∃ j : Nat, j ≤ fl.length ∧ k = .int .i64 j ∧ NX wr wa.heap.size w1.heap.size wr.heap.size n (bck n fl j) ∧ Cel wr w.heap.size [.string s, .slice A n c, .slice F fl.length d] ∧ Below w.heap.size w wr ∧ w1.heap.size ≤ wr.heap.size) (fun k _ => fl.length - (intOf k).toNat)
  case atStart => exact ⟨0, Nat.zero_le _, rfl, HNX.out, HC1.out, HB1.out, Nat.le_refl _⟩
  case round =>
    obtain ⟨j, hj, rfl, hnx, hc, hbr, hsr⟩ := hrel
    have hj0 : (0 : Int) ≤ (j : Int) := by omega
    have HNXr := Lib.hid hnx
    have HCr := Lib.hid hc
    have HBR := Lib.hid hbr
    clear hnx hc hbr HNX
    by_cases hlt : j < fl.length
    · have hI : (j : Int) < (fl.length : Int) := by omega
      obtain ⟨b, off, rfl, _, _⟩ := HF.out.2 (by omega)
      obtain ⟨f0, f1, f2⟩ := fl_at (HF.out.below HBR.out (Nat.le_refl _)) hlt
      have HBAD := Lib.hid (@bck_bad n fl j hlt)
      have HGOOD := Lib.hid (fun a b => @bck_good n fl j a b hlt)
      generalize fl[j]! = f at *
      have hba : Below wr.heap.size wr (wr.alloc (.cells #[.int .i64 f.frm, .int .i64 f.til, .string f.cond] 40)) := (Below.refl _ _).alloc (Nat.le_refl _) _
      have HNXa := Lib.hid (HNXr.out.kept (grown_none hba (Nat.le_refl _)) (by simp) (fun g hg => by cases hg))
      have HCa := Lib.hid (HCr.out.below hba (Nat.le_refl _))
      have HBa := Lib.hid (HBR.out.trans (hba.mono HBR.out.size))
      have HXa := Lib.hid (Cel.lit wr #[.int .i64 f.frm, .int .i64 f.til, .string f.cond] 40)
      have hsa : w1.heap.size ≤ (wr.alloc (.cells #[.int .i64 f.frm, .int .i64 f.til, .string f.cond] 40)).heap.size := by simp; omega
      clear hba HNXr HCr HBR
      go_upto_region 5 with (fail)
      generalize wr.alloc _ = wc at *
      obtain ⟨⟨z0, z1, z2⟩, _⟩ := tri_facts HCa.out
      obtain ⟨⟨n0, n1, n2⟩, _⟩ := tri_facts HXa.out
      go_wp2_with fail
      refine (joins_any s A n c (some ⟨b, off, none⟩) fl.length d f wc).mono ?_
      rintro e w4 ⟨rfl, hb4⟩
      have HNX4 := Lib.hid (HNXa.out.kept (grown_none hb4 (Nat.le_refl _)) (by simp) (fun g hg => by cases hg))
      have HC4 := Lib.hid (HCa.out.below hb4 (Nat.le_refl _))
      have HX4 := Lib.hid (HXa.out.below hb4 (Nat.le_refl _))
      have HB4 := Lib.hid (HBa.out.trans (hb4.mono HBa.out.size))
      have hs4 : w1.heap.size ≤ w4.heap.size := Nat.le_trans hsa hb4.size
      clear z0 z1 z2 n0 n1 n2 hb4 HNXa HCa HXa HBa f0 f1 f2
      cases hok : okF n f with
      | false =>
        have HEQ := Lib.hid (HBAD.out hok)
        go_wp2_with fail
        go_roundw
        case measure => simp [intOf]; omega
        case rel => exact ⟨j + 1, by omega, by go_num, by rw [HEQ.out]; exact HNX4.out.up (Nat.le_of_lt HX4.out.lt), HC4.out, HB4.out, hs4⟩
      | true =>
        obtain ⟨x, y, hx, hy, hxn, hyn⟩ := okF_iff.1 hok
        have HEQ := Lib.hid (HGOOD.out y x hok hy hx)
        obtain ⟨frm, til, cond⟩ := f
        dsimp only at hx hy
        subst hx
        subst hy
        clear hok HBAD HGOOD
        go_upto_region 6 with (fail)
        obtain ⟨X, c, hcx, hox, hax⟩ := HNX4.out.ex
        have hbd : Below w4.heap.size w4 w4.drew := (Below.refl _ _).drew
        have hba : Below w4.drew.heap.size w4.drew (w4.drew.alloc (.cells #[.int .i64 x] 3)) := (Below.refl _ _).alloc (Nat.le_refl _) _
        have hbda : Below w4.heap.size w4 (w4.drew.alloc (.cells #[.int .i64 x] 3)) := hbd.trans hba
        have HCXa := Lib.hid (hcx.below hbda (Nat.le_refl _))
        have HOXa := Lib.hid (fun i hi => (hox i hi).1.below hbda (Nat.le_refl _))
        have HAX := Lib.hid hax
        have HOB := Lib.hid (fun a ha => (hox y hyn).2 a ha)
        have HCa := Lib.hid (HC4.out.below hbda (Nat.le_refl _))
        have HXa := Lib.hid (HX4.out.below hbda (Nat.le_refl _))
        have HBa := Lib.hid (HB4.out.trans (hbda.mono HB4.out.size))
        obtain ⟨⟨n0, n1, n2⟩, _⟩ := tri_facts HX4.out
        obtain ⟨⟨n0', n1', n2'⟩, _⟩ := tri_facts (HX4.out.below hbd (Nat.le_refl _))
        have hcat : ((List.range n).map fun i => Value.slice (X i) (bck n fl j i).length (c i))[y]? = some (.slice (X y) (bck n fl j y).length (c y)) := by
          rw [List.getElem?_map, List.getElem?_range hyn]; rfl
        have k1 := hcx.cell y _ hcat
        have k1' := (hcx.below hbd (Nat.le_refl _)).cell y _ hcat
        have HR : Hid (KRow iκ (w4.drew.alloc (.cells #[.int .i64 x] 3)) (w4.drew.heap.size + 1) (some ⟨w4.drew.heap.size, 0, none⟩) 1 [(x : Int)]) := Lib.hid (KRow.lit (κ := iκ) w4.drew 3 [(x : Int)] #[.int .i64 x] rfl)
        have hlen : (bck n fl j y).length ≤ 1000000 := by have := bck_len n fl j y; omega
        have hbase : w1.heap.size ≤ (w4.drew.alloc (.cells #[.int .i64 x] 3)).heap.size := by have := hbda.size; omega
        have hx0 : (0 : Int) ≤ (y : Int) := by omega
        have hxI : (y : Int) < (n : Int) := by omega
        have hl1 : wa.heap.size < w4.heap.size := hcx.lt
        have hl2 : wr.heap.size < w4.heap.size := HX4.out.lt
        have hl1' : ¬ wa.heap.size = w4.heap.size := by omega
        have hl2' : ¬ wr.heap.size = w4.heap.size := by omega
        clear hcx hox hax hbd hba hbda
        go_region_law (refine step_append_k (κ := iκ) rfl (.tmp 27) (.tmp 30) 26 3 i0 _ 8 Try.underlying26 hi0 hz0 hz1 hz2 rfl rfl _ w1.heap.size _ (X y) (bck n fl j y).length (c y) ((bck n fl j y).map Int.ofNat) ⟨w4.drew.heap.size, 0, none⟩ (x : Int) rfl (HOXa.out y hyn) rfl HR.out hlen (by decide) hbase ?_; intro X' c' w' ho hg; obtain ⟨hput, hcel⟩ := NX.put (by omega) HCXa.out HOXa.out HAX.out hyn hg ho; have g1 := hcel.cell y _ hcat; have g2 := hcel.froz y (by simpa using hyn); have hrw := own_ne (c := c y) (k := (bck n fl j y).length) (A := X y) (b := wr.heap.size) (fun a ha e => by have := HOB.out a ha; omega); obtain ⟨⟨m0, m1, m2⟩, _⟩ := tri_facts (HXa.out.kept hg.grown hrw))
        all_goals
          have hrc := own_ne (c := c y) (k := (bck n fl j y).length) (A := X y) (b := w.heap.size) (fun a ha e => by have := ((HOXa.out y hyn).block ha).1; omega)
          have hgs : w'.grownBy (w'.setCell ⟨wa.heap.size, y, none⟩ (.slice X' ((bck n fl j y).length + 1) c')) (some wa.heap.size) := grown_setCell w' ⟨wa.heap.size, y, none⟩ _
          have HCs := Lib.hid ((HCa.out.kept hg.grown hrc).kept hgs (fun e => by have := Option.some.inj e; omega))
          have HBs := Lib.hid ((HBa.out.trans ((hg.below (HOXa.out y hyn).2 hbase).mono (by omega))).setCell (p := ⟨wa.heap.size, y, none⟩) (by show w.heap.size ≤ wa.heap.size; omega) (.slice X' ((bck n fl j y).length + 1) c'))
          have HPUT := Lib.hid hput
          have hss : w1.heap.size ≤ (w'.setCell ⟨wa.heap.size, y, none⟩ (.slice X' ((bck n fl j y).length + 1) c')).heap.size := by have := hg.size; simp at this ⊢; omega
          have hse : (w'.setCell ⟨wa.heap.size, y, none⟩ (.slice X' ((bck n fl j y).length + 1) c')).heap.size = w'.heap.size := by simp
          rw [← hse] at HPUT
          clear hrc hgs hse hput hcel g1 g2 hrw m0 m1 m2 hg ho HXa HCa HBa HNX4 HC4 HX4 HB4 n0 n1 n2 n0' n1' n2' k1 k1' hl1 hl2 hl1' hl2'
          generalize w'.setCell _ _ = wn at *
          go_wp2_with fail
          go_roundw
          case measure => simp [intOf]; omega
          case rel => exact ⟨j + 1, by omega, by go_num, by rw [← HEQ.out]; exact HPUT.out, HCs.out, HBs.out, hss⟩
    · obtain rfl : j = fl.length := by omega
      have hI : ¬ ((fl.length : Nat) : Int) < (fl.length : Int) := by omega
      go_wp2
      go_ret
      exact ⟨⟨wa.heap.size, w1.heap.size, rfl, HNXr.out, Nat.le_of_lt hpa⟩, HBR.out⟩
end Pr
end Go.Proofs.Ytjdgloofdafebaa
