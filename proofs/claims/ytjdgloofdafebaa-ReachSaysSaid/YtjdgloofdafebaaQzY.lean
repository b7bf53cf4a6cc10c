/- Walks: the document's Longest. -/
import Derived.Test.YtjdgloofdafebaaQyY
import Derived.Test.YtjdgloofdafebaaQnY
import Derived.Test.YtjdgloofdafebaaYReachSays4
namespace Go.Proofs.Ytjdgloofdafebaa
open Go.RowKit

namespace Pr
/-- Where the flows from the k-th on lead from v. -/
def rst (n : Nat) (fl : List Fl) (k v : Nat) : List Nat := ((fl.drop k).filter fun f => okF n f && f.frm == (v : Int)).map fun f => f.til.toNat
theorem rst_zero (n : Nat) (fl : List Fl) (v : Nat) : rst n fl 0 v = nxt n fl fl.length v := by
  unfold rst nxt
  rw [List.drop_zero, List.take_length]
theorem rst_end (n : Nat) (fl : List Fl) (v : Nat) : rst n fl fl.length v = [] := by
  unfold rst
  rw [List.drop_length]; rfl
theorem rst_drop {k : Nat} {fl : List Fl} (hk : k < fl.length) : fl.drop k = fl[k]! :: fl.drop (k + 1) := by
  rw [getElem!_pos fl k hk]
  exact List.drop_eq_getElem_cons hk
theorem rst_skip {n k v : Nat} {fl : List Fl} (hk : k < fl.length) (h : okF n fl[k]! = false ∨ (fl[k]!).frm ≠ (v : Int)) : rst n fl k v = rst n fl (k + 1) v := by
  unfold rst
  rw [rst_drop hk, List.filter_cons]
  rcases h with h | h
  · rw [h]; simp
  · have e : ((fl[k]!).frm == (v : Int)) = false := by rw [beq_eq_false_iff_ne]; exact h
    rw [e]; simp
theorem rst_take {n k v x : Nat} {fl : List Fl} (hk : k < fl.length) (h : okF n fl[k]! = true) (h1 : (fl[k]!).frm = (v : Int)) (h2 : (fl[k]!).til = (x : Int)) : rst n fl k v = x :: rst n fl (k + 1) v := by
  unfold rst
  rw [rst_drop hk]
  generalize fl[k]! = g at *
  rw [List.filter_cons, h, h1]
  simp [h2]
theorem wvn_set (F : Nat → Nat) (n i y : Nat) : (wv (fun v => (F v : Int)) n).set i (.int .i64 (y : Int)) = wv (fun v => (Rc.put F i y v : Int)) n := by
  unfold wv
  rw [set_range]
  congr 1
  funext v
  unfold Rc.put
  by_cases e : v = i <;> simp [e]
section
variable (s : ByteArray) (A : Option Addr) (n c : Nat) (F : Option Addr) (m d : Nat) (fl : List Fl)
set_option maxHeartbeats 6400000 in
set_option maxRecDepth 10000 in
theorem reflongest_any (w : World) (hF : KRow Fl.κ w w.heap.size F m fl) (hn : n ≤ 100000) (hm : m ≤ 100000) :
    Calls Try.prog 14 #[.agg #[.string s, .slice A n c, .slice F m d]] w (LongOut n (nxt n fl m) w) := by
  obtain ⟨i0, hi0, hz0, hz1, hz2⟩ := info_parts info_int
  obtain rfl : fl.length = m := hF.len (by decide)
  have hba : Below w.heap.size w (w.alloc (.cells #[.string s, .slice A n c, .slice F fl.length d] 25)) := (Below.refl _ _).alloc (Nat.le_refl _) _
  have HC := Lib.hid (Cel.lit w #[.string s, .slice A n c, .slice F fl.length d] 25)
  have HFW := Lib.hid hF
  have HB := Lib.hid hba
  have HR0 := Lib.hid (rst_zero n fl)
  have HRS := Lib.hid (fun (k v : Nat) => rst_skip (n := n) (k := k) (v := v) (fl := fl))
  have HRT := Lib.hid (fun (k v x : Nat) => rst_take (n := n) (k := k) (v := v) (x := x) (fl := fl))
  have HLM := Lib.hid (fun (k v x : Nat) => nxt_of (n := n) (i := k) (x := v) (y := x) (fl := fl))
  have HLT := Lib.hid (fun u v (h : v ∈ nxt n fl fl.length u) => (nxt_lt h).2)
  have HR := Lib.hid (reforder_any s A n c F fl.length d fl _ ((hF.below hba (Nat.le_refl _)).mono hba.size) hn hm)
  clear hF hba
  obtain ⟨L, hL⟩ : ∃ L, L = nxt n fl fl.length := ⟨_, rfl⟩
  rw [← hL] at HR HR0 HLT HLM ⊢
  clear hL
  go_enter Try.func14, Try.ntmps14
  go_upto_region 1 with (fail)
  generalize w.alloc _ = w1 at *
  obtain ⟨⟨z0, z1, z2⟩, _⟩ := tri_facts HC.out
  go_wp2_with fail
  refine HR.out.mono ?_
  rintro e w2 ⟨ho, hb2⟩
  have HB2 := Lib.hid (HB.out.trans (hb2.mono HB.out.size))
  have HC2 := Lib.hid (HC.out.below hb2 (Nat.le_refl _))
  have HTOP := Lib.hid (Rc.ord_top n L)
  clear hb2 HR HC z0 z1 z2
  obtain ⟨⟨z0, z1, z2⟩, _⟩ := tri_facts HC2.out
  rcases ho with ⟨h1, X, cc, rfl, h2⟩ | ⟨h1, rfl⟩
  · have HO := Lib.hid h2
    have HEN := Lib.hid h1
    clear h1 h2
    go_upto_region 5 with (at_make; refine wpList_make_full _ rfl (.tmp 21) (.tmp 21) 26 rfl w2.heap.size 3 i0 _ 1 Try.underlying26 hi0 hz0 hz1 .i64 .i64 _ _ n rfl rfl rfl rfl (by rw [hz2]; omega) (by unfold maxLen; omega) (Nat.le_refl _) ?_; intro w3 ho3 hg3)
    have hY := own_cel ho3
    rw [made_one _ rfl] at hY
    have HY : Hid (Cel w3 w2.heap.size (wv (fun _ => ((0 : Nat) : Int)) n)) := Lib.hid hY
    have HB3 := Lib.hid ((Below.refl w2.heap.size w2).grown hg3 (Nat.le_refl _) (fun k hk => by cases hk))
    have hl2 : w.heap.size < w2.heap.size := HC2.out.lt
    clear hg3 hY ho3 z0 z1 z2
    obtain ⟨o, hoo⟩ : ∃ o, Rc.ord n L = o := ⟨_, rfl⟩
    rw [hoo] at HO HEN HTOP
    have HOO := Lib.hid hoo
    have hrk : ∀ x, Rc.rank o x ≤ n := fun x => by unfold Rc.rank; have := List.idxOf_le_length (l := o) (a := x); rw [HEN.out] at this; exact this
    have HRK := Lib.hid hrk
    clear hoo hrk
    have en : IntKind.i64.wrap ((n : Int) - 1) = (n : Int) - 1 := by rw [IntKind.wrap_i64]; omega
    go_wp2_with fail
    go_loopw [7, 8] (fun s k wr => ∃ (j mx : Nat) (Fv : Nat → Nat), j ≤ n ∧ s = .int .i64 mx ∧ k = .int .i64 j ∧ Cel wr w2.heap.size (wv (fun v => (Fv v : Int)) n) ∧ Below w2.heap.size w2 wr ∧ Rc.lgM L (o.drop j) mx Fv = Rc.lgM L o 0 (fun _ => 0) ∧ (∀ x, Fv x ≤ Rc.rank o x) ∧ mx ≤ n) (fun _ k _ => n - (intOf k).toNat)
    case atStart => exact ⟨0, 0, fun _ => 0, Nat.zero_le _, rfl, rfl, HY.out, HB3.out, rfl, fun _ => Nat.zero_le _, Nat.zero_le _⟩
    case round =>
      obtain ⟨j, mx, Fv, hj, rfl, rfl, hy, hb, hlg, hfr, hmx⟩ := hrel
      have hj0 : (0 : Int) ≤ (j : Int) := by omega
      have HYr := Lib.hid hy
      have HBr := Lib.hid hb
      have HLG := Lib.hid hlg
      have HFR := Lib.hid hfr
      clear hy hb hlg hfr HY HB3
      by_cases hlt : j < n
      · have hI : (j : Int) < (n : Int) := by omega
        have hol : j < o.length := by rw [HEN.out]; exact hlt
        have HROW := Lib.hid (HO.out.row)
        obtain ⟨bo, off, rfl, _, _⟩ := HROW.out.2 (by omega)
        have hgv : (o.map Int.ofNat)[j]! = (o[j] : Int) := by
          rw [getElem!_pos (o.map Int.ofNat) j (by simpa using hol)]; simp
        have HGV := Lib.hid hgv
        have hvn : o[j] < n := HTOP.out.lt _ (List.getElem_mem hol)
        have hdr : o.drop j = o[j] :: o.drop (j + 1) := List.drop_eq_getElem_cons hol
        generalize o[j] = v at *
        have hlg := HLG.out
        rw [hdr] at hlg
        have HLG2 : Hid (Rc.lgM L (o.drop (j + 1)) (Rc.relaxM v (L v) mx Fv) (Rc.relax v (L v) Fv) = Rc.lgM L o 0 (fun _ => 0)) := hlg
        have hv0 : (0 : Int) ≤ (v : Int) := by omega
        have hvI : (v : Int) < (n : Int) := by omega
        clear hgv hdr hlg
        go_wp2_with fail
        go_loopw [7, 9] (fun q k wx => ∃ (kk m2 : Nat) (F2 : Nat → Nat), kk ≤ fl.length ∧ k = .int .i64 kk ∧ q = .int .i64 m2 ∧ Cel wx w2.heap.size (wv (fun v => (F2 v : Int)) n) ∧ Below w2.heap.size w2 wx ∧ Rc.relax v (rst n fl kk v) F2 = Rc.relax v (L v) Fv ∧ Rc.relaxM v (rst n fl kk v) m2 F2 = Rc.relaxM v (L v) mx Fv ∧ (∀ x, F2 x ≤ Rc.rank o x) ∧ m2 ≤ n) (fun _ k _ => fl.length - (intOf k).toNat)
        case atStart => exact ⟨0, mx, Fv, Nat.zero_le _, rfl, rfl, HYr.out, HBr.out, by rw [HR0.out], by rw [HR0.out], HFR.out, hmx⟩
        case round =>
          clear HYr HBr
          obtain ⟨kk, m2, F2, hkk, rfl, rfl, hy, hb, hre, hrm, hf2, hm2⟩ := hrel
          have hk0 : (0 : Int) ≤ (kk : Int) := by omega
          have HYs := Lib.hid hy
          have HBs := Lib.hid hb
          have HRE := Lib.hid hre
          have HRM := Lib.hid hrm
          have HF2 := Lib.hid hf2
          clear hy hb hre hrm hf2
          obtain ⟨⟨z0, z1, z2⟩, _⟩ := tri_facts (HC2.out.below HBs.out (Nat.le_refl _))
          by_cases hlk : kk < fl.length
          · have hJ : (kk : Int) < (fl.length : Int) := by omega
            obtain ⟨b1, off1, rfl, _, _⟩ := HFW.out.2 (by omega)
            obtain ⟨y0, y1, y2⟩ := fl_at (HFW.out.below (HB2.out.trans (HBs.out.mono HB2.out.size)) (Nat.le_refl _)) hlk
            have g1 := iκ_cells (HROW.out.below HBs.out (Nat.le_refl _)) hlt
            rw [HGV.out] at g1
            have HSK := Lib.hid (HRS.out kk v hlk)
            have HTK := Lib.hid (fun x => HRT.out kk v x hlk)
            have HMM := Lib.hid (fun x => HLM.out kk v x hlk)
            have HOK := Lib.hid (within_okF (n := n) (f := fl[kk]!))
            generalize fl[kk]! = g at *
            obtain ⟨frm, til, cond⟩ := g
            dsimp only at y0 y1 y2
            by_cases hfi : frm = (v : Int)
            · subst hfi
              have hB : ((v : Int) == (v : Int)) = true := by simp
              have W1 := Lib.hid (fun W => refwithin_any til 0 ((n : Int) - 1) W)
              have hok := HOK.out
              try dsimp only at hok
              have h2 : within (v : Int) 0 ((n : Int) - 1) = true := by
                unfold within
                simp only [Bool.and_eq_true, decide_eq_true_eq]
                omega
              rw [h2, Bool.true_and] at hok
              go_wp2_with fail
              refine (W1.out _).mono ?_
              rintro e wx ⟨rfl, hw⟩
              subst hw
              cases h1 : within til 0 ((n : Int) - 1) with
              | false =>
                rw [h1] at hok
                have HE := Lib.hid (HSK.out (.inl hok.symm))
                clear W1 h2 hok
                have hre := HRE.out
                have hrm := HRM.out
                rw [HE.out] at hre hrm
                have HRE2 := Lib.hid hre
                have HRM2 := Lib.hid hrm
                clear hre hrm
                go_wp2_with fail
                go_roundw
                case measure => exact measF hlk
                case rel => exact ⟨kk + 1, m2, F2, hlk, by go_num, rfl, HYs.out, HBs.out, HRE2.out, HRM2.out, HF2.out, hm2⟩
              | true =>
                rw [h1] at hok
                obtain ⟨x, rfl, hxn⟩ := within_nat h1
                have HE := Lib.hid (HTK.out x hok.symm (by first | trivial | rfl) (by first | trivial | rfl))
                have hmem := HMM.out x hok.symm (by first | trivial | rfl) (by first | trivial | rfl)
                clear W1 h1 h2 hok
                have hrl := HTOP.out.rank HEN.out hvn hxn hmem
                have hx0 : (0 : Int) ≤ (x : Int) := by omega
                have hxI : (x : Int) < (n : Int) := by omega
                have u1 := HYs.out.cell x _ (wv_at _ hxn)
                have u2 := HYs.out.froz x (by unfold wv; simpa using hxn)
                have u3 := HYs.out.cell v _ (wv_at _ hvn)
                have hfx : F2 x ≤ n := Nat.le_trans (HF2.out x) (HRK.out x)
                have hfv2 : F2 v ≤ n := Nat.le_trans (HF2.out v) (HRK.out v)
                have hw : IntKind.i64.wrap ((F2 v : Int) + 1) = (F2 v : Int) + 1 := by rw [IntKind.wrap_i64]; omega
                have hcs := HYs.out.set (i := x) (by unfold wv; simpa using hxn) (.int .i64 ((max (F2 x) (F2 v + 1) : Nat) : Int))
                rw [wvn_set] at hcs
                have HS := Lib.hid (hcs.below (show Below _ _ (wr.setCell ⟨w2.heap.size, x, none⟩ (.int .i64 ((max (F2 x) (F2 v + 1) : Nat) : Int))).drew from (Below.refl _ _).drew) (Nat.le_refl _))
                have HBS := Lib.hid ((HBs.out.setCell (p := ⟨w2.heap.size, x, none⟩) (Nat.le_refl _) (.int .i64 ((max (F2 x) (F2 v + 1) : Nat) : Int))).drew)
                have hre := HRE.out
                have hrm := HRM.out
                rw [HE.out] at hre hrm
                have HRE2 : Hid (Rc.relax v (rst n fl (kk + 1) v) (Rc.put F2 x (max (F2 x) (F2 v + 1))) = Rc.relax v (L v) Fv) := hre
                have HRM2 : Hid (Rc.relaxM v (rst n fl (kk + 1) v) (max m2 (max (F2 x) (F2 v + 1))) (Rc.put F2 x (max (F2 x) (F2 v + 1))) = Rc.relaxM v (L v) mx Fv) := hrm
                have HFR2 : Hid (∀ y, Rc.put F2 x (max (F2 x) (F2 v + 1)) y ≤ Rc.rank o y) := fun y => by
                  have h1 := HF2.out y
                  have h2 := HF2.out v
                  by_cases e : y = x
                  · subst e; rw [Rc.put_at]; omega
                  · rw [Rc.put_ne F2 _ e]; exact h1
                have hfy : max (F2 x) (F2 v + 1) ≤ n := by have h1 := HFR2.out x; rw [Rc.put_at] at h1; exact Nat.le_trans h1 (HRK.out x)
                clear hre hrm hrl hcs
                go_wp2_with fail
                apply once
                case h =>
                  intro hr
                  go_region
                  exact hr
                rw [show (if ((F2 x : Nat) : Int) < (F2 v : Int) + 1 then (F2 v : Int) + 1 else (F2 x : Int)) = ((max (F2 x) (F2 v + 1) : Nat) : Int) from by split <;> omega]
                change Exit.then _ _ _ _ (wr.setCell ⟨w2.heap.size, x, none⟩ (.int .i64 ((max (F2 x) (F2 v + 1) : Nat) : Int))).drew
                generalize (wr.setCell _ _).drew = ws at *
                have u4 := HS.out.cell x _ (wv_at _ hxn)
                rw [Rc.put_at] at u4
                clear u1 u2 u3 g1 hw y0 y1 y2
                generalize max (F2 x) (F2 v + 1) = fx at *
                rcases Nat.lt_or_ge m2 fx with hle | hle
                · have h1 : (m2 : Int) < (fx : Int) := by omega
                  have h2 : ¬ (fx : Int) < (m2 : Int) := by omega
                  have h4 : ¬ (fx : Int) ≤ (m2 : Int) := by omega
                  have h5 : (m2 : Int) ≤ (fx : Int) := by omega
                  have hmx3 : max m2 fx = fx := by omega
                  rw [hmx3] at HRM2
                  clear hmx3 hle
                  go_wp2_with fail
                  go_roundw
                  case measure => exact measF hlk
                  case rel => exact ⟨kk + 1, fx, _, hlk, by go_num, rfl, HS.out, HBS.out, HRE2.out, HRM2.out, HFR2.out, hfy⟩
                · have h1 : ¬ (m2 : Int) < (fx : Int) := by omega
                  have h5 : (fx : Int) ≤ (m2 : Int) := by omega
                  have hmx3 : max m2 fx = m2 := by omega
                  rw [hmx3] at HRM2
                  clear hmx3 hle
                  go_wp2_with fail
                  go_roundw
                  case measure => exact measF hlk
                  case rel => exact ⟨kk + 1, m2, _, hlk, by go_num, rfl, HS.out, HBS.out, HRE2.out, HRM2.out, HFR2.out, hm2⟩
            · have hB : (frm == (v : Int)) = false := by rw [beq_eq_false_iff_ne]; exact hfi
              have HE := Lib.hid (HSK.out (.inr hfi))
              clear hfi
              have hre := HRE.out
              have hrm := HRM.out
              rw [HE.out] at hre hrm
              have HRE2 := Lib.hid hre
              have HRM2 := Lib.hid hrm
              clear hre hrm
              go_wp2_with fail
              go_roundw
              case measure => exact measF hlk
              case rel => exact ⟨kk + 1, m2, F2, hlk, by go_num, rfl, HYs.out, HBs.out, HRE2.out, HRM2.out, HF2.out, hm2⟩
          · obtain rfl : kk = fl.length := by omega
            have hJ : ¬ ((fl.length : Int) < (fl.length : Int)) := by omega
            have hre := HRE.out
            have hrm := HRM.out
            rw [rst_end] at hre hrm
            have HRE2 : Hid (F2 = Rc.relax v (L v) Fv) := hre
            have HRM2 : Hid (m2 = Rc.relaxM v (L v) mx Fv) := hrm
            clear hre hrm
            go_wp2_with fail
            go_roundw
            case measure => exact measF hlt
            case rel => exact ⟨j + 1, m2, F2, hlt, rfl, by go_num, HYs.out, HBs.out, by rw [HRE2.out, HRM2.out]; exact HLG2.out, HF2.out, hm2⟩
      · obtain rfl : j = n := by omega
        have hI : ¬ ((j : Nat) : Int) < (j : Int) := by omega
        have hlg := HLG.out
        rw [List.drop_of_length_le (by rw [HEN.out]; exact Nat.le_refl _)] at hlg
        have HMX : Hid (mx = Rc.lg L o) := Lib.hid (Eq.trans hlg (Rc.lg_same HTOP.out HEN.out HLT.out))
        have HF : Hid (LongOut j L w (.returned (.tuple #[.int .i64 (mx : Int), .bool true])) wr) := ⟨.inl ⟨by rw [HOO.out]; exact HEN.out, by rw [HMX.out, HOO.out]⟩, HB2.out.trans (HBr.out.mono HB2.out.size)⟩
        clear hlg
        go_wp2
        go_ret2
        exact HF.out
  · have HF : Hid (LongOut n L w (.returned (.tuple #[.int .i64 0, .bool false])) w2) := ⟨.inr ⟨h1, rfl⟩, HB2.out⟩
    clear h1
    go_wp2
    go_ret2
    exact HF.out
end
end Pr
end Go.Proofs.Ytjdgloofdafebaa
