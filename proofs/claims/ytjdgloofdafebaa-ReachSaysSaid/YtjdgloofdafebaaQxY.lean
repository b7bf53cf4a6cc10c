/- Walks: the document's To. -/
import Derived.Test.YtjdgloofdafebaaQwY
namespace Go.Proofs.Ytjdgloofdafebaa
open Go.RowKit

namespace Pr
theorem bv_set (f : Nat → Bool) (v n : Nat) (b : Bool) : (bv f n).set v (.bool b) = bv (fun i => if i = v then b else f i) n := by
  unfold bv
  rw [set_range]
  congr 1
  funext i
  by_cases e : i = v <;> simp [e]
theorem comes_turn {n j a m : Nat} {fl : List Fl} (hj : j < n) (ha : a < n) : Comes n (nxt n fl m) (j : Int) a ↔ Comes n (bck n fl m) (a : Int) j := by
  constructor
  · rintro ⟨b, e, _, h⟩
    obtain rfl : j = b := by omega
    exact ⟨a, rfl, ha, h.turn fun x y hxy => nxt_bck.1 hxy⟩
  · rintro ⟨b, e, _, h⟩
    obtain rfl : a = b := by omega
    exact ⟨j, rfl, hj, h.turn fun x y hxy => nxt_bck.2 hxy⟩
section
variable (s : ByteArray) (A : Option Addr) (n c : Nat) (F : Option Addr) (m d : Nat) (fl : List Fl)
set_option maxHeartbeats 3200000 in
set_option maxRecDepth 10000 in
theorem refto_any (node : Int) (w : World) (hF : KRow Fl.κ w w.heap.size F m fl) (hn : n ≤ 100000) (hm : m ≤ 100000) :
    Calls Try.prog 19 #[.agg #[.string s, .slice A n c, .slice F m d], .int .i64 node] w (MarksOut n (Comes n (bck n fl m) node) w) := by
  obtain ⟨i2, hi2, hy0, hy1, hy2⟩ := info_parts info_bool
  have hba : Below w.heap.size w (w.alloc (.cells #[.string s, .slice A n c, .slice F m d] 25)) := (Below.refl _ _).alloc (Nat.le_refl _) _
  have HC := Lib.hid (Cel.lit w #[.string s, .slice A n c, .slice F m d] 25)
  have HFW := Lib.hid hF
  have HB := Lib.hid hba
  have hsz : (w.alloc (.cells #[.string s, .slice A n c, .slice F m d] 25)).heap.size = w.heap.size + 1 := by simp
  clear hF hba
  go_enter Try.func19, Try.ntmps19
  go_upto_region 1 with (fail)
  generalize w.alloc _ = wa at *
  obtain ⟨⟨z0, z1, z2⟩, _⟩ := tri_facts HC.out
  go_upto_region 2 with (at_make; refine wpList_make_full _ rfl (.tmp 10) (.tmp 10) 44 rfl wa.heap.size 4 i2 _ 1 Try.underlying44 hi2 hy0 hy1 .i64 .i64 _ _ n rfl rfl rfl rfl (by rw [hy2]; omega) (by unfold maxLen; omega) (Nat.le_refl _) ?_; intro w1 ho1 hg1)
  have hM := own_cel ho1
  rw [made_one _ rfl] at hM
  have HM : Hid (Cel w1 (w.heap.size + 1) (bv (fun _ => false) n)) := Lib.hid (by rw [← hsz]; exact hM)
  have hbm := (Below.refl wa.heap.size wa).grown hg1 (Nat.le_refl _) (fun k hk => by cases hk)
  have HB1 := Lib.hid (HB.out.trans (hbm.mono HB.out.size))
  have HC1 := Lib.hid (HC.out.below hbm (Nat.le_refl _))
  clear hg1 hM ho1 HC HB hbm z0 z1 z2 hsz
  generalize hib : w.heap.size + 1 = ib at *
  have hibq : w.heap.size < ib := by omega
  have HGE := Lib.hid (show w.heap.size ≤ ib by omega)
  clear hib
  have en : IntKind.i64.wrap ((n : Int) - 1) = (n : Int) - 1 := by rw [IntKind.wrap_i64]; omega
  have W0 := Lib.hid (fun W => refwithin_any node 0 ((n : Int) - 1) W)
  go_wp2_with fail
  go_loopw [6] (fun i wr => ∃ (f : Nat → Bool) (j : Nat), j ≤ n ∧ i = .int .i64 j ∧ (∀ v, v < n → (f v = true ↔ v < j ∧ Comes n (bck n fl m) node v)) ∧ Cel wr ib (bv f n) ∧ Cel wr w.heap.size [.string s, .slice A n c, .slice F m d] ∧ Below w.heap.size w wr) (fun i _ => n - (intOf i).toNat)
  case atStart => exact ⟨_, 0, Nat.zero_le _, rfl, fun v _ => ⟨fun h => (by cases h), fun h => absurd h.1 (Nat.not_lt_zero v)⟩, HM.out, HC1.out, HB1.out⟩
  case round =>
    obtain ⟨f, j, hj, rfl, hf, hmk, hck, hbk⟩ := hrel
    have HFV := Lib.hid hf
    have HMK := Lib.hid hmk
    have HCK := Lib.hid hck
    have HBK := Lib.hid hbk
    obtain ⟨⟨z0, z1, z2⟩, _⟩ := tri_facts hck
    have hj0 : (0 : Int) ≤ (j : Int) := by omega
    clear hf hmk hck hbk HM HC1 HB1
    by_cases hlt : j < n
    · have hI : (j : Int) < (n : Int) := by omega
      have HR := Lib.hid (reffrom_any s A n c F m d fl (j : Int) wr ((HFW.out.below HBK.out (Nat.le_refl _)).mono HBK.out.size) hn hm)
      go_wp2_with fail
      refine HR.out.mono ?_
      rintro e w2 ⟨⟨g, f2, rfl, h2, h3, h4⟩, h5⟩
      have hlow := HMK.out.lt
      have hgi : ib < g := by omega
      have HM2 := Lib.hid (HMK.out.below h5 (Nat.le_refl _))
      have HC2 := Lib.hid (HCK.out.below h5 (Nat.le_refl _))
      have HB2 := Lib.hid (HBK.out.trans (h5.mono HBK.out.size))
      have H2 := Lib.hid h2
      have H4 := Lib.hid h4
      clear h2 h3 h4 h5 z0 z1 z2 HR HMK HCK HBK
      go_wp2_with fail
      refine (W0.out _).mono ?_
      rintro e wx ⟨rfl, rfl⟩
      cases hpl : within node 0 ((n : Int) - 1) with
      | false =>
        have hno : ∀ v, ¬ Comes n (bck n fl m) node v := by
          rintro v ⟨a, rfl, ha, _⟩
          unfold within at hpl
          simp only [Bool.and_eq_false_iff, decide_eq_false_iff_not] at hpl
          omega
        have HNO := Lib.hid hno
        clear hno hpl
        go_wp2_with fail
        go_roundw
        case measure => exact measF hlt
        case rel => exact ⟨f, j + 1, hlt, by go_num, fun v hv => ⟨fun h => absurd ((HFV.out v hv).1 h).2 (HNO.out v), fun h => absurd h.2 (HNO.out v)⟩, HM2.out, HC2.out, HB2.out⟩
      | true =>
        obtain ⟨a, rfl, han⟩ := within_nat hpl
        have ha0 : (0 : Int) ≤ (a : Int) := by omega
        have haI : (a : Int) < (n : Int) := by omega
        have c1 := H2.out.cell a _ (bv_at f2 han)
        have m1 := HM2.out.cell j _ (bv_at f hlt)
        have m2 := HM2.out.froz j (by unfold bv; simpa using hlt)
        have hq := (H4.out a han).trans (comes_turn (m := m) (fl := fl) hlt han)
        have HQ := Lib.hid hq
        have hmk2 := HM2.out.set (i := j) (by unfold bv; simpa using hlt) (.bool (f2 a))
        rw [bv_set] at hmk2
        have HM3 := Lib.hid hmk2
        have HC3 := Lib.hid (HC2.out.kept (grown_setCell _ ⟨ib, j, none⟩ (.bool (f2 a))) (fun e => by have e1 : ib = w.heap.size := Option.some.inj e; omega))
        have HB3 := Lib.hid (HB2.out.setCell (p := ⟨ib, j, none⟩) HGE.out (.bool (f2 a)))
        have hnew : Hid (∀ v, v < n → ((if v = j then f2 a else f v) = true ↔ v < j + 1 ∧ Comes n (bck n fl m) (a : Int) v)) := Lib.hid (fun v hv => by
          by_cases e : v = j
          · subst e
            rw [if_pos rfl]
            exact HQ.out.trans ⟨fun h => ⟨Nat.lt_succ_self _, h⟩, fun h => h.2⟩
          · rw [if_neg e]
            exact (HFV.out v hv).trans ⟨fun h => ⟨by omega, h.2⟩, fun h => ⟨by omega, h.2⟩⟩)
        clear hq hmk2 hpl
        generalize f2 a = fa at *
        go_wp2_with fail
        go_roundw
        case measure => exact measF hlt
        case rel => exact ⟨fun v => if v = j then fa else f v, j + 1, hlt, by go_num, hnew.out, HM3.out, HC3.out, HB3.out⟩
    · obtain rfl : j = n := by omega
      have hI : ¬ ((j : Int) < (j : Int)) := by omega
      have HZ := Lib.hid (fun v (hv : v < j) => (HFV.out v hv).trans ⟨fun h => h.2, fun h => ⟨hv, h⟩⟩)
      go_wp2
      go_ret
      exact ⟨⟨ib, f, rfl, HMK.out, HGE.out, HZ.out⟩, HBK.out⟩
end
end Pr
end Go.Proofs.Ytjdgloofdafebaa
