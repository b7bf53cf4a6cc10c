/- Walks: the document's From. -/
import Derived.Test.YtjdgloofdafebaaYReachSays4
import Derived.Test.YtjdgloofdafebaaHaY
namespace Go.Proofs.Ytjdgloofdafebaa
open Go.RowKit

namespace Pr
theorem measF {n k : Nat} (h : k < n) : n - (intOf (.int .i64 ((k : Int) + 1))).toNat < n - (intOf (.int .i64 (k : Int))).toNat := by
  show n - ((k : Int) + 1).toNat < n - ((k : Int)).toNat
  omega
theorem within_okF {n : Nat} {f : Fl} : (within f.frm 0 ((n : Int) - 1) && within f.til 0 ((n : Int) - 1)) = okF n f := by
  rw [Bool.eq_iff_iff]
  unfold within okF
  simp only [Bool.and_eq_true, decide_eq_true_eq]
  omega
theorem within_nat {x : Int} {n : Nat} (h : within x 0 ((n : Int) - 1) = true) : ∃ a : Nat, x = a ∧ a < n := by
  unfold within at h
  simp only [Bool.and_eq_true, decide_eq_true_eq] at h
  exact ⟨x.toNat, by omega, by omega⟩
theorem Shut.less {n a j : Nat} {fl : List Fl} {f : Nat → Bool} (h : Shut n fl a f j) {k : Nat} (hk : k ≤ j) : Shut n fl a f k := fun i hi => h i (by omega)
theorem bv_mark (f : Nat → Bool) (v n : Nat) : (bv f n).set v (.bool true) = bv (Rc.mark f v) n := by
  unfold bv Rc.mark
  apply List.ext_getElem? 
  intro i
  by_cases h : i < n
  · by_cases e : v = i
    · subst e
      rw [List.getElem?_set_self (by simpa using h)]
      simp [List.getElem?_range h]
    · rw [List.getElem?_set_ne e]
      have e' : ¬ i = v := fun x => e x.symm
      simp [List.getElem?_range h, e']
  · rw [List.getElem?_eq_none (by simp; omega), List.getElem?_eq_none (by simp; omega)]
section
variable (s : ByteArray) (A : Option Addr) (n c : Nat) (F : Option Addr) (m d : Nat) (fl : List Fl)
set_option maxHeartbeats 6400000 in
set_option maxRecDepth 10000 in
theorem reffrom_any (node : Int) (w : World) (hF : KRow Fl.κ w w.heap.size F m fl) (hn : n ≤ 100000) (hm : m ≤ 100000) :
    Calls Try.prog 17 #[.agg #[.string s, .slice A n c, .slice F m d], .int .i64 node] w (MarksOut n (Comes n (nxt n fl m) node) w) := by
  obtain ⟨i2, hi2, hy0, hy1, hy2⟩ := info_parts info_bool
  obtain rfl : fl.length = m := hF.len (by decide)
  have hba : Below w.heap.size w (w.alloc (.cells #[.string s, .slice A n c, .slice F fl.length d] 25)) := (Below.refl _ _).alloc (Nat.le_refl _) _
  have HC := Lib.hid (Cel.lit w #[.string s, .slice A n c, .slice F fl.length d] 25)
  have HFW := Lib.hid hF
  have HB := Lib.hid hba
  have hsz : (w.alloc (.cells #[.string s, .slice A n c, .slice F fl.length d] 25)).heap.size = w.heap.size + 1 := by simp
  clear hF hba
  go_enter Try.func17, Try.ntmps17
  go_upto_region 1 with (fail)
  generalize w.alloc _ = wa at *
  obtain ⟨⟨z0, z1, z2⟩, _⟩ := tri_facts HC.out
  go_upto_region 2 with (at_make; refine wpList_make_full _ rfl (.tmp 12) (.tmp 12) 44 rfl wa.heap.size 4 i2 _ 1 Try.underlying44 hi2 hy0 hy1 .i64 .i64 _ _ n rfl rfl rfl rfl (by rw [hy2]; omega) (by unfold maxLen; omega) (Nat.le_refl _) ?_; intro w1 ho1 hg1)
  have hM := own_cel ho1
  rw [made_one _ rfl] at hM
  have HM : Hid (Cel w1 (w.heap.size + 1) (bv (fun _ => false) n)) := Lib.hid (by rw [← hsz]; exact hM)
  have hbm := (Below.refl wa.heap.size wa).grown hg1 (Nat.le_refl _) (fun k hk => by cases hk)
  have HB1 := Lib.hid (HB.out.trans (hbm.mono HB.out.size))
  have HC1 := Lib.hid (HC.out.below hbm (Nat.le_refl _))
  clear hg1 hM ho1 HC HB hbm z0 z1 z2 hsz
  generalize hib : w.heap.size + 1 = ib at *
  have hibq : w.heap.size < ib := by omega
  have HGE := Lib.hid (show w.heap.size ≤ ib by omega)
  clear hib
  obtain ⟨⟨z0, z1, z2⟩, _⟩ := tri_facts HC1.out
  have en : IntKind.i64.wrap ((n : Int) - 1) = (n : Int) - 1 := by rw [IntKind.wrap_i64]; omega
  have W0 := Lib.hid (fun W => refwithin_any node 0 ((n : Int) - 1) W)
  go_wp2_with fail
  refine (W0.out _).mono ?_
  rintro e wx ⟨rfl, rfl⟩
  clear W0
  cases hpl : within node 0 ((n : Int) - 1) with
  | false =>
    go_wp2
    go_ret
    refine ⟨⟨ib, fun _ => false, rfl, HM.out, HGE.out, fun v hv => ⟨fun h => (by cases h), fun ⟨a, e, h1, _⟩ => ?_⟩⟩, HB1.out⟩
    subst e
    unfold within at hpl
    simp only [Bool.and_eq_false_iff, decide_eq_false_iff_not] at hpl
    omega
  | true =>
    obtain ⟨a, rfl, han⟩ := within_nat hpl
    have HAN := Lib.hid han
    clear hpl
    go_wp2_with fail
    go_loopw [6] (fun _ wr => ∃ f : Nat → Bool, Sound n fl a f ∧ Cel wr ib (bv f n) ∧ Cel wr w.heap.size [.string s, .slice A n c, .slice F fl.length d] ∧ Below w.heap.size w wr) (fun _ wr => unmW wr ib n)
    case atStart => exact ⟨_, fun v h => (by cases h), HM.out, HC1.out, HB1.out⟩
    case round =>
      obtain ⟨f0, hs0, hm0, hc0, hb0⟩ := hrel
      have HS0 := Lib.hid hs0
      have HM0 := Lib.hid hm0
      have HC0 := Lib.hid hc0
      have HB0 := Lib.hid hb0
      have hu0 := unm_eq hm0
      have HU0 := Lib.hid hu0
      clear hs0 hm0 hc0 hb0 hu0 HM HC1 HB1 z0 z1 z2
      obtain ⟨wo, rfl⟩ : ∃ wo : World, wo = wr := ⟨_, rfl⟩
      go_wp2_with fail
      go_loopw [6, 7] (fun q i wr => ∃ (f : Nat → Bool) (j : Nat) (b : Bool), j ≤ fl.length ∧ i = .int .i64 j ∧ q = .bool b ∧ Sound n fl a f ∧ (b = false → Shut n fl a f j ∧ f = f0) ∧ (b = true → Rc.unm f n < Rc.unm f0 n) ∧ Cel wr ib (bv f n) ∧ Cel wr w.heap.size [.string s, .slice A n c, .slice F fl.length d] ∧ Below w.heap.size w wr) (fun _ i _ => fl.length - (intOf i).toNat)
      case atStart => exact ⟨f0, 0, false, Nat.zero_le _, rfl, rfl, HS0.out, fun _ => ⟨Shut.zero, rfl⟩, fun h => (by cases h), HM0.out, HC0.out, HB0.out⟩
      case round =>
        obtain ⟨f, j, b, hj, rfl, rfl, hs, hsh, hun, hmk, hck, hbk⟩ := hrel
        have HS := Lib.hid hs
        have HSH := Lib.hid hsh
        have HUN := Lib.hid hun
        have HMK := Lib.hid hmk
        have HCK := Lib.hid hck
        have HBK := Lib.hid hbk
        obtain ⟨⟨z0, z1, z2⟩, _⟩ := tri_facts hck
        have hj0 : (0 : Int) ≤ (j : Int) := by omega
        clear hs hsh hun hmk hck hbk
        by_cases hlt : j < fl.length
        · have hI : (j : Int) < (fl.length : Int) := by omega
          obtain ⟨b1, off, rfl, _, _⟩ := HFW.out.2 (by omega)
          obtain ⟨y0, y1, y2⟩ := fl_at (HFW.out.below HBK.out (Nat.le_refl _)) hlt
          have hok := within_okF (n := n) (f := fl[j]!)
          have HSK : Hid ((okF n fl[j]! = false ∨ ¬ ((fl[j]!).frm = (a : Int) ∨ f (fl[j]!).frm.toNat = true) ∨ f (fl[j]!).til.toNat = true) → b = false → Shut n fl a f (j + 1) ∧ f = f0) := Lib.hid fun h hb => ⟨(HSH.out hb).1.skip h, (HSH.out hb).2⟩
          have HST : Hid (∀ {x y : Nat}, okF n fl[j]! = true → (fl[j]!).frm = (x : Int) → (fl[j]!).til = (y : Int) → x = a ∨ f x = true → Sound n fl a (Rc.mark f y)) := Lib.hid fun h1 h2 h3 h4 => HS.out.step hlt h1 h2 h3 h4
          have HUL : Hid (Rc.unm f n ≤ Rc.unm f0 n) := Lib.hid (by
            cases b with
            | false => rw [(HSH.out rfl).2]; exact Nat.le_refl _
            | true => exact Nat.le_of_lt (HUN.out rfl))
          have HOK := Lib.hid hok
          clear hok
          generalize fl[j]! = g at *
          obtain ⟨frm, til, cond⟩ := g
          have W1 := Lib.hid (fun W => refwithin_any frm 0 ((n : Int) - 1) W)
          have W2 := Lib.hid (fun W => refwithin_any til 0 ((n : Int) - 1) W)
          dsimp only at y0 y1 y2
          go_wp2_with fail
          refine (W1.out _).mono ?_
          rintro e wx ⟨rfl, rfl⟩
          have hok2 := HOK.out
          try dsimp only at hok2
          cases h1 : within frm 0 ((n : Int) - 1) with
          | false =>
            rw [h1] at hok2
            clear W1 W2
            have HN2 := Lib.hid (HSK.out (.inl hok2.symm))
            go_wp2_with fail
            go_roundw
            case measure => exact measF hlt
            case rel => exact ⟨f, j + 1, b, hlt, by go_num, rfl, HS.out, HN2.out, HUN.out, HMK.out, HCK.out, HBK.out⟩
          | true =>
            rw [h1] at hok2
            obtain ⟨x, rfl, hxn⟩ := within_nat h1
            clear W1 h1
            go_wp2_with fail
            refine (W2.out _).mono ?_
            rintro e wx ⟨rfl, rfl⟩
            cases h2 : within til 0 ((n : Int) - 1) with
            | false =>
              rw [h2] at hok2
              clear W2
              have HN2 := Lib.hid (HSK.out (.inl hok2.symm))
              go_wp2_with fail
              go_roundw
              case measure => exact measF hlt
              case rel => exact ⟨f, j + 1, b, hlt, by go_num, rfl, HS.out, HN2.out, HUN.out, HMK.out, HCK.out, HBK.out⟩
            | true =>
              rw [h2] at hok2
              obtain ⟨y, rfl, hyn⟩ := within_nat h2
              have HOK := Lib.hid hok2.symm
              clear W2 h2 hok2
              have hx0 : (0 : Int) ≤ (x : Int) := by omega
              have hxI : (x : Int) < (n : Int) := by omega
              have hy0' : (0 : Int) ≤ (y : Int) := by omega
              have hyI : (y : Int) < (n : Int) := by omega
              by_cases hxa : x = a
              · subst hxa
                have hB : ((x : Int) == (x : Int)) = true := by simp
                have m1 := HMK.out.cell y _ (bv_at f hyn)
                have m2 := HMK.out.froz y (by unfold bv; simpa using hyn)
                cases hfy : f y with
                | true =>
                  rw [hfy] at m1
                  have HN2 := Lib.hid (HSK.out (.inr (.inr (by simpa using hfy))))
                  go_wp2_with fail
                  go_roundw
                  case measure => exact measF hlt
                  case rel => exact ⟨f, j + 1, b, hlt, by go_num, rfl, HS.out, HN2.out, HUN.out, HMK.out, HCK.out, HBK.out⟩
                | false =>
                  rw [hfy] at m1
                  have HS2 := Lib.hid (HST.out (x := x) (y := y) HOK.out rfl rfl (.inl rfl))
                  have hu := Rc.unm_mark hfy hyn
                  have HU2 : Hid (Rc.unm (Rc.mark f y) n < Rc.unm f0 n) := Lib.hid (by have := HUL.out; omega)
                  have hmk2 := HMK.out.set (i := y) (by unfold bv; simpa using hyn) (.bool true)
                  rw [bv_mark] at hmk2
                  have HM2 := Lib.hid hmk2
                  have HC2 := Lib.hid (HCK.out.kept (grown_setCell _ ⟨ib, y, none⟩ (.bool true)) (fun e => by have e1 : ib = w.heap.size := Option.some.inj e; omega))
                  have HB2 := Lib.hid (HBK.out.setCell (p := ⟨ib, y, none⟩) HGE.out (.bool true))
                  clear hu hmk2
                  go_wp2_with fail
                  go_roundw
                  case measure => exact measF hlt
                  case rel => exact ⟨Rc.mark f y, j + 1, true, hlt, by go_num, rfl, HS2.out, fun h => (by cases h), fun _ => HU2.out, HM2.out, HC2.out, HB2.out⟩
              · have hB : ((x : Int) == (a : Int)) = false := by rw [beq_eq_false_iff_ne]; omega
                have mx := HMK.out.cell x _ (bv_at f hxn)
                cases hfx : f x with
                | false =>
                  rw [hfx] at mx
                  have hno : ¬ ((x : Int) = (a : Int) ∨ f ((x : Int).toNat) = true) := by
                    rw [Int.toNat_natCast, hfx]
                    rintro (h | h)
                    · omega
                    · cases h
                  have HNO := Lib.hid hno
                  clear hno
                  have HN2 := Lib.hid (HSK.out (.inr (.inl HNO.out)))
                  go_wp2_with fail
                  go_roundw
                  case measure => exact measF hlt
                  case rel => exact ⟨f, j + 1, b, hlt, by go_num, rfl, HS.out, HN2.out, HUN.out, HMK.out, HCK.out, HBK.out⟩
                | true =>
                  rw [hfx] at mx
                  have m1 := HMK.out.cell y _ (bv_at f hyn)
                  have m2 := HMK.out.froz y (by unfold bv; simpa using hyn)
                  cases hfy : f y with
                  | true =>
                    rw [hfy] at m1
                    have HN2 := Lib.hid (HSK.out (.inr (.inr (by simpa using hfy))))
                    go_wp2_with fail
                    go_roundw
                    case measure => exact measF hlt
                    case rel => exact ⟨f, j + 1, b, hlt, by go_num, rfl, HS.out, HN2.out, HUN.out, HMK.out, HCK.out, HBK.out⟩
                  | false =>
                    rw [hfy] at m1
                    have HS2 := Lib.hid (HST.out (x := x) (y := y) HOK.out rfl rfl (.inr hfx))
                    have hu := Rc.unm_mark hfy hyn
                    have HU2 : Hid (Rc.unm (Rc.mark f y) n < Rc.unm f0 n) := Lib.hid (by have := HUL.out; omega)
                    have hmk2 := HMK.out.set (i := y) (by unfold bv; simpa using hyn) (.bool true)
                    rw [bv_mark] at hmk2
                    have HM2 := Lib.hid hmk2
                    have HC2 := Lib.hid (HCK.out.kept (grown_setCell _ ⟨ib, y, none⟩ (.bool true)) (fun e => by have e1 : ib = w.heap.size := Option.some.inj e; omega))
                    have HB2 := Lib.hid (HBK.out.setCell (p := ⟨ib, y, none⟩) HGE.out (.bool true))
                    clear hu hmk2
                    go_wp2_with fail
                    go_roundw
                    case measure => exact measF hlt
                    case rel => exact ⟨Rc.mark f y, j + 1, true, hlt, by go_num, rfl, HS2.out, fun h => (by cases h), fun _ => HU2.out, HM2.out, HC2.out, HB2.out⟩
        · obtain rfl : j = fl.length := by omega
          have hI : ¬ ((fl.length : Int) < (fl.length : Int)) := by omega
          cases b with
          | false =>
            obtain ⟨h1, rfl⟩ := HSH.out rfl
            have HZ := Lib.hid (fun v => h1.comes HS.out HAN.out v)
            clear h1
            go_wp2
            go_ret
            exact ⟨⟨ib, f, rfl, HMK.out, HGE.out, fun v _ => HZ.out v⟩, HBK.out⟩
          | true =>
            have hu := HUN.out rfl
            have hu2 := unm_eq HMK.out
            rw [← hu2, ← HU0.out] at hu
            have HU := Lib.hid hu
            clear hu hu2
            go_wp2_with fail
            go_roundw
            case measure => exact HU.out
            case rel => exact ⟨f, HS.out, HMK.out, HCK.out, HBK.out⟩
end
end Pr
end Go.Proofs.Ytjdgloofdafebaa
