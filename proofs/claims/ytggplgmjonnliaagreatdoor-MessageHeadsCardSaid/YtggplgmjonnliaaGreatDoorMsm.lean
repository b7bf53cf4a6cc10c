/- Package message: Check of kind 7, without variables. Printed by tools/specs/message/check.py. -/
import Derived.Test.YtggplgmjonnliaaGreatDoorMsi
import Derived.Test.YtggplgmjonnliaaGreatDoorMsf
import Derived.Test.YtggplgmjonnliaaGreatDoorMsc
import Derived.Deep.RegionLaw
namespace Go.Proofs.YtggplgmjonnliaaGreatDoor
open Go.RowKit

namespace Ms
/-- No other parts than its kind's. -/
def shape7 (pn name code : ByteArray) (nn fn tn : Nat) (most time retries : Int) : Bool :=
  (decide (pn = no) && (decide (nn = 0) && decide (fn = 0))) && (decide (name = no) && (decide (tn = 0) && (decide (most = 0) && (decide (time = time) && (decide (retries = retries) && decide (code = no))))))
def checkNo7 (wkr pn name code : ByteArray) (inc key : Int) (nn fn tn : Nat) (most time task epoch retries : Int) : Int :=
  if Vr.name wkr.data.toList = false then 106 else if (wi 1 1073741824 inc && wi 1 1073741824 key) = false then 107 else if shape7 pn name code nn fn tn most time retries = false then 102 else leaseNo 7 task epoch time retries (Vr.name code.data.toList)
theorem same_7 (wkr pn name code : ByteArray) (inc key most time task epoch retries : Int) (NA FA TA : Option Addr) (nn nc fn fc tn tc : Nat) (w : World) : Calls Tryz.prog 11 #[.agg #[.string wkr, .int .i64 inc, .int .i64 key, .int .i64 7, .string pn, .slice NA nn nc, .slice FA fn fc, .string name, .slice none 0 0, .slice TA tn tc, .int .i64 most, .int .i64 time, .int .i64 task, .int .i64 epoch, .int .i64 retries, .string code], .agg #[.string wkr, .int .i64 inc, .int .i64 key, .int .i64 7, .string ⟨#[]⟩, .slice none 0 0, .slice none 0 0, .string ⟨#[]⟩, .slice none 0 0, .slice none 0 0, .int .i64 0, .int .i64 time, .int .i64 task, .int .i64 epoch, .int .i64 retries, .string ⟨#[]⟩]] w fun e w' => e = .returned (.bool (shape7 pn name code nn fn tn most time retries)) ∧ Below w.heap.size w w' := by
  have h := same_bare wkr pn name code ⟨#[]⟩ ⟨#[]⟩ inc key 7 most time task epoch retries 0 time task epoch retries NA FA none TA none nn nc fn fc 0 0 tn tc 0 0 w (decide (tn = 0)) (fun W _ => (eq_text_nil TA tn tc W).mono fun e w' ⟨h1, h2⟩ => ⟨h1, by rw [h2]; exact Below.refl _ _⟩)
    _ _ _ _ _ _ _ _ _ rfl rfl rfl rfl rfl rfl rfl rfl rfl
  refine h.mono ?_
  rintro e w' ⟨rfl, hb⟩
  refine ⟨?_, hb⟩
  congr 2
  unfold shape7
  have ht : ∀ a b : ByteArray, (a.toList == b.toList) = decide (a = b) := fun a b => by
    rw [Bool.eq_iff_iff, beq_iff_eq, decide_eq_true_iff, ByteArray.toList_eq, ByteArray.toList_eq]
    exact ⟨fun h => by cases a; cases b; simp only [ByteArray.mk.injEq]; exact Array.toList_inj.1 h, fun e => by rw [e]⟩
  have hi : ∀ a b : Int, (a == b) = decide (a = b) := fun a b => by
    rw [Bool.eq_iff_iff, beq_iff_eq, decide_eq_true_iff]
  rw [ht, ht, hi, hi, hi, hi, hi, show (⟨#[]⟩ : ByteArray) = no from rfl]
  simp
set_option maxHeartbeats 3200000 in
set_option maxRecDepth 10000 in
theorem check_7 {W w : World} {E : Int → Option Addr} (wkr pn name code : ByteArray) (inc key most time task epoch retries : Int) (NA FA TA : Option Addr) (nn nc fn fc tn tc : Nat) (hE : MsErrs W E) (hb : Below W.heap.size W w) (hc : code.size ≤ 9223372036854775807) (hw : wkr.size ≤ 9223372036854775807) :
    Calls Tryz.prog 13 #[.agg #[.string wkr, .int .i64 inc, .int .i64 key, .int .i64 7, .string pn, .slice NA nn nc, .slice FA fn fc, .string name, .slice none 0 0, .slice TA tn tc, .int .i64 most, .int .i64 time, .int .i64 task, .int .i64 epoch, .int .i64 retries, .string code]] w fun e w' => (∃ ev, e = .returned ev ∧ SeenBy E ev (checkNo7 wkr pn name code inc key nn fn tn most time task epoch retries)) ∧ Below w.heap.size w w' := by
  have HB0 := Lib.hid ((Below.refl w.heap.size w).alloc (Nat.le_refl _) (.cells #[.string wkr, .int .i64 inc, .int .i64 key, .int .i64 7, .string pn, .slice NA nn nc, .slice FA fn fc, .string name, .slice none 0 0, .slice TA tn tc, .int .i64 most, .int .i64 time, .int .i64 task, .int .i64 epoch, .int .i64 retries, .string code] 33))
  have HE := Lib.hid (fun (V : World) (hV : Below w.heap.size w V) => hE.below (hb.trans (hV.mono hb.size)))
  have HPT := Lib.hid (fun (V : World) (hV : Below w.heap.size w V) => part_7 (w := V) wkr pn name code inc key most time task epoch retries NA FA TA nn nc fn fc tn tc hE (hb.trans (hV.mono hb.size)) hc)
  have HOW := Lib.hid (fun (V : World) => own_7 wkr pn name code inc key most time task epoch retries NA FA none TA nn nc fn fc 0 0 tn tc V)
  have HSM := Lib.hid (fun (V : World) => same_7 wkr pn name code inc key most time task epoch retries NA FA TA nn nc fn fc tn tc V)
  have HNM := Lib.hid (fun (V : World) => name_any wkr V hw)
  have HI := Lib.hid (fun (V : World) => within_any inc 1 1073741824 V)
  have HK := Lib.hid (fun (V : World) => within_any key 1 1073741824 V)
  have HKD := Lib.hid (fun (V : World) => isKind_any 7 V)
  have HCA := Lib.hid (Cel.lit w #[.string wkr, .int .i64 inc, .int .i64 key, .int .i64 7, .string pn, .slice NA nn nc, .slice FA fn fc, .string name, .slice none 0 0, .slice TA tn tc, .int .i64 most, .int .i64 time, .int .i64 task, .int .i64 epoch, .int .i64 retries, .string code] 33)
  obtain ⟨R, hR⟩ : ∃ R, checkNo7 wkr pn name code inc key nn fn tn most time task epoch retries = R := ⟨_, rfl⟩
  rw [hR]
  unfold checkNo7 at hR
  obtain ⟨b1, h1⟩ : ∃ b, Vr.name wkr.data.toList = b := ⟨_, rfl⟩
  obtain ⟨b2, h2⟩ : ∃ b, wi 1 1073741824 inc = b := ⟨_, rfl⟩
  obtain ⟨b3, h3⟩ : ∃ b, wi 1 1073741824 key = b := ⟨_, rfl⟩
  obtain ⟨b4, h4⟩ : ∃ b, shape7 pn name code nn fn tn most time retries = b := ⟨_, rfl⟩
  rw [h1] at HNM hR
  rw [h2] at HI hR
  rw [h3] at HK hR
  rw [h4] at HSM hR
  rw [show wi 1 9 7 = true from rfl] at HKD
  have HR := Lib.hid hR
  clear hR h1 h2 h3 h4 hE hb hc hw
  go_enter Tryz.func13, Tryz.ntmps13
  go_upto_region 1 with (fail)
  generalize w.alloc _ = w2 at *
  obtain ⟨za, hza⟩ : ∃ za, za = w.heap.size := ⟨_, rfl⟩
  rw [← hza] at HCA
  simp only [← hza]
  clear hza
  obtain ⟨ea, hea, ga⟩ := (HE.out _ HB0.out).e106
  obtain ⟨ec, hec, gc⟩ := (HE.out _ HB0.out).e107
  obtain ⟨ed, hed, gd⟩ := (HE.out _ HB0.out).e102
  unfold errV at ga gc gd
  have HEA := Lib.hid hea
  have HEC := Lib.hid hec
  have HED := Lib.hid hed
  have GD := Lib.hid gd
  clear hea hec hed
  have ha := HCA.out
  have a0 := ha.cell 0 _ rfl
  have a1 := ha.cell 1 _ rfl
  have a2 := ha.cell 2 _ rfl
  have a3 := ha.cell 3 _ rfl
  have a4 := ha.cell 4 _ rfl
  have a5 := ha.cell 5 _ rfl
  have a6 := ha.cell 6 _ rfl
  have a7 := ha.cell 7 _ rfl
  have a8 := ha.cell 8 _ rfl
  have a9 := ha.cell 9 _ rfl
  have a10 := ha.cell 10 _ rfl
  have a11 := ha.cell 11 _ rfl
  have a12 := ha.cell 12 _ rfl
  have a13 := ha.cell 13 _ rfl
  have a14 := ha.cell 14 _ rfl
  have a15 := ha.cell 15 _ rfl
  clear ha
  cases b1 with
  | false =>
    go_wp2_with (first | (go_at_call 32; (with_reducible refine (HNM.out _).mono ?_); rintro e w3 ⟨rfl, hw⟩; subst hw) | (go_at_call 33; first | ((with_reducible refine (HI.out _).mono ?_); rintro e w3 ⟨rfl, hw⟩; subst hw) | ((with_reducible refine (HK.out _).mono ?_); rintro e w3 ⟨rfl, hw⟩; subst hw)))
    go_ret
    exact ⟨⟨_, rfl, by rw [← HR.out]; exact .err 106 ea HEA.out (by decide)⟩, HB0.out⟩
  | true =>
    cases b2 with
    | false =>
      go_wp2_with (first | (go_at_call 32; (with_reducible refine (HNM.out _).mono ?_); rintro e w3 ⟨rfl, hw⟩; subst hw) | (go_at_call 33; first | ((with_reducible refine (HI.out _).mono ?_); rintro e w3 ⟨rfl, hw⟩; subst hw) | ((with_reducible refine (HK.out _).mono ?_); rintro e w3 ⟨rfl, hw⟩; subst hw)))
      go_ret
      exact ⟨⟨_, rfl, by rw [← HR.out]; exact .err 107 ec HEC.out (by decide)⟩, HB0.out⟩
    | true =>
      cases b3 with
      | false =>
        go_wp2_with (first | (go_at_call 32; (with_reducible refine (HNM.out _).mono ?_); rintro e w3 ⟨rfl, hw⟩; subst hw) | (go_at_call 33; first | ((with_reducible refine (HI.out _).mono ?_); rintro e w3 ⟨rfl, hw⟩; subst hw) | ((with_reducible refine (HK.out _).mono ?_); rintro e w3 ⟨rfl, hw⟩; subst hw)))
        go_ret
        exact ⟨⟨_, rfl, by rw [← HR.out]; exact .err 107 ec HEC.out (by decide)⟩, HB0.out⟩
      | true =>
        go_upto_region 5 with (first | (go_at_call 32; (with_reducible refine (HNM.out _).mono ?_); rintro e w3 ⟨rfl, hw⟩; subst hw) | (go_at_call 33; first | ((with_reducible refine (HI.out _).mono ?_); rintro e w3 ⟨rfl, hw⟩; subst hw) | ((with_reducible refine (HK.out _).mono ?_); rintro e w3 ⟨rfl, hw⟩; subst hw)))
        go_cut [24] from 25 to 35 (fun s wx => s = .bool (!b4) ∧ Below w2.heap.size w2 wx)
        case first =>
          go_region_law (first
            | (go_simp; go_at_call 23; (with_reducible refine (HKD.out _).mono ?_); rintro e w3 ⟨rfl, hw⟩; subst hw)
            | (go_simp; go_at_call 34; (with_reducible refine (HOW.out _).mono ?_); rintro e w4 ⟨rfl, hb4⟩; have H4 := Lib.hid (show Below w2.heap.size w2 w4 from by first | exact hb4 | exact (Below.refl _ _).drew.trans hb4); clear hb4 a0 a1 a2 a3 a4 a5 a6 a7 a8 a9 a10 a11 a12 a13 a14 a15; have ha := HCA.out.below H4.out (Nat.le_refl _); have a0 := ha.cell 0 _ rfl; have a1 := ha.cell 1 _ rfl; have a2 := ha.cell 2 _ rfl; have a3 := ha.cell 3 _ rfl; have a4 := ha.cell 4 _ rfl; have a5 := ha.cell 5 _ rfl; have a6 := ha.cell 6 _ rfl; have a7 := ha.cell 7 _ rfl; have a8 := ha.cell 8 _ rfl; have a9 := ha.cell 9 _ rfl; have a10 := ha.cell 10 _ rfl; have a11 := ha.cell 11 _ rfl; have a12 := ha.cell 12 _ rfl; have a13 := ha.cell 13 _ rfl; have a14 := ha.cell 14 _ rfl; have a15 := ha.cell 15 _ rfl; clear ha)
            | (go_simp; go_at_call 11; (with_reducible refine (HSM.out _).mono ?_); rintro e w5 ⟨rfl, hb5⟩; have H5 := Lib.hid (H4.out.trans (hb5.mono H4.out.size)); clear hb5))
          all_goals
            go_wp2
            go_meet
            exact ⟨rfl, H5.out⟩
        case rest =>
          obtain ⟨rfl, hbx⟩ := hcut
          have HX := Lib.hid (HB0.out.trans (hbx.mono HB0.out.size))
          have ha := HCA.out.below hbx (Nat.le_refl _)
          clear a0 a1 a2 a3 a4 a5 a6 a7 a8 a9 a10 a11 a12 a13 a14 a15 ga gc gd
          obtain ⟨ed', hed', gd⟩ := (HE.out _ HX.out).e102
          unfold errV at gd
          have HED' := Lib.hid hed'
          clear hed' hbx
          have a0 := ha.cell 0 _ rfl
          have a1 := ha.cell 1 _ rfl
          have a2 := ha.cell 2 _ rfl
          have a3 := ha.cell 3 _ rfl
          have a4 := ha.cell 4 _ rfl
          have a5 := ha.cell 5 _ rfl
          have a6 := ha.cell 6 _ rfl
          have a7 := ha.cell 7 _ rfl
          have a8 := ha.cell 8 _ rfl
          have a9 := ha.cell 9 _ rfl
          have a10 := ha.cell 10 _ rfl
          have a11 := ha.cell 11 _ rfl
          have a12 := ha.cell 12 _ rfl
          have a13 := ha.cell 13 _ rfl
          have a14 := ha.cell 14 _ rfl
          have a15 := ha.cell 15 _ rfl
          clear ha
          cases b4 with
          | false =>
            go_wp2
            go_ret
            exact ⟨⟨_, rfl, by rw [← HR.out]; exact .err 102 ed' HED'.out (by decide)⟩, HX.out⟩
          | true =>
            go_wp2_with fail
            (with_reducible refine (HPT.out _ HX.out).mono ?_)
            rintro e w6 ⟨⟨ev, rfl, hev⟩, hb6⟩
            clear a0 a1 a2 a3 a4 a5 a6 a7 a8 a9 a10 a11 a12 a13 a14 a15 gd
            go_wp2
            go_ret
            exact ⟨⟨_, rfl, by rw [← HR.out]; exact hev⟩, HX.out.trans (hb6.mono HX.out.size)⟩
end Ms
end Go.Proofs.YtggplgmjonnliaaGreatDoor
