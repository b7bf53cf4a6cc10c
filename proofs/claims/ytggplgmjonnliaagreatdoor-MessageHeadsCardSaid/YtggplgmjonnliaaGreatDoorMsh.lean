/- Package message: what is amiss with what is told by who has a lease, without variables. Printed by tools/specs/message/lease.py. -/
import Derived.Test.YtggplgmjonnliaaGreatDoorMsa
import Derived.Test.YtggplgmjonnliaaGreatDoorCel
namespace Go.Proofs.YtggplgmjonnliaaGreatDoor
open Go.RowKit

namespace Ms
theorem vcheck_nil (w : World) : Calls Tryz.prog 78 #[.slice none 0 0] w fun e w' => e = .returned .nilIface ∧ w' = w := by
  go_enter Tryz.func78, Tryz.ntmps78
  go_wp2_with fail
  go_loopw [12] (fun s wr => s = .int .i64 0 ∧ wr = w) (fun _ _ => 0)
  case atStart => exact ⟨rfl, rfl⟩
  case round =>
    obtain ⟨rfl, rfl⟩ := hrel
    go_wp2
    go_ret
    exact ⟨rfl, rfl⟩
theorem named_nil {W w : World} {E : Int → Option Addr} (s : ByteArray) (hE : MsErrs W E) (hb : Below W.heap.size W w) (hs : s.size ≤ 9223372036854775807) :
    Calls Tryz.prog 59 #[.string s, .slice none 0 0] w fun e w' => (∃ ev, e = .returned ev ∧ SeenBy E ev (if Vr.name s.data.toList = true then 0 else 106)) ∧ w' = w := by
  obtain ⟨a, hk, hg⟩ := (hE.below hb).e106
  unfold errV at hg
  have HN := Lib.hid (name_any s w hs)
  have HV := Lib.hid (vcheck_nil w)
  generalize Vr.name s.data.toList = b at *
  go_enter Tryz.func59, Tryz.ntmps59
  go_wp2_with fail
  (with_reducible refine HN.out.mono ?_)
  rintro e w1 ⟨rfl, hw⟩
  subst hw
  cases b with
  | false =>
    go_wp2
    go_ret
    exact ⟨⟨_, rfl, .err 106 a hk (by decide)⟩, rfl⟩
  | true =>
    go_wp2_with fail
    (with_reducible refine HV.out.mono ?_)
    rintro e w1 ⟨rfl, rfl⟩
    go_wp2
    go_ret
    exact ⟨⟨_, rfl, .nil⟩, rfl⟩
/-- What is amiss first, as a number. -/
def leaseNo (kind task epoch time retries : Int) (nm : Bool) : Int :=
  if (wi 1 1073741824 task && wi 1 60 epoch) = false then 107
  else if kind = 4 then (if wi 1 1000 time = true then 0 else 107)
  else if kind = 7 then (if (wi 0 9 retries && wi 0 1000 time) = true then 0 else 107)
  else if kind = 8 then (if nm = true then 0 else 106)
  else 0
set_option maxHeartbeats 1600000 in
set_option maxRecDepth 10000 in
theorem lease_4 {W w : World} {E : Int → Option Addr} (wkr pn name code : ByteArray) (inc key most time task epoch retries : Int) (NA FA TA : Option Addr) (nn nc fn fc tn tc : Nat) (hE : MsErrs W E) (hb : Below W.heap.size W w) (hc : code.size ≤ 9223372036854775807) :
    Calls Tryz.prog 63 #[.agg #[.string wkr, .int .i64 inc, .int .i64 key, .int .i64 4, .string pn, .slice NA nn nc, .slice FA fn fc, .string name, .slice none 0 0, .slice TA tn tc, .int .i64 most, .int .i64 time, .int .i64 task, .int .i64 epoch, .int .i64 retries, .string code]] w fun e w' => (∃ ev, e = .returned ev ∧ SeenBy E ev (leaseNo 4 task epoch time retries (Vr.name code.data.toList))) ∧ Below w.heap.size w w' := by
  have HE := Lib.hid hE
  have HC := Lib.hid hc
  have HB0 := Lib.hid ((Below.refl w.heap.size w).alloc (Nat.le_refl _) (.cells #[.string wkr, .int .i64 inc, .int .i64 key, .int .i64 4, .string pn, .slice NA nn nc, .slice FA fn fc, .string name, .slice none 0 0, .slice TA tn tc, .int .i64 most, .int .i64 time, .int .i64 task, .int .i64 epoch, .int .i64 retries, .string code] 33))
  have HBW := Lib.hid (hb.trans (HB0.out.mono hb.size))
  have HCA := Lib.hid (Cel.lit w #[.string wkr, .int .i64 inc, .int .i64 key, .int .i64 4, .string pn, .slice NA nn nc, .slice FA fn fc, .string name, .slice none 0 0, .slice TA tn tc, .int .i64 most, .int .i64 time, .int .i64 task, .int .i64 epoch, .int .i64 retries, .string code] 33)
  obtain ⟨ea, hea, hg⟩ := (hE.below HBW.out).e107
  unfold errV at hg
  have HEA := Lib.hid hea
  obtain ⟨nm, hnm⟩ : ∃ nm, Vr.name code.data.toList = nm := ⟨_, rfl⟩
  have HNM := Lib.hid hnm
  rw [hnm]
  obtain ⟨b1, h1⟩ : ∃ b, wi 1 1073741824 task = b := ⟨_, rfl⟩
  obtain ⟨b2, h2⟩ : ∃ b, wi 1 60 epoch = b := ⟨_, rfl⟩
  obtain ⟨b3, h3⟩ : ∃ b, wi 1 1000 time = b := ⟨_, rfl⟩
  obtain ⟨b4, h4⟩ : ∃ b, wi 0 9 retries = b := ⟨_, rfl⟩
  obtain ⟨b5, h5⟩ : ∃ b, wi 0 1000 time = b := ⟨_, rfl⟩
  have H1 := Lib.hid (fun (W : World) => isTask_any task W)
  have H2 := Lib.hid (fun (W : World) => within_any epoch 1 60 W)
  have H3 := Lib.hid (fun (W : World) => within64_any time 1 1000 W)
  have H4 := Lib.hid (fun (W : World) => within_any retries 0 9 W)
  have H5 := Lib.hid (fun (W : World) => within64_any time 0 1000 W)
  rw [h1] at H1
  rw [h2] at H2
  rw [h3] at H3
  rw [h4] at H4
  rw [h5] at H5
  have HNO : Hid (leaseNo 4 task epoch time retries nm = if (b1 && b2) = false then 107 else if b3 = true then 0 else 107) := Lib.hid (by unfold leaseNo; rw [h1, h2, h3, h4, h5]; simp)
  rw [HNO.out]
  obtain ⟨R, hR⟩ : ∃ R, (if (b1 && b2) = false then (107 : Int) else if b3 = true then 0 else 107) = R := ⟨_, rfl⟩
  rw [hR]
  have HR := Lib.hid hR
  clear hR
  clear hE hb hc hea hnm h1 h2 h3 h4 h5
  go_enter Tryz.func63, Tryz.ntmps63
  go_upto_region 1 with (fail)
  generalize w.alloc _ = w2 at *
  obtain ⟨za, hza⟩ : ∃ za, za = w.heap.size := ⟨_, rfl⟩
  rw [← hza] at HCA
  simp only [← hza]
  clear hza
  have HFIN := Lib.hid HB0.out
  have ha := HCA.out
  have a3 := ha.cell 3 _ rfl
  have a8 := ha.cell 8 _ rfl
  have a11 := ha.cell 11 _ rfl
  have a12 := ha.cell 12 _ rfl
  have a13 := ha.cell 13 _ rfl
  have a14 := ha.cell 14 _ rfl
  have a15 := ha.cell 15 _ rfl
  clear ha
  cases b1 with
  | false =>
    go_wp2_with (first | (go_at_call 62; (with_reducible refine (H1.out _).mono ?_); rintro e w3 ⟨rfl, hw⟩; subst hw) | (go_at_call 33; first | ((with_reducible refine (H2.out _).mono ?_); rintro e w3 ⟨rfl, hw⟩; subst hw) | ((with_reducible refine (H4.out _).mono ?_); rintro e w3 ⟨rfl, hw⟩; subst hw)) | (go_at_call 80; first | ((with_reducible refine (H3.out _).mono ?_); rintro e w3 ⟨rfl, hw⟩; subst hw) | ((with_reducible refine (H5.out _).mono ?_); rintro e w3 ⟨rfl, hw⟩; subst hw)) | (go_at_call 61; refine (rangeFault_any _ HE.out HBW.out).mono ?_; rintro e w3 ⟨⟨ev, rfl, hev⟩, hw⟩; subst hw) | (go_at_call 59; refine (named_nil code HE.out HBW.out HC.out).mono ?_; rintro e w3 ⟨⟨ev, rfl, hev⟩, hw⟩; subst hw; rw [HNM.out] at hev) | (go_at_call 78; refine (vcheck_nil _).mono ?_; rintro e w3 ⟨rfl, hw⟩; subst hw))
    go_ret
    exact ⟨⟨_, rfl, by rw [← HR.out]; exact .err 107 ea HEA.out (by decide)⟩, HFIN.out⟩
  | true =>
    cases b2 with
    | false =>
      go_wp2_with (first | (go_at_call 62; (with_reducible refine (H1.out _).mono ?_); rintro e w3 ⟨rfl, hw⟩; subst hw) | (go_at_call 33; first | ((with_reducible refine (H2.out _).mono ?_); rintro e w3 ⟨rfl, hw⟩; subst hw) | ((with_reducible refine (H4.out _).mono ?_); rintro e w3 ⟨rfl, hw⟩; subst hw)) | (go_at_call 80; first | ((with_reducible refine (H3.out _).mono ?_); rintro e w3 ⟨rfl, hw⟩; subst hw) | ((with_reducible refine (H5.out _).mono ?_); rintro e w3 ⟨rfl, hw⟩; subst hw)) | (go_at_call 61; refine (rangeFault_any _ HE.out HBW.out).mono ?_; rintro e w3 ⟨⟨ev, rfl, hev⟩, hw⟩; subst hw) | (go_at_call 59; refine (named_nil code HE.out HBW.out HC.out).mono ?_; rintro e w3 ⟨⟨ev, rfl, hev⟩, hw⟩; subst hw; rw [HNM.out] at hev) | (go_at_call 78; refine (vcheck_nil _).mono ?_; rintro e w3 ⟨rfl, hw⟩; subst hw))
      go_ret
      exact ⟨⟨_, rfl, by rw [← HR.out]; exact .err 107 ea HEA.out (by decide)⟩, HFIN.out⟩
    | true =>
      go_wp2_with (first | (go_at_call 62; (with_reducible refine (H1.out _).mono ?_); rintro e w3 ⟨rfl, hw⟩; subst hw) | (go_at_call 33; first | ((with_reducible refine (H2.out _).mono ?_); rintro e w3 ⟨rfl, hw⟩; subst hw) | ((with_reducible refine (H4.out _).mono ?_); rintro e w3 ⟨rfl, hw⟩; subst hw)) | (go_at_call 80; first | ((with_reducible refine (H3.out _).mono ?_); rintro e w3 ⟨rfl, hw⟩; subst hw) | ((with_reducible refine (H5.out _).mono ?_); rintro e w3 ⟨rfl, hw⟩; subst hw)) | (go_at_call 61; refine (rangeFault_any _ HE.out HBW.out).mono ?_; rintro e w3 ⟨⟨ev, rfl, hev⟩, hw⟩; subst hw) | (go_at_call 59; refine (named_nil code HE.out HBW.out HC.out).mono ?_; rintro e w3 ⟨⟨ev, rfl, hev⟩, hw⟩; subst hw; rw [HNM.out] at hev) | (go_at_call 78; refine (vcheck_nil _).mono ?_; rintro e w3 ⟨rfl, hw⟩; subst hw))
      go_ret
      exact ⟨⟨_, rfl, by rw [← HR.out]; simpa using hev⟩, HFIN.out⟩
set_option maxHeartbeats 1600000 in
set_option maxRecDepth 10000 in
theorem lease_5 {W w : World} {E : Int → Option Addr} (wkr pn name code : ByteArray) (inc key most time task epoch retries : Int) (NA FA TA : Option Addr) (nn nc fn fc tn tc : Nat) (hE : MsErrs W E) (hb : Below W.heap.size W w) (hc : code.size ≤ 9223372036854775807) :
    Calls Tryz.prog 63 #[.agg #[.string wkr, .int .i64 inc, .int .i64 key, .int .i64 5, .string pn, .slice NA nn nc, .slice FA fn fc, .string name, .slice none 0 0, .slice TA tn tc, .int .i64 most, .int .i64 time, .int .i64 task, .int .i64 epoch, .int .i64 retries, .string code]] w fun e w' => (∃ ev, e = .returned ev ∧ SeenBy E ev (leaseNo 5 task epoch time retries (Vr.name code.data.toList))) ∧ Below w.heap.size w w' := by
  have HE := Lib.hid hE
  have HC := Lib.hid hc
  have HB0 := Lib.hid ((Below.refl w.heap.size w).alloc (Nat.le_refl _) (.cells #[.string wkr, .int .i64 inc, .int .i64 key, .int .i64 5, .string pn, .slice NA nn nc, .slice FA fn fc, .string name, .slice none 0 0, .slice TA tn tc, .int .i64 most, .int .i64 time, .int .i64 task, .int .i64 epoch, .int .i64 retries, .string code] 33))
  have HBW := Lib.hid (hb.trans (HB0.out.mono hb.size))
  have HCA := Lib.hid (Cel.lit w #[.string wkr, .int .i64 inc, .int .i64 key, .int .i64 5, .string pn, .slice NA nn nc, .slice FA fn fc, .string name, .slice none 0 0, .slice TA tn tc, .int .i64 most, .int .i64 time, .int .i64 task, .int .i64 epoch, .int .i64 retries, .string code] 33)
  obtain ⟨ea, hea, hg⟩ := (hE.below HBW.out).e107
  unfold errV at hg
  have HEA := Lib.hid hea
  obtain ⟨nm, hnm⟩ : ∃ nm, Vr.name code.data.toList = nm := ⟨_, rfl⟩
  have HNM := Lib.hid hnm
  rw [hnm]
  obtain ⟨b1, h1⟩ : ∃ b, wi 1 1073741824 task = b := ⟨_, rfl⟩
  obtain ⟨b2, h2⟩ : ∃ b, wi 1 60 epoch = b := ⟨_, rfl⟩
  obtain ⟨b3, h3⟩ : ∃ b, wi 1 1000 time = b := ⟨_, rfl⟩
  obtain ⟨b4, h4⟩ : ∃ b, wi 0 9 retries = b := ⟨_, rfl⟩
  obtain ⟨b5, h5⟩ : ∃ b, wi 0 1000 time = b := ⟨_, rfl⟩
  have H1 := Lib.hid (fun (W : World) => isTask_any task W)
  have H2 := Lib.hid (fun (W : World) => within_any epoch 1 60 W)
  have H3 := Lib.hid (fun (W : World) => within64_any time 1 1000 W)
  have H4 := Lib.hid (fun (W : World) => within_any retries 0 9 W)
  have H5 := Lib.hid (fun (W : World) => within64_any time 0 1000 W)
  rw [h1] at H1
  rw [h2] at H2
  rw [h3] at H3
  rw [h4] at H4
  rw [h5] at H5
  have HNO : Hid (leaseNo 5 task epoch time retries nm = if (b1 && b2) = false then 107 else 0) := Lib.hid (by unfold leaseNo; rw [h1, h2, h3, h4, h5]; simp)
  rw [HNO.out]
  obtain ⟨R, hR⟩ : ∃ R, (if (b1 && b2) = false then (107 : Int) else 0) = R := ⟨_, rfl⟩
  rw [hR]
  have HR := Lib.hid hR
  clear hR
  clear hE hb hc hea hnm h1 h2 h3 h4 h5
  go_enter Tryz.func63, Tryz.ntmps63
  go_upto_region 1 with (fail)
  generalize w.alloc _ = w2 at *
  obtain ⟨za, hza⟩ : ∃ za, za = w.heap.size := ⟨_, rfl⟩
  rw [← hza] at HCA
  simp only [← hza]
  clear hza
  have HFIN := Lib.hid HB0.out
  have ha := HCA.out
  have a3 := ha.cell 3 _ rfl
  have a8 := ha.cell 8 _ rfl
  have a11 := ha.cell 11 _ rfl
  have a12 := ha.cell 12 _ rfl
  have a13 := ha.cell 13 _ rfl
  have a14 := ha.cell 14 _ rfl
  have a15 := ha.cell 15 _ rfl
  clear ha
  cases b1 with
  | false =>
    go_wp2_with (first | (go_at_call 62; (with_reducible refine (H1.out _).mono ?_); rintro e w3 ⟨rfl, hw⟩; subst hw) | (go_at_call 33; first | ((with_reducible refine (H2.out _).mono ?_); rintro e w3 ⟨rfl, hw⟩; subst hw) | ((with_reducible refine (H4.out _).mono ?_); rintro e w3 ⟨rfl, hw⟩; subst hw)) | (go_at_call 80; first | ((with_reducible refine (H3.out _).mono ?_); rintro e w3 ⟨rfl, hw⟩; subst hw) | ((with_reducible refine (H5.out _).mono ?_); rintro e w3 ⟨rfl, hw⟩; subst hw)) | (go_at_call 61; refine (rangeFault_any _ HE.out HBW.out).mono ?_; rintro e w3 ⟨⟨ev, rfl, hev⟩, hw⟩; subst hw) | (go_at_call 59; refine (named_nil code HE.out HBW.out HC.out).mono ?_; rintro e w3 ⟨⟨ev, rfl, hev⟩, hw⟩; subst hw; rw [HNM.out] at hev) | (go_at_call 78; refine (vcheck_nil _).mono ?_; rintro e w3 ⟨rfl, hw⟩; subst hw))
    go_ret
    exact ⟨⟨_, rfl, by rw [← HR.out]; exact .err 107 ea HEA.out (by decide)⟩, HFIN.out⟩
  | true =>
    cases b2 with
    | false =>
      go_wp2_with (first | (go_at_call 62; (with_reducible refine (H1.out _).mono ?_); rintro e w3 ⟨rfl, hw⟩; subst hw) | (go_at_call 33; first | ((with_reducible refine (H2.out _).mono ?_); rintro e w3 ⟨rfl, hw⟩; subst hw) | ((with_reducible refine (H4.out _).mono ?_); rintro e w3 ⟨rfl, hw⟩; subst hw)) | (go_at_call 80; first | ((with_reducible refine (H3.out _).mono ?_); rintro e w3 ⟨rfl, hw⟩; subst hw) | ((with_reducible refine (H5.out _).mono ?_); rintro e w3 ⟨rfl, hw⟩; subst hw)) | (go_at_call 61; refine (rangeFault_any _ HE.out HBW.out).mono ?_; rintro e w3 ⟨⟨ev, rfl, hev⟩, hw⟩; subst hw) | (go_at_call 59; refine (named_nil code HE.out HBW.out HC.out).mono ?_; rintro e w3 ⟨⟨ev, rfl, hev⟩, hw⟩; subst hw; rw [HNM.out] at hev) | (go_at_call 78; refine (vcheck_nil _).mono ?_; rintro e w3 ⟨rfl, hw⟩; subst hw))
      go_ret
      exact ⟨⟨_, rfl, by rw [← HR.out]; exact .err 107 ea HEA.out (by decide)⟩, HFIN.out⟩
    | true =>
      go_wp2_with (first | (go_at_call 62; (with_reducible refine (H1.out _).mono ?_); rintro e w3 ⟨rfl, hw⟩; subst hw) | (go_at_call 33; first | ((with_reducible refine (H2.out _).mono ?_); rintro e w3 ⟨rfl, hw⟩; subst hw) | ((with_reducible refine (H4.out _).mono ?_); rintro e w3 ⟨rfl, hw⟩; subst hw)) | (go_at_call 80; first | ((with_reducible refine (H3.out _).mono ?_); rintro e w3 ⟨rfl, hw⟩; subst hw) | ((with_reducible refine (H5.out _).mono ?_); rintro e w3 ⟨rfl, hw⟩; subst hw)) | (go_at_call 61; refine (rangeFault_any _ HE.out HBW.out).mono ?_; rintro e w3 ⟨⟨ev, rfl, hev⟩, hw⟩; subst hw) | (go_at_call 59; refine (named_nil code HE.out HBW.out HC.out).mono ?_; rintro e w3 ⟨⟨ev, rfl, hev⟩, hw⟩; subst hw; rw [HNM.out] at hev) | (go_at_call 78; refine (vcheck_nil _).mono ?_; rintro e w3 ⟨rfl, hw⟩; subst hw))
      go_ret
      exact ⟨⟨_, rfl, by rw [← HR.out]; exact .nil⟩, HFIN.out⟩
set_option maxHeartbeats 1600000 in
set_option maxRecDepth 10000 in
theorem lease_6 {W w : World} {E : Int → Option Addr} (wkr pn name code : ByteArray) (inc key most time task epoch retries : Int) (NA FA TA : Option Addr) (nn nc fn fc tn tc : Nat) (hE : MsErrs W E) (hb : Below W.heap.size W w) (hc : code.size ≤ 9223372036854775807) :
    Calls Tryz.prog 63 #[.agg #[.string wkr, .int .i64 inc, .int .i64 key, .int .i64 6, .string pn, .slice NA nn nc, .slice FA fn fc, .string name, .slice none 0 0, .slice TA tn tc, .int .i64 most, .int .i64 time, .int .i64 task, .int .i64 epoch, .int .i64 retries, .string code]] w fun e w' => (∃ ev, e = .returned ev ∧ SeenBy E ev (leaseNo 6 task epoch time retries (Vr.name code.data.toList))) ∧ Below w.heap.size w w' := by
  have HE := Lib.hid hE
  have HC := Lib.hid hc
  have HB0 := Lib.hid ((Below.refl w.heap.size w).alloc (Nat.le_refl _) (.cells #[.string wkr, .int .i64 inc, .int .i64 key, .int .i64 6, .string pn, .slice NA nn nc, .slice FA fn fc, .string name, .slice none 0 0, .slice TA tn tc, .int .i64 most, .int .i64 time, .int .i64 task, .int .i64 epoch, .int .i64 retries, .string code] 33))
  have HBW := Lib.hid (hb.trans (HB0.out.mono hb.size))
  have HCA := Lib.hid (Cel.lit w #[.string wkr, .int .i64 inc, .int .i64 key, .int .i64 6, .string pn, .slice NA nn nc, .slice FA fn fc, .string name, .slice none 0 0, .slice TA tn tc, .int .i64 most, .int .i64 time, .int .i64 task, .int .i64 epoch, .int .i64 retries, .string code] 33)
  obtain ⟨ea, hea, hg⟩ := (hE.below HBW.out).e107
  unfold errV at hg
  have HEA := Lib.hid hea
  obtain ⟨nm, hnm⟩ : ∃ nm, Vr.name code.data.toList = nm := ⟨_, rfl⟩
  have HNM := Lib.hid hnm
  rw [hnm]
  obtain ⟨b1, h1⟩ : ∃ b, wi 1 1073741824 task = b := ⟨_, rfl⟩
  obtain ⟨b2, h2⟩ : ∃ b, wi 1 60 epoch = b := ⟨_, rfl⟩
  obtain ⟨b3, h3⟩ : ∃ b, wi 1 1000 time = b := ⟨_, rfl⟩
  obtain ⟨b4, h4⟩ : ∃ b, wi 0 9 retries = b := ⟨_, rfl⟩
  obtain ⟨b5, h5⟩ : ∃ b, wi 0 1000 time = b := ⟨_, rfl⟩
  have H1 := Lib.hid (fun (W : World) => isTask_any task W)
  have H2 := Lib.hid (fun (W : World) => within_any epoch 1 60 W)
  have H3 := Lib.hid (fun (W : World) => within64_any time 1 1000 W)
  have H4 := Lib.hid (fun (W : World) => within_any retries 0 9 W)
  have H5 := Lib.hid (fun (W : World) => within64_any time 0 1000 W)
  rw [h1] at H1
  rw [h2] at H2
  rw [h3] at H3
  rw [h4] at H4
  rw [h5] at H5
  have HNO : Hid (leaseNo 6 task epoch time retries nm = if (b1 && b2) = false then 107 else 0) := Lib.hid (by unfold leaseNo; rw [h1, h2, h3, h4, h5]; simp)
  rw [HNO.out]
  obtain ⟨R, hR⟩ : ∃ R, (if (b1 && b2) = false then (107 : Int) else 0) = R := ⟨_, rfl⟩
  rw [hR]
  have HR := Lib.hid hR
  clear hR
  clear hE hb hc hea hnm h1 h2 h3 h4 h5
  go_enter Tryz.func63, Tryz.ntmps63
  go_upto_region 1 with (fail)
  generalize w.alloc _ = w2 at *
  obtain ⟨za, hza⟩ : ∃ za, za = w.heap.size := ⟨_, rfl⟩
  rw [← hza] at HCA
  simp only [← hza]
  clear hza
  have HFIN := Lib.hid HB0.out
  have ha := HCA.out
  have a3 := ha.cell 3 _ rfl
  have a8 := ha.cell 8 _ rfl
  have a11 := ha.cell 11 _ rfl
  have a12 := ha.cell 12 _ rfl
  have a13 := ha.cell 13 _ rfl
  have a14 := ha.cell 14 _ rfl
  have a15 := ha.cell 15 _ rfl
  clear ha
  cases b1 with
  | false =>
    go_wp2_with (first | (go_at_call 62; (with_reducible refine (H1.out _).mono ?_); rintro e w3 ⟨rfl, hw⟩; subst hw) | (go_at_call 33; first | ((with_reducible refine (H2.out _).mono ?_); rintro e w3 ⟨rfl, hw⟩; subst hw) | ((with_reducible refine (H4.out _).mono ?_); rintro e w3 ⟨rfl, hw⟩; subst hw)) | (go_at_call 80; first | ((with_reducible refine (H3.out _).mono ?_); rintro e w3 ⟨rfl, hw⟩; subst hw) | ((with_reducible refine (H5.out _).mono ?_); rintro e w3 ⟨rfl, hw⟩; subst hw)) | (go_at_call 61; refine (rangeFault_any _ HE.out HBW.out).mono ?_; rintro e w3 ⟨⟨ev, rfl, hev⟩, hw⟩; subst hw) | (go_at_call 59; refine (named_nil code HE.out HBW.out HC.out).mono ?_; rintro e w3 ⟨⟨ev, rfl, hev⟩, hw⟩; subst hw; rw [HNM.out] at hev) | (go_at_call 78; refine (vcheck_nil _).mono ?_; rintro e w3 ⟨rfl, hw⟩; subst hw))
    go_ret
    exact ⟨⟨_, rfl, by rw [← HR.out]; exact .err 107 ea HEA.out (by decide)⟩, HFIN.out⟩
  | true =>
    cases b2 with
    | false =>
      go_wp2_with (first | (go_at_call 62; (with_reducible refine (H1.out _).mono ?_); rintro e w3 ⟨rfl, hw⟩; subst hw) | (go_at_call 33; first | ((with_reducible refine (H2.out _).mono ?_); rintro e w3 ⟨rfl, hw⟩; subst hw) | ((with_reducible refine (H4.out _).mono ?_); rintro e w3 ⟨rfl, hw⟩; subst hw)) | (go_at_call 80; first | ((with_reducible refine (H3.out _).mono ?_); rintro e w3 ⟨rfl, hw⟩; subst hw) | ((with_reducible refine (H5.out _).mono ?_); rintro e w3 ⟨rfl, hw⟩; subst hw)) | (go_at_call 61; refine (rangeFault_any _ HE.out HBW.out).mono ?_; rintro e w3 ⟨⟨ev, rfl, hev⟩, hw⟩; subst hw) | (go_at_call 59; refine (named_nil code HE.out HBW.out HC.out).mono ?_; rintro e w3 ⟨⟨ev, rfl, hev⟩, hw⟩; subst hw; rw [HNM.out] at hev) | (go_at_call 78; refine (vcheck_nil _).mono ?_; rintro e w3 ⟨rfl, hw⟩; subst hw))
      go_ret
      exact ⟨⟨_, rfl, by rw [← HR.out]; exact .err 107 ea HEA.out (by decide)⟩, HFIN.out⟩
    | true =>
      go_wp2_with (first | (go_at_call 62; (with_reducible refine (H1.out _).mono ?_); rintro e w3 ⟨rfl, hw⟩; subst hw) | (go_at_call 33; first | ((with_reducible refine (H2.out _).mono ?_); rintro e w3 ⟨rfl, hw⟩; subst hw) | ((with_reducible refine (H4.out _).mono ?_); rintro e w3 ⟨rfl, hw⟩; subst hw)) | (go_at_call 80; first | ((with_reducible refine (H3.out _).mono ?_); rintro e w3 ⟨rfl, hw⟩; subst hw) | ((with_reducible refine (H5.out _).mono ?_); rintro e w3 ⟨rfl, hw⟩; subst hw)) | (go_at_call 61; refine (rangeFault_any _ HE.out HBW.out).mono ?_; rintro e w3 ⟨⟨ev, rfl, hev⟩, hw⟩; subst hw) | (go_at_call 59; refine (named_nil code HE.out HBW.out HC.out).mono ?_; rintro e w3 ⟨⟨ev, rfl, hev⟩, hw⟩; subst hw; rw [HNM.out] at hev) | (go_at_call 78; refine (vcheck_nil _).mono ?_; rintro e w3 ⟨rfl, hw⟩; subst hw))
      go_ret
      exact ⟨⟨_, rfl, by rw [← HR.out]; exact .nil⟩, HFIN.out⟩
set_option maxHeartbeats 1600000 in
set_option maxRecDepth 10000 in
theorem lease_7 {W w : World} {E : Int → Option Addr} (wkr pn name code : ByteArray) (inc key most time task epoch retries : Int) (NA FA TA : Option Addr) (nn nc fn fc tn tc : Nat) (hE : MsErrs W E) (hb : Below W.heap.size W w) (hc : code.size ≤ 9223372036854775807) :
    Calls Tryz.prog 63 #[.agg #[.string wkr, .int .i64 inc, .int .i64 key, .int .i64 7, .string pn, .slice NA nn nc, .slice FA fn fc, .string name, .slice none 0 0, .slice TA tn tc, .int .i64 most, .int .i64 time, .int .i64 task, .int .i64 epoch, .int .i64 retries, .string code]] w fun e w' => (∃ ev, e = .returned ev ∧ SeenBy E ev (leaseNo 7 task epoch time retries (Vr.name code.data.toList))) ∧ Below w.heap.size w w' := by
  have HE := Lib.hid hE
  have HC := Lib.hid hc
  have HB0 := Lib.hid ((Below.refl w.heap.size w).alloc (Nat.le_refl _) (.cells #[.string wkr, .int .i64 inc, .int .i64 key, .int .i64 7, .string pn, .slice NA nn nc, .slice FA fn fc, .string name, .slice none 0 0, .slice TA tn tc, .int .i64 most, .int .i64 time, .int .i64 task, .int .i64 epoch, .int .i64 retries, .string code] 33))
  have HBW := Lib.hid (hb.trans (HB0.out.mono hb.size))
  have HCA := Lib.hid (Cel.lit w #[.string wkr, .int .i64 inc, .int .i64 key, .int .i64 7, .string pn, .slice NA nn nc, .slice FA fn fc, .string name, .slice none 0 0, .slice TA tn tc, .int .i64 most, .int .i64 time, .int .i64 task, .int .i64 epoch, .int .i64 retries, .string code] 33)
  obtain ⟨ea, hea, hg⟩ := (hE.below HBW.out).e107
  unfold errV at hg
  have HEA := Lib.hid hea
  obtain ⟨nm, hnm⟩ : ∃ nm, Vr.name code.data.toList = nm := ⟨_, rfl⟩
  have HNM := Lib.hid hnm
  rw [hnm]
  obtain ⟨b1, h1⟩ : ∃ b, wi 1 1073741824 task = b := ⟨_, rfl⟩
  obtain ⟨b2, h2⟩ : ∃ b, wi 1 60 epoch = b := ⟨_, rfl⟩
  obtain ⟨b3, h3⟩ : ∃ b, wi 1 1000 time = b := ⟨_, rfl⟩
  obtain ⟨b4, h4⟩ : ∃ b, wi 0 9 retries = b := ⟨_, rfl⟩
  obtain ⟨b5, h5⟩ : ∃ b, wi 0 1000 time = b := ⟨_, rfl⟩
  have H1 := Lib.hid (fun (W : World) => isTask_any task W)
  have H2 := Lib.hid (fun (W : World) => within_any epoch 1 60 W)
  have H3 := Lib.hid (fun (W : World) => within64_any time 1 1000 W)
  have H4 := Lib.hid (fun (W : World) => within_any retries 0 9 W)
  have H5 := Lib.hid (fun (W : World) => within64_any time 0 1000 W)
  rw [h1] at H1
  rw [h2] at H2
  rw [h3] at H3
  rw [h4] at H4
  rw [h5] at H5
  have HNO : Hid (leaseNo 7 task epoch time retries nm = if (b1 && b2) = false then 107 else if (b4 && b5) = true then 0 else 107) := Lib.hid (by unfold leaseNo; rw [h1, h2, h3, h4, h5]; simp)
  rw [HNO.out]
  obtain ⟨R, hR⟩ : ∃ R, (if (b1 && b2) = false then (107 : Int) else if (b4 && b5) = true then 0 else 107) = R := ⟨_, rfl⟩
  rw [hR]
  have HR := Lib.hid hR
  clear hR
  clear hE hb hc hea hnm h1 h2 h3 h4 h5
  go_enter Tryz.func63, Tryz.ntmps63
  go_upto_region 1 with (fail)
  generalize w.alloc _ = w2 at *
  obtain ⟨za, hza⟩ : ∃ za, za = w.heap.size := ⟨_, rfl⟩
  rw [← hza] at HCA
  simp only [← hza]
  clear hza
  have HFIN := Lib.hid HB0.out
  have ha := HCA.out
  have a3 := ha.cell 3 _ rfl
  have a8 := ha.cell 8 _ rfl
  have a11 := ha.cell 11 _ rfl
  have a12 := ha.cell 12 _ rfl
  have a13 := ha.cell 13 _ rfl
  have a14 := ha.cell 14 _ rfl
  have a15 := ha.cell 15 _ rfl
  clear ha
  cases b1 with
  | false =>
    go_wp2_with (first | (go_at_call 62; (with_reducible refine (H1.out _).mono ?_); rintro e w3 ⟨rfl, hw⟩; subst hw) | (go_at_call 33; first | ((with_reducible refine (H2.out _).mono ?_); rintro e w3 ⟨rfl, hw⟩; subst hw) | ((with_reducible refine (H4.out _).mono ?_); rintro e w3 ⟨rfl, hw⟩; subst hw)) | (go_at_call 80; first | ((with_reducible refine (H3.out _).mono ?_); rintro e w3 ⟨rfl, hw⟩; subst hw) | ((with_reducible refine (H5.out _).mono ?_); rintro e w3 ⟨rfl, hw⟩; subst hw)) | (go_at_call 61; refine (rangeFault_any _ HE.out HBW.out).mono ?_; rintro e w3 ⟨⟨ev, rfl, hev⟩, hw⟩; subst hw) | (go_at_call 59; refine (named_nil code HE.out HBW.out HC.out).mono ?_; rintro e w3 ⟨⟨ev, rfl, hev⟩, hw⟩; subst hw; rw [HNM.out] at hev) | (go_at_call 78; refine (vcheck_nil _).mono ?_; rintro e w3 ⟨rfl, hw⟩; subst hw))
    go_ret
    exact ⟨⟨_, rfl, by rw [← HR.out]; exact .err 107 ea HEA.out (by decide)⟩, HFIN.out⟩
  | true =>
    cases b2 with
    | false =>
      go_wp2_with (first | (go_at_call 62; (with_reducible refine (H1.out _).mono ?_); rintro e w3 ⟨rfl, hw⟩; subst hw) | (go_at_call 33; first | ((with_reducible refine (H2.out _).mono ?_); rintro e w3 ⟨rfl, hw⟩; subst hw) | ((with_reducible refine (H4.out _).mono ?_); rintro e w3 ⟨rfl, hw⟩; subst hw)) | (go_at_call 80; first | ((with_reducible refine (H3.out _).mono ?_); rintro e w3 ⟨rfl, hw⟩; subst hw) | ((with_reducible refine (H5.out _).mono ?_); rintro e w3 ⟨rfl, hw⟩; subst hw)) | (go_at_call 61; refine (rangeFault_any _ HE.out HBW.out).mono ?_; rintro e w3 ⟨⟨ev, rfl, hev⟩, hw⟩; subst hw) | (go_at_call 59; refine (named_nil code HE.out HBW.out HC.out).mono ?_; rintro e w3 ⟨⟨ev, rfl, hev⟩, hw⟩; subst hw; rw [HNM.out] at hev) | (go_at_call 78; refine (vcheck_nil _).mono ?_; rintro e w3 ⟨rfl, hw⟩; subst hw))
      go_ret
      exact ⟨⟨_, rfl, by rw [← HR.out]; exact .err 107 ea HEA.out (by decide)⟩, HFIN.out⟩
    | true =>
      cases b4 with
      | false =>
        go_wp2_with (first | (go_at_call 62; (with_reducible refine (H1.out _).mono ?_); rintro e w3 ⟨rfl, hw⟩; subst hw) | (go_at_call 33; first | ((with_reducible refine (H2.out _).mono ?_); rintro e w3 ⟨rfl, hw⟩; subst hw) | ((with_reducible refine (H4.out _).mono ?_); rintro e w3 ⟨rfl, hw⟩; subst hw)) | (go_at_call 80; first | ((with_reducible refine (H3.out _).mono ?_); rintro e w3 ⟨rfl, hw⟩; subst hw) | ((with_reducible refine (H5.out _).mono ?_); rintro e w3 ⟨rfl, hw⟩; subst hw)) | (go_at_call 61; refine (rangeFault_any _ HE.out HBW.out).mono ?_; rintro e w3 ⟨⟨ev, rfl, hev⟩, hw⟩; subst hw) | (go_at_call 59; refine (named_nil code HE.out HBW.out HC.out).mono ?_; rintro e w3 ⟨⟨ev, rfl, hev⟩, hw⟩; subst hw; rw [HNM.out] at hev) | (go_at_call 78; refine (vcheck_nil _).mono ?_; rintro e w3 ⟨rfl, hw⟩; subst hw))
        go_ret
        exact ⟨⟨_, rfl, by rw [← HR.out]; simpa using hev⟩, HFIN.out⟩
      | true =>
        go_wp2_with (first | (go_at_call 62; (with_reducible refine (H1.out _).mono ?_); rintro e w3 ⟨rfl, hw⟩; subst hw) | (go_at_call 33; first | ((with_reducible refine (H2.out _).mono ?_); rintro e w3 ⟨rfl, hw⟩; subst hw) | ((with_reducible refine (H4.out _).mono ?_); rintro e w3 ⟨rfl, hw⟩; subst hw)) | (go_at_call 80; first | ((with_reducible refine (H3.out _).mono ?_); rintro e w3 ⟨rfl, hw⟩; subst hw) | ((with_reducible refine (H5.out _).mono ?_); rintro e w3 ⟨rfl, hw⟩; subst hw)) | (go_at_call 61; refine (rangeFault_any _ HE.out HBW.out).mono ?_; rintro e w3 ⟨⟨ev, rfl, hev⟩, hw⟩; subst hw) | (go_at_call 59; refine (named_nil code HE.out HBW.out HC.out).mono ?_; rintro e w3 ⟨⟨ev, rfl, hev⟩, hw⟩; subst hw; rw [HNM.out] at hev) | (go_at_call 78; refine (vcheck_nil _).mono ?_; rintro e w3 ⟨rfl, hw⟩; subst hw))
        go_ret
        exact ⟨⟨_, rfl, by rw [← HR.out]; simpa using hev⟩, HFIN.out⟩
set_option maxHeartbeats 1600000 in
set_option maxRecDepth 10000 in
theorem lease_8 {W w : World} {E : Int → Option Addr} (wkr pn name code : ByteArray) (inc key most time task epoch retries : Int) (NA FA TA : Option Addr) (nn nc fn fc tn tc : Nat) (hE : MsErrs W E) (hb : Below W.heap.size W w) (hc : code.size ≤ 9223372036854775807) :
    Calls Tryz.prog 63 #[.agg #[.string wkr, .int .i64 inc, .int .i64 key, .int .i64 8, .string pn, .slice NA nn nc, .slice FA fn fc, .string name, .slice none 0 0, .slice TA tn tc, .int .i64 most, .int .i64 time, .int .i64 task, .int .i64 epoch, .int .i64 retries, .string code]] w fun e w' => (∃ ev, e = .returned ev ∧ SeenBy E ev (leaseNo 8 task epoch time retries (Vr.name code.data.toList))) ∧ Below w.heap.size w w' := by
  have HE := Lib.hid hE
  have HC := Lib.hid hc
  have HB0 := Lib.hid ((Below.refl w.heap.size w).alloc (Nat.le_refl _) (.cells #[.string wkr, .int .i64 inc, .int .i64 key, .int .i64 8, .string pn, .slice NA nn nc, .slice FA fn fc, .string name, .slice none 0 0, .slice TA tn tc, .int .i64 most, .int .i64 time, .int .i64 task, .int .i64 epoch, .int .i64 retries, .string code] 33))
  have HBW := Lib.hid (hb.trans (HB0.out.mono hb.size))
  have HCA := Lib.hid (Cel.lit w #[.string wkr, .int .i64 inc, .int .i64 key, .int .i64 8, .string pn, .slice NA nn nc, .slice FA fn fc, .string name, .slice none 0 0, .slice TA tn tc, .int .i64 most, .int .i64 time, .int .i64 task, .int .i64 epoch, .int .i64 retries, .string code] 33)
  obtain ⟨ea, hea, hg⟩ := (hE.below HBW.out).e107
  unfold errV at hg
  have HEA := Lib.hid hea
  obtain ⟨nm, hnm⟩ : ∃ nm, Vr.name code.data.toList = nm := ⟨_, rfl⟩
  have HNM := Lib.hid hnm
  rw [hnm]
  obtain ⟨b1, h1⟩ : ∃ b, wi 1 1073741824 task = b := ⟨_, rfl⟩
  obtain ⟨b2, h2⟩ : ∃ b, wi 1 60 epoch = b := ⟨_, rfl⟩
  obtain ⟨b3, h3⟩ : ∃ b, wi 1 1000 time = b := ⟨_, rfl⟩
  obtain ⟨b4, h4⟩ : ∃ b, wi 0 9 retries = b := ⟨_, rfl⟩
  obtain ⟨b5, h5⟩ : ∃ b, wi 0 1000 time = b := ⟨_, rfl⟩
  have H1 := Lib.hid (fun (W : World) => isTask_any task W)
  have H2 := Lib.hid (fun (W : World) => within_any epoch 1 60 W)
  have H3 := Lib.hid (fun (W : World) => within64_any time 1 1000 W)
  have H4 := Lib.hid (fun (W : World) => within_any retries 0 9 W)
  have H5 := Lib.hid (fun (W : World) => within64_any time 0 1000 W)
  rw [h1] at H1
  rw [h2] at H2
  rw [h3] at H3
  rw [h4] at H4
  rw [h5] at H5
  have HNO : Hid (leaseNo 8 task epoch time retries nm = if (b1 && b2) = false then 107 else if nm = true then 0 else 106) := Lib.hid (by unfold leaseNo; rw [h1, h2, h3, h4, h5]; simp)
  rw [HNO.out]
  obtain ⟨R, hR⟩ : ∃ R, (if (b1 && b2) = false then (107 : Int) else if nm = true then 0 else 106) = R := ⟨_, rfl⟩
  rw [hR]
  have HR := Lib.hid hR
  clear hR
  clear hE hb hc hea hnm h1 h2 h3 h4 h5
  go_enter Tryz.func63, Tryz.ntmps63
  go_upto_region 1 with (fail)
  generalize w.alloc _ = w2 at *
  obtain ⟨za, hza⟩ : ∃ za, za = w.heap.size := ⟨_, rfl⟩
  rw [← hza] at HCA
  simp only [← hza]
  clear hza
  have HFIN := Lib.hid HB0.out
  have ha := HCA.out
  have a3 := ha.cell 3 _ rfl
  have a8 := ha.cell 8 _ rfl
  have a11 := ha.cell 11 _ rfl
  have a12 := ha.cell 12 _ rfl
  have a13 := ha.cell 13 _ rfl
  have a14 := ha.cell 14 _ rfl
  have a15 := ha.cell 15 _ rfl
  clear ha
  cases b1 with
  | false =>
    go_wp2_with (first | (go_at_call 62; (with_reducible refine (H1.out _).mono ?_); rintro e w3 ⟨rfl, hw⟩; subst hw) | (go_at_call 33; first | ((with_reducible refine (H2.out _).mono ?_); rintro e w3 ⟨rfl, hw⟩; subst hw) | ((with_reducible refine (H4.out _).mono ?_); rintro e w3 ⟨rfl, hw⟩; subst hw)) | (go_at_call 80; first | ((with_reducible refine (H3.out _).mono ?_); rintro e w3 ⟨rfl, hw⟩; subst hw) | ((with_reducible refine (H5.out _).mono ?_); rintro e w3 ⟨rfl, hw⟩; subst hw)) | (go_at_call 61; refine (rangeFault_any _ HE.out HBW.out).mono ?_; rintro e w3 ⟨⟨ev, rfl, hev⟩, hw⟩; subst hw) | (go_at_call 59; refine (named_nil code HE.out HBW.out HC.out).mono ?_; rintro e w3 ⟨⟨ev, rfl, hev⟩, hw⟩; subst hw; rw [HNM.out] at hev) | (go_at_call 78; refine (vcheck_nil _).mono ?_; rintro e w3 ⟨rfl, hw⟩; subst hw))
    go_ret
    exact ⟨⟨_, rfl, by rw [← HR.out]; exact .err 107 ea HEA.out (by decide)⟩, HFIN.out⟩
  | true =>
    cases b2 with
    | false =>
      go_wp2_with (first | (go_at_call 62; (with_reducible refine (H1.out _).mono ?_); rintro e w3 ⟨rfl, hw⟩; subst hw) | (go_at_call 33; first | ((with_reducible refine (H2.out _).mono ?_); rintro e w3 ⟨rfl, hw⟩; subst hw) | ((with_reducible refine (H4.out _).mono ?_); rintro e w3 ⟨rfl, hw⟩; subst hw)) | (go_at_call 80; first | ((with_reducible refine (H3.out _).mono ?_); rintro e w3 ⟨rfl, hw⟩; subst hw) | ((with_reducible refine (H5.out _).mono ?_); rintro e w3 ⟨rfl, hw⟩; subst hw)) | (go_at_call 61; refine (rangeFault_any _ HE.out HBW.out).mono ?_; rintro e w3 ⟨⟨ev, rfl, hev⟩, hw⟩; subst hw) | (go_at_call 59; refine (named_nil code HE.out HBW.out HC.out).mono ?_; rintro e w3 ⟨⟨ev, rfl, hev⟩, hw⟩; subst hw; rw [HNM.out] at hev) | (go_at_call 78; refine (vcheck_nil _).mono ?_; rintro e w3 ⟨rfl, hw⟩; subst hw))
      go_ret
      exact ⟨⟨_, rfl, by rw [← HR.out]; exact .err 107 ea HEA.out (by decide)⟩, HFIN.out⟩
    | true =>
      go_wp2_with (first | (go_at_call 62; (with_reducible refine (H1.out _).mono ?_); rintro e w3 ⟨rfl, hw⟩; subst hw) | (go_at_call 33; first | ((with_reducible refine (H2.out _).mono ?_); rintro e w3 ⟨rfl, hw⟩; subst hw) | ((with_reducible refine (H4.out _).mono ?_); rintro e w3 ⟨rfl, hw⟩; subst hw)) | (go_at_call 80; first | ((with_reducible refine (H3.out _).mono ?_); rintro e w3 ⟨rfl, hw⟩; subst hw) | ((with_reducible refine (H5.out _).mono ?_); rintro e w3 ⟨rfl, hw⟩; subst hw)) | (go_at_call 61; refine (rangeFault_any _ HE.out HBW.out).mono ?_; rintro e w3 ⟨⟨ev, rfl, hev⟩, hw⟩; subst hw) | (go_at_call 59; refine (named_nil code HE.out HBW.out HC.out).mono ?_; rintro e w3 ⟨⟨ev, rfl, hev⟩, hw⟩; subst hw; rw [HNM.out] at hev) | (go_at_call 78; refine (vcheck_nil _).mono ?_; rintro e w3 ⟨rfl, hw⟩; subst hw))
      go_ret
      exact ⟨⟨_, rfl, by rw [← HR.out]; simpa using hev⟩, HFIN.out⟩
end Ms
end Go.Proofs.YtggplgmjonnliaaGreatDoor
