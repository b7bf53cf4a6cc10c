/- Package message: Same against a request of no process and no variables. Printed by tools/specs/message/same2.py. -/
import Derived.Test.YtggplgmjonnliaaGreatDoorMse
import Derived.Test.YtggplgmjonnliaaGreatDoorCel
namespace Go.Proofs.YtggplgmjonnliaaGreatDoor
open Go.RowKit

namespace Ms
set_option maxHeartbeats 3200000 in
set_option maxRecDepth 10000 in
theorem same_bare (wkr pn name code name' code' : ByteArray) (inc key kind most time task epoch retries most' time' task' epoch' retries' : Int) (NA FA VA TA TB : Option Addr) (nn nc fn fc vn vc tn tc tm td : Nat) (w : World) (tb : Bool)
    (hT : ∀ W, Below w.heap.size w W → Calls Tryz.prog 31 #[.slice TA tn tc, .slice TB tm td] W fun e w' => e = .returned (.bool tb) ∧ Below W.heap.size W w')
    (p nb vb mb ib kb eb rb cb : Bool) (hp : (decide (pn = no) && (decide (nn = 0) && decide (fn = 0))) = p) (hnb : (name.toList == name'.toList) = nb) (hvb : decide (vn = 0) = vb) (hmb : (most == most') = mb) (hib : (time == time') = ib) (hkb : (task == task') = kb) (heb : (epoch == epoch') = eb) (hrb : (retries == retries') = rb) (hcb : (code.toList == code'.toList) = cb) :
    Calls Tryz.prog 11 #[.agg #[.string wkr, .int .i64 inc, .int .i64 key, .int .i64 kind, .string pn, .slice NA nn nc, .slice FA fn fc, .string name, .slice VA vn vc, .slice TA tn tc, .int .i64 most, .int .i64 time, .int .i64 task, .int .i64 epoch, .int .i64 retries, .string code], .agg #[.string wkr, .int .i64 inc, .int .i64 key, .int .i64 kind, .string ⟨#[]⟩, .slice none 0 0, .slice none 0 0, .string name', .slice none 0 0, .slice TB tm td, .int .i64 most', .int .i64 time', .int .i64 task', .int .i64 epoch', .int .i64 retries', .string code']] w fun e w' => e = .returned (.bool (p && (nb && (vb && (tb && (mb && (ib && (kb && (eb && (rb && cb)))))))))) ∧ Below w.heap.size w w' := by
  have HP := Lib.hid (fun (W : World) => sameProcess_zero pn NA FA nn nc fn fc W)
  rw [hp] at HP
  have HV := Lib.hid (fun (W : World) => vsame_nil VA vn vc W)
  rw [hvb] at HV
  have HT := Lib.hid hT
  have HB0 := Lib.hid (((Below.refl w.heap.size w).alloc (Nat.le_refl _) (.cells #[.string wkr, .int .i64 inc, .int .i64 key, .int .i64 kind, .string pn, .slice NA nn nc, .slice FA fn fc, .string name, .slice VA vn vc, .slice TA tn tc, .int .i64 most, .int .i64 time, .int .i64 task, .int .i64 epoch, .int .i64 retries, .string code] 33)).alloc (by simp) (.cells #[.string wkr, .int .i64 inc, .int .i64 key, .int .i64 kind, .string ⟨#[]⟩, .slice none 0 0, .slice none 0 0, .string name', .slice none 0 0, .slice TB tm td, .int .i64 most', .int .i64 time', .int .i64 task', .int .i64 epoch', .int .i64 retries', .string code'] 33))
  have hca := (Cel.lit w #[.string wkr, .int .i64 inc, .int .i64 key, .int .i64 kind, .string pn, .slice NA nn nc, .slice FA fn fc, .string name, .slice VA vn vc, .slice TA tn tc, .int .i64 most, .int .i64 time, .int .i64 task, .int .i64 epoch, .int .i64 retries, .string code] 33).below ((Below.refl _ _).alloc (Nat.le_refl _) (.cells #[.string wkr, .int .i64 inc, .int .i64 key, .int .i64 kind, .string ⟨#[]⟩, .slice none 0 0, .slice none 0 0, .string name', .slice none 0 0, .slice TB tm td, .int .i64 most', .int .i64 time', .int .i64 task', .int .i64 epoch', .int .i64 retries', .string code'] 33)) (Nat.le_refl _)
  have hcb' := Cel.lit (w.alloc (.cells #[.string wkr, .int .i64 inc, .int .i64 key, .int .i64 kind, .string pn, .slice NA nn nc, .slice FA fn fc, .string name, .slice VA vn vc, .slice TA tn tc, .int .i64 most, .int .i64 time, .int .i64 task, .int .i64 epoch, .int .i64 retries, .string code] 33)) #[.string wkr, .int .i64 inc, .int .i64 key, .int .i64 kind, .string ⟨#[]⟩, .slice none 0 0, .slice none 0 0, .string name', .slice none 0 0, .slice TB tm td, .int .i64 most', .int .i64 time', .int .i64 task', .int .i64 epoch', .int .i64 retries', .string code'] 33
  rw [show (w.alloc (.cells #[.string wkr, .int .i64 inc, .int .i64 key, .int .i64 kind, .string pn, .slice NA nn nc, .slice FA fn fc, .string name, .slice VA vn vc, .slice TA tn tc, .int .i64 most, .int .i64 time, .int .i64 task, .int .i64 epoch, .int .i64 retries, .string code] 33)).heap.size = w.heap.size + 1 by simp] at hcb'
  have HCA := Lib.hid hca
  have HCB := Lib.hid hcb'
  clear hca hcb' hT hp hvb
  go_enter Tryz.func11, Tryz.ntmps11
  go_upto_region 1 with (fail)
  generalize (w.alloc _).alloc _ = w2 at *
  generalize w.heap.size + 1 = zb at *
  obtain ⟨za, hza⟩ : ∃ za, za = w.heap.size := ⟨_, rfl⟩
  have HZA := Lib.hid (show w.heap.size ≤ za by omega)
  rw [← hza] at HCA
  simp only [← hza]
  clear hza
  have ha := HCA.out
  have hb := HCB.out
  have a0 := ha.cell 0 _ rfl
  have b0 := hb.cell 0 _ rfl
  have a1 := ha.cell 1 _ rfl
  have b1 := hb.cell 1 _ rfl
  have a2 := ha.cell 2 _ rfl
  have b2 := hb.cell 2 _ rfl
  have a3 := ha.cell 3 _ rfl
  have b3 := hb.cell 3 _ rfl
  have a4 := ha.cell 4 _ rfl
  have b4 := hb.cell 4 _ rfl
  have a5 := ha.cell 5 _ rfl
  have b5 := hb.cell 5 _ rfl
  have a6 := ha.cell 6 _ rfl
  have b6 := hb.cell 6 _ rfl
  have a7 := ha.cell 7 _ rfl
  have b7 := hb.cell 7 _ rfl
  have a8 := ha.cell 8 _ rfl
  have b8 := hb.cell 8 _ rfl
  have a9 := ha.cell 9 _ rfl
  have b9 := hb.cell 9 _ rfl
  have a10 := ha.cell 10 _ rfl
  have b10 := hb.cell 10 _ rfl
  have a11 := ha.cell 11 _ rfl
  have b11 := hb.cell 11 _ rfl
  have a12 := ha.cell 12 _ rfl
  have b12 := hb.cell 12 _ rfl
  have a13 := ha.cell 13 _ rfl
  have b13 := hb.cell 13 _ rfl
  have a14 := ha.cell 14 _ rfl
  have b14 := hb.cell 14 _ rfl
  have a15 := ha.cell 15 _ rfl
  have b15 := hb.cell 15 _ rfl
  clear ha hb
  cases p with
  | false =>
    go_wp2_with (first | (go_at_call 29; (with_reducible refine (HP.out _).mono ?_); rintro e w3 ⟨rfl, hb3⟩; have H3 := Lib.hid hb3; clear hb3; have ha := HCA.out.below H3.out (Nat.le_refl _); have hb := HCB.out.below H3.out (Nat.le_refl _); clear a0 b0 a1 b1 a2 b2 a3 b3 a4 b4 a5 b5 a6 b6 a7 b7 a8 b8 a9 b9 a10 b10 a11 b11 a12 b12 a13 b13 a14 b14 a15 b15; have a7 := ha.cell 7 _ rfl; have b7 := hb.cell 7 _ rfl; have a8 := ha.cell 8 _ rfl; have b8 := hb.cell 8 _ rfl; have a9 := ha.cell 9 _ rfl; have b9 := hb.cell 9 _ rfl; have a10 := ha.cell 10 _ rfl; have b10 := hb.cell 10 _ rfl; have a11 := ha.cell 11 _ rfl; have b11 := hb.cell 11 _ rfl; have a12 := ha.cell 12 _ rfl; have b12 := hb.cell 12 _ rfl; have a13 := ha.cell 13 _ rfl; have b13 := hb.cell 13 _ rfl; have a14 := ha.cell 14 _ rfl; have b14 := hb.cell 14 _ rfl; have a15 := ha.cell 15 _ rfl; have b15 := hb.cell 15 _ rfl; clear ha hb) | (go_at_call 30; (with_reducible refine (HV.out _).mono ?_); rintro e w4 ⟨rfl, rfl⟩) | (go_at_call 31; (with_reducible refine (HT.out _ (HB0.out.trans (H3.out.mono HB0.out.size))).mono ?_); rintro e w5 ⟨rfl, hb5⟩; have H5 := Lib.hid (H3.out.trans (hb5.mono H3.out.size)); clear hb5; have ha := HCA.out.below H5.out (Nat.le_refl _); have hb := HCB.out.below H5.out (Nat.le_refl _); clear a7 b7 a8 b8 a9 b9 a10 b10 a11 b11 a12 b12 a13 b13 a14 b14 a15 b15; have a10 := ha.cell 10 _ rfl; have b10 := hb.cell 10 _ rfl; have a11 := ha.cell 11 _ rfl; have b11 := hb.cell 11 _ rfl; have a12 := ha.cell 12 _ rfl; have b12 := hb.cell 12 _ rfl; have a13 := ha.cell 13 _ rfl; have b13 := hb.cell 13 _ rfl; have a14 := ha.cell 14 _ rfl; have b14 := hb.cell 14 _ rfl; have a15 := ha.cell 15 _ rfl; have b15 := hb.cell 15 _ rfl; clear ha hb))
    go_ret
    exact ⟨by simp, HB0.out.trans (H3.out.mono HB0.out.size)⟩
  | true =>
    cases nb with
    | false =>
      go_wp2_with (first | (go_at_call 29; (with_reducible refine (HP.out _).mono ?_); rintro e w3 ⟨rfl, hb3⟩; have H3 := Lib.hid hb3; clear hb3; have ha := HCA.out.below H3.out (Nat.le_refl _); have hb := HCB.out.below H3.out (Nat.le_refl _); clear a0 b0 a1 b1 a2 b2 a3 b3 a4 b4 a5 b5 a6 b6 a7 b7 a8 b8 a9 b9 a10 b10 a11 b11 a12 b12 a13 b13 a14 b14 a15 b15; have a7 := ha.cell 7 _ rfl; have b7 := hb.cell 7 _ rfl; have a8 := ha.cell 8 _ rfl; have b8 := hb.cell 8 _ rfl; have a9 := ha.cell 9 _ rfl; have b9 := hb.cell 9 _ rfl; have a10 := ha.cell 10 _ rfl; have b10 := hb.cell 10 _ rfl; have a11 := ha.cell 11 _ rfl; have b11 := hb.cell 11 _ rfl; have a12 := ha.cell 12 _ rfl; have b12 := hb.cell 12 _ rfl; have a13 := ha.cell 13 _ rfl; have b13 := hb.cell 13 _ rfl; have a14 := ha.cell 14 _ rfl; have b14 := hb.cell 14 _ rfl; have a15 := ha.cell 15 _ rfl; have b15 := hb.cell 15 _ rfl; clear ha hb) | (go_at_call 30; (with_reducible refine (HV.out _).mono ?_); rintro e w4 ⟨rfl, rfl⟩) | (go_at_call 31; (with_reducible refine (HT.out _ (HB0.out.trans (H3.out.mono HB0.out.size))).mono ?_); rintro e w5 ⟨rfl, hb5⟩; have H5 := Lib.hid (H3.out.trans (hb5.mono H3.out.size)); clear hb5; have ha := HCA.out.below H5.out (Nat.le_refl _); have hb := HCB.out.below H5.out (Nat.le_refl _); clear a7 b7 a8 b8 a9 b9 a10 b10 a11 b11 a12 b12 a13 b13 a14 b14 a15 b15; have a10 := ha.cell 10 _ rfl; have b10 := hb.cell 10 _ rfl; have a11 := ha.cell 11 _ rfl; have b11 := hb.cell 11 _ rfl; have a12 := ha.cell 12 _ rfl; have b12 := hb.cell 12 _ rfl; have a13 := ha.cell 13 _ rfl; have b13 := hb.cell 13 _ rfl; have a14 := ha.cell 14 _ rfl; have b14 := hb.cell 14 _ rfl; have a15 := ha.cell 15 _ rfl; have b15 := hb.cell 15 _ rfl; clear ha hb))
      go_ret
      exact ⟨by simp, HB0.out.trans (H3.out.mono HB0.out.size)⟩
    | true =>
      cases vb with
      | false =>
        go_wp2_with (first | (go_at_call 29; (with_reducible refine (HP.out _).mono ?_); rintro e w3 ⟨rfl, hb3⟩; have H3 := Lib.hid hb3; clear hb3; have ha := HCA.out.below H3.out (Nat.le_refl _); have hb := HCB.out.below H3.out (Nat.le_refl _); clear a0 b0 a1 b1 a2 b2 a3 b3 a4 b4 a5 b5 a6 b6 a7 b7 a8 b8 a9 b9 a10 b10 a11 b11 a12 b12 a13 b13 a14 b14 a15 b15; have a7 := ha.cell 7 _ rfl; have b7 := hb.cell 7 _ rfl; have a8 := ha.cell 8 _ rfl; have b8 := hb.cell 8 _ rfl; have a9 := ha.cell 9 _ rfl; have b9 := hb.cell 9 _ rfl; have a10 := ha.cell 10 _ rfl; have b10 := hb.cell 10 _ rfl; have a11 := ha.cell 11 _ rfl; have b11 := hb.cell 11 _ rfl; have a12 := ha.cell 12 _ rfl; have b12 := hb.cell 12 _ rfl; have a13 := ha.cell 13 _ rfl; have b13 := hb.cell 13 _ rfl; have a14 := ha.cell 14 _ rfl; have b14 := hb.cell 14 _ rfl; have a15 := ha.cell 15 _ rfl; have b15 := hb.cell 15 _ rfl; clear ha hb) | (go_at_call 30; (with_reducible refine (HV.out _).mono ?_); rintro e w4 ⟨rfl, rfl⟩) | (go_at_call 31; (with_reducible refine (HT.out _ (HB0.out.trans (H3.out.mono HB0.out.size))).mono ?_); rintro e w5 ⟨rfl, hb5⟩; have H5 := Lib.hid (H3.out.trans (hb5.mono H3.out.size)); clear hb5; have ha := HCA.out.below H5.out (Nat.le_refl _); have hb := HCB.out.below H5.out (Nat.le_refl _); clear a7 b7 a8 b8 a9 b9 a10 b10 a11 b11 a12 b12 a13 b13 a14 b14 a15 b15; have a10 := ha.cell 10 _ rfl; have b10 := hb.cell 10 _ rfl; have a11 := ha.cell 11 _ rfl; have b11 := hb.cell 11 _ rfl; have a12 := ha.cell 12 _ rfl; have b12 := hb.cell 12 _ rfl; have a13 := ha.cell 13 _ rfl; have b13 := hb.cell 13 _ rfl; have a14 := ha.cell 14 _ rfl; have b14 := hb.cell 14 _ rfl; have a15 := ha.cell 15 _ rfl; have b15 := hb.cell 15 _ rfl; clear ha hb))
        go_ret
        exact ⟨by simp, HB0.out.trans (H3.out.mono HB0.out.size)⟩
      | true =>
        cases tb with
        | false =>
          go_wp2_with (first | (go_at_call 29; (with_reducible refine (HP.out _).mono ?_); rintro e w3 ⟨rfl, hb3⟩; have H3 := Lib.hid hb3; clear hb3; have ha := HCA.out.below H3.out (Nat.le_refl _); have hb := HCB.out.below H3.out (Nat.le_refl _); clear a0 b0 a1 b1 a2 b2 a3 b3 a4 b4 a5 b5 a6 b6 a7 b7 a8 b8 a9 b9 a10 b10 a11 b11 a12 b12 a13 b13 a14 b14 a15 b15; have a7 := ha.cell 7 _ rfl; have b7 := hb.cell 7 _ rfl; have a8 := ha.cell 8 _ rfl; have b8 := hb.cell 8 _ rfl; have a9 := ha.cell 9 _ rfl; have b9 := hb.cell 9 _ rfl; have a10 := ha.cell 10 _ rfl; have b10 := hb.cell 10 _ rfl; have a11 := ha.cell 11 _ rfl; have b11 := hb.cell 11 _ rfl; have a12 := ha.cell 12 _ rfl; have b12 := hb.cell 12 _ rfl; have a13 := ha.cell 13 _ rfl; have b13 := hb.cell 13 _ rfl; have a14 := ha.cell 14 _ rfl; have b14 := hb.cell 14 _ rfl; have a15 := ha.cell 15 _ rfl; have b15 := hb.cell 15 _ rfl; clear ha hb) | (go_at_call 30; (with_reducible refine (HV.out _).mono ?_); rintro e w4 ⟨rfl, rfl⟩) | (go_at_call 31; (with_reducible refine (HT.out _ (HB0.out.trans (H3.out.mono HB0.out.size))).mono ?_); rintro e w5 ⟨rfl, hb5⟩; have H5 := Lib.hid (H3.out.trans (hb5.mono H3.out.size)); clear hb5; have ha := HCA.out.below H5.out (Nat.le_refl _); have hb := HCB.out.below H5.out (Nat.le_refl _); clear a7 b7 a8 b8 a9 b9 a10 b10 a11 b11 a12 b12 a13 b13 a14 b14 a15 b15; have a10 := ha.cell 10 _ rfl; have b10 := hb.cell 10 _ rfl; have a11 := ha.cell 11 _ rfl; have b11 := hb.cell 11 _ rfl; have a12 := ha.cell 12 _ rfl; have b12 := hb.cell 12 _ rfl; have a13 := ha.cell 13 _ rfl; have b13 := hb.cell 13 _ rfl; have a14 := ha.cell 14 _ rfl; have b14 := hb.cell 14 _ rfl; have a15 := ha.cell 15 _ rfl; have b15 := hb.cell 15 _ rfl; clear ha hb))
          go_ret
          exact ⟨by simp, HB0.out.trans (H5.out.mono HB0.out.size)⟩
        | true =>
          cases mb with
          | false =>
            go_wp2_with (first | (go_at_call 29; (with_reducible refine (HP.out _).mono ?_); rintro e w3 ⟨rfl, hb3⟩; have H3 := Lib.hid hb3; clear hb3; have ha := HCA.out.below H3.out (Nat.le_refl _); have hb := HCB.out.below H3.out (Nat.le_refl _); clear a0 b0 a1 b1 a2 b2 a3 b3 a4 b4 a5 b5 a6 b6 a7 b7 a8 b8 a9 b9 a10 b10 a11 b11 a12 b12 a13 b13 a14 b14 a15 b15; have a7 := ha.cell 7 _ rfl; have b7 := hb.cell 7 _ rfl; have a8 := ha.cell 8 _ rfl; have b8 := hb.cell 8 _ rfl; have a9 := ha.cell 9 _ rfl; have b9 := hb.cell 9 _ rfl; have a10 := ha.cell 10 _ rfl; have b10 := hb.cell 10 _ rfl; have a11 := ha.cell 11 _ rfl; have b11 := hb.cell 11 _ rfl; have a12 := ha.cell 12 _ rfl; have b12 := hb.cell 12 _ rfl; have a13 := ha.cell 13 _ rfl; have b13 := hb.cell 13 _ rfl; have a14 := ha.cell 14 _ rfl; have b14 := hb.cell 14 _ rfl; have a15 := ha.cell 15 _ rfl; have b15 := hb.cell 15 _ rfl; clear ha hb) | (go_at_call 30; (with_reducible refine (HV.out _).mono ?_); rintro e w4 ⟨rfl, rfl⟩) | (go_at_call 31; (with_reducible refine (HT.out _ (HB0.out.trans (H3.out.mono HB0.out.size))).mono ?_); rintro e w5 ⟨rfl, hb5⟩; have H5 := Lib.hid (H3.out.trans (hb5.mono H3.out.size)); clear hb5; have ha := HCA.out.below H5.out (Nat.le_refl _); have hb := HCB.out.below H5.out (Nat.le_refl _); clear a7 b7 a8 b8 a9 b9 a10 b10 a11 b11 a12 b12 a13 b13 a14 b14 a15 b15; have a10 := ha.cell 10 _ rfl; have b10 := hb.cell 10 _ rfl; have a11 := ha.cell 11 _ rfl; have b11 := hb.cell 11 _ rfl; have a12 := ha.cell 12 _ rfl; have b12 := hb.cell 12 _ rfl; have a13 := ha.cell 13 _ rfl; have b13 := hb.cell 13 _ rfl; have a14 := ha.cell 14 _ rfl; have b14 := hb.cell 14 _ rfl; have a15 := ha.cell 15 _ rfl; have b15 := hb.cell 15 _ rfl; clear ha hb))
            go_ret
            exact ⟨by simp, HB0.out.trans (H5.out.mono HB0.out.size)⟩
          | true =>
            cases ib with
            | false =>
              go_wp2_with (first | (go_at_call 29; (with_reducible refine (HP.out _).mono ?_); rintro e w3 ⟨rfl, hb3⟩; have H3 := Lib.hid hb3; clear hb3; have ha := HCA.out.below H3.out (Nat.le_refl _); have hb := HCB.out.below H3.out (Nat.le_refl _); clear a0 b0 a1 b1 a2 b2 a3 b3 a4 b4 a5 b5 a6 b6 a7 b7 a8 b8 a9 b9 a10 b10 a11 b11 a12 b12 a13 b13 a14 b14 a15 b15; have a7 := ha.cell 7 _ rfl; have b7 := hb.cell 7 _ rfl; have a8 := ha.cell 8 _ rfl; have b8 := hb.cell 8 _ rfl; have a9 := ha.cell 9 _ rfl; have b9 := hb.cell 9 _ rfl; have a10 := ha.cell 10 _ rfl; have b10 := hb.cell 10 _ rfl; have a11 := ha.cell 11 _ rfl; have b11 := hb.cell 11 _ rfl; have a12 := ha.cell 12 _ rfl; have b12 := hb.cell 12 _ rfl; have a13 := ha.cell 13 _ rfl; have b13 := hb.cell 13 _ rfl; have a14 := ha.cell 14 _ rfl; have b14 := hb.cell 14 _ rfl; have a15 := ha.cell 15 _ rfl; have b15 := hb.cell 15 _ rfl; clear ha hb) | (go_at_call 30; (with_reducible refine (HV.out _).mono ?_); rintro e w4 ⟨rfl, rfl⟩) | (go_at_call 31; (with_reducible refine (HT.out _ (HB0.out.trans (H3.out.mono HB0.out.size))).mono ?_); rintro e w5 ⟨rfl, hb5⟩; have H5 := Lib.hid (H3.out.trans (hb5.mono H3.out.size)); clear hb5; have ha := HCA.out.below H5.out (Nat.le_refl _); have hb := HCB.out.below H5.out (Nat.le_refl _); clear a7 b7 a8 b8 a9 b9 a10 b10 a11 b11 a12 b12 a13 b13 a14 b14 a15 b15; have a10 := ha.cell 10 _ rfl; have b10 := hb.cell 10 _ rfl; have a11 := ha.cell 11 _ rfl; have b11 := hb.cell 11 _ rfl; have a12 := ha.cell 12 _ rfl; have b12 := hb.cell 12 _ rfl; have a13 := ha.cell 13 _ rfl; have b13 := hb.cell 13 _ rfl; have a14 := ha.cell 14 _ rfl; have b14 := hb.cell 14 _ rfl; have a15 := ha.cell 15 _ rfl; have b15 := hb.cell 15 _ rfl; clear ha hb))
              go_ret
              exact ⟨by simp, HB0.out.trans (H5.out.mono HB0.out.size)⟩
            | true =>
              cases kb with
              | false =>
                go_wp2_with (first | (go_at_call 29; (with_reducible refine (HP.out _).mono ?_); rintro e w3 ⟨rfl, hb3⟩; have H3 := Lib.hid hb3; clear hb3; have ha := HCA.out.below H3.out (Nat.le_refl _); have hb := HCB.out.below H3.out (Nat.le_refl _); clear a0 b0 a1 b1 a2 b2 a3 b3 a4 b4 a5 b5 a6 b6 a7 b7 a8 b8 a9 b9 a10 b10 a11 b11 a12 b12 a13 b13 a14 b14 a15 b15; have a7 := ha.cell 7 _ rfl; have b7 := hb.cell 7 _ rfl; have a8 := ha.cell 8 _ rfl; have b8 := hb.cell 8 _ rfl; have a9 := ha.cell 9 _ rfl; have b9 := hb.cell 9 _ rfl; have a10 := ha.cell 10 _ rfl; have b10 := hb.cell 10 _ rfl; have a11 := ha.cell 11 _ rfl; have b11 := hb.cell 11 _ rfl; have a12 := ha.cell 12 _ rfl; have b12 := hb.cell 12 _ rfl; have a13 := ha.cell 13 _ rfl; have b13 := hb.cell 13 _ rfl; have a14 := ha.cell 14 _ rfl; have b14 := hb.cell 14 _ rfl; have a15 := ha.cell 15 _ rfl; have b15 := hb.cell 15 _ rfl; clear ha hb) | (go_at_call 30; (with_reducible refine (HV.out _).mono ?_); rintro e w4 ⟨rfl, rfl⟩) | (go_at_call 31; (with_reducible refine (HT.out _ (HB0.out.trans (H3.out.mono HB0.out.size))).mono ?_); rintro e w5 ⟨rfl, hb5⟩; have H5 := Lib.hid (H3.out.trans (hb5.mono H3.out.size)); clear hb5; have ha := HCA.out.below H5.out (Nat.le_refl _); have hb := HCB.out.below H5.out (Nat.le_refl _); clear a7 b7 a8 b8 a9 b9 a10 b10 a11 b11 a12 b12 a13 b13 a14 b14 a15 b15; have a10 := ha.cell 10 _ rfl; have b10 := hb.cell 10 _ rfl; have a11 := ha.cell 11 _ rfl; have b11 := hb.cell 11 _ rfl; have a12 := ha.cell 12 _ rfl; have b12 := hb.cell 12 _ rfl; have a13 := ha.cell 13 _ rfl; have b13 := hb.cell 13 _ rfl; have a14 := ha.cell 14 _ rfl; have b14 := hb.cell 14 _ rfl; have a15 := ha.cell 15 _ rfl; have b15 := hb.cell 15 _ rfl; clear ha hb))
                go_ret
                exact ⟨by simp, HB0.out.trans (H5.out.mono HB0.out.size)⟩
              | true =>
                cases eb with
                | false =>
                  go_wp2_with (first | (go_at_call 29; (with_reducible refine (HP.out _).mono ?_); rintro e w3 ⟨rfl, hb3⟩; have H3 := Lib.hid hb3; clear hb3; have ha := HCA.out.below H3.out (Nat.le_refl _); have hb := HCB.out.below H3.out (Nat.le_refl _); clear a0 b0 a1 b1 a2 b2 a3 b3 a4 b4 a5 b5 a6 b6 a7 b7 a8 b8 a9 b9 a10 b10 a11 b11 a12 b12 a13 b13 a14 b14 a15 b15; have a7 := ha.cell 7 _ rfl; have b7 := hb.cell 7 _ rfl; have a8 := ha.cell 8 _ rfl; have b8 := hb.cell 8 _ rfl; have a9 := ha.cell 9 _ rfl; have b9 := hb.cell 9 _ rfl; have a10 := ha.cell 10 _ rfl; have b10 := hb.cell 10 _ rfl; have a11 := ha.cell 11 _ rfl; have b11 := hb.cell 11 _ rfl; have a12 := ha.cell 12 _ rfl; have b12 := hb.cell 12 _ rfl; have a13 := ha.cell 13 _ rfl; have b13 := hb.cell 13 _ rfl; have a14 := ha.cell 14 _ rfl; have b14 := hb.cell 14 _ rfl; have a15 := ha.cell 15 _ rfl; have b15 := hb.cell 15 _ rfl; clear ha hb) | (go_at_call 30; (with_reducible refine (HV.out _).mono ?_); rintro e w4 ⟨rfl, rfl⟩) | (go_at_call 31; (with_reducible refine (HT.out _ (HB0.out.trans (H3.out.mono HB0.out.size))).mono ?_); rintro e w5 ⟨rfl, hb5⟩; have H5 := Lib.hid (H3.out.trans (hb5.mono H3.out.size)); clear hb5; have ha := HCA.out.below H5.out (Nat.le_refl _); have hb := HCB.out.below H5.out (Nat.le_refl _); clear a7 b7 a8 b8 a9 b9 a10 b10 a11 b11 a12 b12 a13 b13 a14 b14 a15 b15; have a10 := ha.cell 10 _ rfl; have b10 := hb.cell 10 _ rfl; have a11 := ha.cell 11 _ rfl; have b11 := hb.cell 11 _ rfl; have a12 := ha.cell 12 _ rfl; have b12 := hb.cell 12 _ rfl; have a13 := ha.cell 13 _ rfl; have b13 := hb.cell 13 _ rfl; have a14 := ha.cell 14 _ rfl; have b14 := hb.cell 14 _ rfl; have a15 := ha.cell 15 _ rfl; have b15 := hb.cell 15 _ rfl; clear ha hb))
                  go_ret
                  exact ⟨by simp, HB0.out.trans (H5.out.mono HB0.out.size)⟩
                | true =>
                  cases rb with
                  | false =>
                    go_wp2_with (first | (go_at_call 29; (with_reducible refine (HP.out _).mono ?_); rintro e w3 ⟨rfl, hb3⟩; have H3 := Lib.hid hb3; clear hb3; have ha := HCA.out.below H3.out (Nat.le_refl _); have hb := HCB.out.below H3.out (Nat.le_refl _); clear a0 b0 a1 b1 a2 b2 a3 b3 a4 b4 a5 b5 a6 b6 a7 b7 a8 b8 a9 b9 a10 b10 a11 b11 a12 b12 a13 b13 a14 b14 a15 b15; have a7 := ha.cell 7 _ rfl; have b7 := hb.cell 7 _ rfl; have a8 := ha.cell 8 _ rfl; have b8 := hb.cell 8 _ rfl; have a9 := ha.cell 9 _ rfl; have b9 := hb.cell 9 _ rfl; have a10 := ha.cell 10 _ rfl; have b10 := hb.cell 10 _ rfl; have a11 := ha.cell 11 _ rfl; have b11 := hb.cell 11 _ rfl; have a12 := ha.cell 12 _ rfl; have b12 := hb.cell 12 _ rfl; have a13 := ha.cell 13 _ rfl; have b13 := hb.cell 13 _ rfl; have a14 := ha.cell 14 _ rfl; have b14 := hb.cell 14 _ rfl; have a15 := ha.cell 15 _ rfl; have b15 := hb.cell 15 _ rfl; clear ha hb) | (go_at_call 30; (with_reducible refine (HV.out _).mono ?_); rintro e w4 ⟨rfl, rfl⟩) | (go_at_call 31; (with_reducible refine (HT.out _ (HB0.out.trans (H3.out.mono HB0.out.size))).mono ?_); rintro e w5 ⟨rfl, hb5⟩; have H5 := Lib.hid (H3.out.trans (hb5.mono H3.out.size)); clear hb5; have ha := HCA.out.below H5.out (Nat.le_refl _); have hb := HCB.out.below H5.out (Nat.le_refl _); clear a7 b7 a8 b8 a9 b9 a10 b10 a11 b11 a12 b12 a13 b13 a14 b14 a15 b15; have a10 := ha.cell 10 _ rfl; have b10 := hb.cell 10 _ rfl; have a11 := ha.cell 11 _ rfl; have b11 := hb.cell 11 _ rfl; have a12 := ha.cell 12 _ rfl; have b12 := hb.cell 12 _ rfl; have a13 := ha.cell 13 _ rfl; have b13 := hb.cell 13 _ rfl; have a14 := ha.cell 14 _ rfl; have b14 := hb.cell 14 _ rfl; have a15 := ha.cell 15 _ rfl; have b15 := hb.cell 15 _ rfl; clear ha hb))
                    go_ret
                    exact ⟨by simp, HB0.out.trans (H5.out.mono HB0.out.size)⟩
                  | true =>
                    cases cb with
                    | false =>
                      go_wp2_with (first | (go_at_call 29; (with_reducible refine (HP.out _).mono ?_); rintro e w3 ⟨rfl, hb3⟩; have H3 := Lib.hid hb3; clear hb3; have ha := HCA.out.below H3.out (Nat.le_refl _); have hb := HCB.out.below H3.out (Nat.le_refl _); clear a0 b0 a1 b1 a2 b2 a3 b3 a4 b4 a5 b5 a6 b6 a7 b7 a8 b8 a9 b9 a10 b10 a11 b11 a12 b12 a13 b13 a14 b14 a15 b15; have a7 := ha.cell 7 _ rfl; have b7 := hb.cell 7 _ rfl; have a8 := ha.cell 8 _ rfl; have b8 := hb.cell 8 _ rfl; have a9 := ha.cell 9 _ rfl; have b9 := hb.cell 9 _ rfl; have a10 := ha.cell 10 _ rfl; have b10 := hb.cell 10 _ rfl; have a11 := ha.cell 11 _ rfl; have b11 := hb.cell 11 _ rfl; have a12 := ha.cell 12 _ rfl; have b12 := hb.cell 12 _ rfl; have a13 := ha.cell 13 _ rfl; have b13 := hb.cell 13 _ rfl; have a14 := ha.cell 14 _ rfl; have b14 := hb.cell 14 _ rfl; have a15 := ha.cell 15 _ rfl; have b15 := hb.cell 15 _ rfl; clear ha hb) | (go_at_call 30; (with_reducible refine (HV.out _).mono ?_); rintro e w4 ⟨rfl, rfl⟩) | (go_at_call 31; (with_reducible refine (HT.out _ (HB0.out.trans (H3.out.mono HB0.out.size))).mono ?_); rintro e w5 ⟨rfl, hb5⟩; have H5 := Lib.hid (H3.out.trans (hb5.mono H3.out.size)); clear hb5; have ha := HCA.out.below H5.out (Nat.le_refl _); have hb := HCB.out.below H5.out (Nat.le_refl _); clear a7 b7 a8 b8 a9 b9 a10 b10 a11 b11 a12 b12 a13 b13 a14 b14 a15 b15; have a10 := ha.cell 10 _ rfl; have b10 := hb.cell 10 _ rfl; have a11 := ha.cell 11 _ rfl; have b11 := hb.cell 11 _ rfl; have a12 := ha.cell 12 _ rfl; have b12 := hb.cell 12 _ rfl; have a13 := ha.cell 13 _ rfl; have b13 := hb.cell 13 _ rfl; have a14 := ha.cell 14 _ rfl; have b14 := hb.cell 14 _ rfl; have a15 := ha.cell 15 _ rfl; have b15 := hb.cell 15 _ rfl; clear ha hb))
                      go_ret
                      exact ⟨by simp, HB0.out.trans (H5.out.mono HB0.out.size)⟩
                    | true =>
                      go_wp2_with (first | (go_at_call 29; (with_reducible refine (HP.out _).mono ?_); rintro e w3 ⟨rfl, hb3⟩; have H3 := Lib.hid hb3; clear hb3; have ha := HCA.out.below H3.out (Nat.le_refl _); have hb := HCB.out.below H3.out (Nat.le_refl _); clear a0 b0 a1 b1 a2 b2 a3 b3 a4 b4 a5 b5 a6 b6 a7 b7 a8 b8 a9 b9 a10 b10 a11 b11 a12 b12 a13 b13 a14 b14 a15 b15; have a7 := ha.cell 7 _ rfl; have b7 := hb.cell 7 _ rfl; have a8 := ha.cell 8 _ rfl; have b8 := hb.cell 8 _ rfl; have a9 := ha.cell 9 _ rfl; have b9 := hb.cell 9 _ rfl; have a10 := ha.cell 10 _ rfl; have b10 := hb.cell 10 _ rfl; have a11 := ha.cell 11 _ rfl; have b11 := hb.cell 11 _ rfl; have a12 := ha.cell 12 _ rfl; have b12 := hb.cell 12 _ rfl; have a13 := ha.cell 13 _ rfl; have b13 := hb.cell 13 _ rfl; have a14 := ha.cell 14 _ rfl; have b14 := hb.cell 14 _ rfl; have a15 := ha.cell 15 _ rfl; have b15 := hb.cell 15 _ rfl; clear ha hb) | (go_at_call 30; (with_reducible refine (HV.out _).mono ?_); rintro e w4 ⟨rfl, rfl⟩) | (go_at_call 31; (with_reducible refine (HT.out _ (HB0.out.trans (H3.out.mono HB0.out.size))).mono ?_); rintro e w5 ⟨rfl, hb5⟩; have H5 := Lib.hid (H3.out.trans (hb5.mono H3.out.size)); clear hb5; have ha := HCA.out.below H5.out (Nat.le_refl _); have hb := HCB.out.below H5.out (Nat.le_refl _); clear a7 b7 a8 b8 a9 b9 a10 b10 a11 b11 a12 b12 a13 b13 a14 b14 a15 b15; have a10 := ha.cell 10 _ rfl; have b10 := hb.cell 10 _ rfl; have a11 := ha.cell 11 _ rfl; have b11 := hb.cell 11 _ rfl; have a12 := ha.cell 12 _ rfl; have b12 := hb.cell 12 _ rfl; have a13 := ha.cell 13 _ rfl; have b13 := hb.cell 13 _ rfl; have a14 := ha.cell 14 _ rfl; have b14 := hb.cell 14 _ rfl; have a15 := ha.cell 15 _ rfl; have b15 := hb.cell 15 _ rfl; clear ha hb))
                      go_ret
                      exact ⟨by simp, HB0.out.trans (H5.out.mono HB0.out.size)⟩
end Ms
end Go.Proofs.YtggplgmjonnliaaGreatDoor
