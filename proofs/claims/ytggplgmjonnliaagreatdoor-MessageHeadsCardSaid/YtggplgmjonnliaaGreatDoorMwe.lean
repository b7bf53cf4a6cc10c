/- Package message: takeParts of an Unlock. Printed by tools/specs/message/heads.py. -/
import Derived.Test.YtggplgmjonnliaaGreatDoorMwd
namespace Go.Proofs.YtggplgmjonnliaaGreatDoor
open Go.RowKit

namespace Ms
theorem takeLease_5 (p b : Nat) (w : World) (h : w.cell? ⟨b, 3, none⟩ = some (.int .i64 5)) : Calls Tryz.prog 50 #[.pointer (some ⟨p, 0, none⟩), .pointer (some ⟨b, 0, none⟩)] w fun x w' => x = .returned (.tuple #[]) ∧ w = w' := by
  go_enter Tryz.func50, Tryz.ntmps50
  go_wp2
  go_end0
  exact ⟨rfl, rfl⟩
set_option maxRecDepth 10000 in
set_option maxHeartbeats 3200000 in
theorem takeParts_5 {E : Int → Option Addr} {W w : World} {p b B : Nat} (hE : RdErrs W E) (hb : Below W.heap.size W w) (hp : W.heap.size ≤ p) {wk : ByteArray} {inc key task : Int} (ht : Ok1 task) {t : List UInt8} (hR : RdC E w p (enc (zig task) ++ (enc (zig 3) ++ t)) 0) (hc : Cel w b [.string wk, .int .i64 inc, .int .i64 key, .int .i64 5, .string ⟨#[]⟩, .slice none 0 0, .slice none 0 0, .string ⟨#[]⟩, .slice none 0 0, .slice none 0 0, .int .i64 0, .int .i64 0, .int .i64 0, .int .i64 0, .int .i64 0, .string ⟨#[]⟩]) (hpb : p < b) (hB : B ≤ p) :
    Calls Tryz.prog 21 #[.pointer (some ⟨p, 0, none⟩), .pointer (some ⟨b, 0, none⟩)] w fun x w' => x = .returned (.tuple #[]) ∧ RdC E w' p t 0 ∧ Cel w' b [.string wk, .int .i64 inc, .int .i64 key, .int .i64 5, .string ⟨#[]⟩, .slice none 0 0, .slice none 0 0, .string ⟨#[]⟩, .slice none 0 0, .slice none 0 0, .int .i64 0, .int .i64 0, .int .i64 task, .int .i64 3, .int .i64 0, .string ⟨#[]⟩] ∧ Below B w w' := by
  have hpl := hR.lt
  have HN := Lib.hid (takeNumber_in hE hb hp ht hR)
  have HW := Lib.hid (fun (V : World) (hV : w.grownBy V (some p)) => (show Below W.heap.size W V from hb.grown hV hb.size (fun k hk => by cases hk; exact hp)))
  have HC := Lib.hid hc
  have a3 := hc.cell 3 _ rfl
  clear hR hc
  go_enter Tryz.func21, Tryz.ntmps21
  go_wp2_with fail
  refine HN.out.mono ?_
  rintro x w1 ⟨rfl, hR1, hg1⟩
  have HG1 := Lib.hid hg1
  have HC1 := Lib.hid (HC.out.kept hg1 (by intro e; have := Option.some.inj e; omega))
  have HN2 := Lib.hid (takeOther_in hE (HW.out _ hg1) hp (show Ok1 3 by unfold Ok1; omega) hR1)
  clear hR1 hg1 a3
  go_wp2_with fail
  refine HN2.out.mono ?_
  rintro x w2 ⟨rfl, hR2, hg2⟩
  have HG2 := Lib.hid (HG1.out.trans hg2)
  have hc2 := HC1.out.kept hg2 (by intro e; have := Option.some.inj e; omega)
  have f12 := hc2.froz 12 (by simp)
  have f13 := hc2.froz 13 (by simp)
  have a12 := hc2.cell 12 _ rfl
  have a13 := hc2.cell 13 _ rfl
  have hk0 := (hc2.set (i := 12) (by simp) (.int .i64 task)).set (i := 13) (by simp) (.int .i64 3)
  have hr0 := (hR2.kept (grown_setCell w2 ⟨b, 12, none⟩ (.int .i64 task)) (fun k hk e => by have := Option.some.inj e; simp only at this; omega)).kept (grown_setCell _ ⟨b, 13, none⟩ (.int .i64 3)) (fun k hk e => by have := Option.some.inj e; simp only at this; omega)
  have hb0 : Below B w ((w2.setCell ⟨b, 12, none⟩ (.int .i64 task)).setCell ⟨b, 13, none⟩ (.int .i64 3)) := ((rd_below HG2.out (show B ≤ w.heap.size by omega) hB).setCell (p := ⟨b, 12, none⟩) (show B ≤ b by omega) _).setCell (p := ⟨b, 13, none⟩) (show B ≤ b by omega) _
  have HK := Lib.hid hk0
  have HR := Lib.hid hr0
  have HB := Lib.hid hb0
  have HTL := Lib.hid (takeLease_5 p b _ (hk0.cell 3 _ rfl))
  clear hk0 hr0 hb0 hR2 hg2 hc2
  go_wp2_with (go_at_call 50; (with_reducible refine HTL.out.mono ?_); rintro x w3 ⟨rfl, hw3⟩; subst hw3)
  go_end0
  exact ⟨rfl, HR.out, HK.out, HB.out⟩
end Ms
end Go.Proofs.YtggplgmjonnliaaGreatDoor
