/- Package message: own, kinds 3, 4, 5: printed by tools/specs/message/own.py. -/
import Derived.Test.YtggplgmjonnliaaGreatDoorMsa
namespace Go.Proofs.YtggplgmjonnliaaGreatDoor
open Go.RowKit

namespace Ms
set_option maxHeartbeats 1600000 in
set_option maxRecDepth 10000 in
theorem own_3 (wkr pn name code : ByteArray) (inc key most time task epoch retries : Int) (NA FA VA TA : Option Addr) (nn nc fn fc vn vc tn tc : Nat) (w : World) :
    Calls Tryz.prog 34 #[.agg #[.string wkr, .int .i64 inc, .int .i64 key, .int .i64 3, .string pn, .slice NA nn nc, .slice FA fn fc, .string name, .slice VA vn vc, .slice TA tn tc, .int .i64 most, .int .i64 time, .int .i64 task, .int .i64 epoch, .int .i64 retries, .string code]] w fun e w' => e = .returned (.agg #[.string wkr, .int .i64 inc, .int .i64 key, .int .i64 3, .string ⟨#[]⟩, .slice none 0 0, .slice none 0 0, .string ⟨#[]⟩, .slice none 0 0, .slice TA tn tc, .int .i64 most, .int .i64 time, .int .i64 0, .int .i64 0, .int .i64 0, .string ⟨#[]⟩]) ∧ Below w.heap.size w w' := by
  go_enter Tryz.func34, Tryz.ntmps34
  go_wp2_with fail
  go_region
  go_wp2_with fail
  refine bodyPost_ret (v := .agg #[.string wkr, .int .i64 inc, .int .i64 key, .int .i64 3, .string ⟨#[]⟩, .slice none 0 0, .slice none 0 0, .string ⟨#[]⟩, .slice none 0 0, .slice TA tn tc, .int .i64 most, .int .i64 time, .int .i64 0, .int .i64 0, .int .i64 0, .string ⟨#[]⟩]) (by simp [results, Tryz.results34, go_sem]) rfl ⟨rfl, ?_⟩
  first | exact own_last w _ _ _ | exact own_last0 w _ _ _ | exact (own_last w _ _ _).drew
set_option maxHeartbeats 1600000 in
set_option maxRecDepth 10000 in
theorem own_4 (wkr pn name code : ByteArray) (inc key most time task epoch retries : Int) (NA FA VA TA : Option Addr) (nn nc fn fc vn vc tn tc : Nat) (w : World) :
    Calls Tryz.prog 34 #[.agg #[.string wkr, .int .i64 inc, .int .i64 key, .int .i64 4, .string pn, .slice NA nn nc, .slice FA fn fc, .string name, .slice VA vn vc, .slice TA tn tc, .int .i64 most, .int .i64 time, .int .i64 task, .int .i64 epoch, .int .i64 retries, .string code]] w fun e w' => e = .returned (.agg #[.string wkr, .int .i64 inc, .int .i64 key, .int .i64 4, .string ⟨#[]⟩, .slice none 0 0, .slice none 0 0, .string ⟨#[]⟩, .slice none 0 0, .slice none 0 0, .int .i64 0, .int .i64 time, .int .i64 task, .int .i64 epoch, .int .i64 0, .string ⟨#[]⟩]) ∧ Below w.heap.size w w' := by
  go_enter Tryz.func34, Tryz.ntmps34
  go_wp2_with fail
  go_region
  go_wp2_with fail
  refine bodyPost_ret (v := .agg #[.string wkr, .int .i64 inc, .int .i64 key, .int .i64 4, .string ⟨#[]⟩, .slice none 0 0, .slice none 0 0, .string ⟨#[]⟩, .slice none 0 0, .slice none 0 0, .int .i64 0, .int .i64 time, .int .i64 task, .int .i64 epoch, .int .i64 0, .string ⟨#[]⟩]) (by simp [results, Tryz.results34, go_sem]) rfl ⟨rfl, ?_⟩
  first | exact own_last w _ _ _ | exact own_last0 w _ _ _ | exact (own_last w _ _ _).drew
set_option maxHeartbeats 1600000 in
set_option maxRecDepth 10000 in
theorem own_5 (wkr pn name code : ByteArray) (inc key most time task epoch retries : Int) (NA FA VA TA : Option Addr) (nn nc fn fc vn vc tn tc : Nat) (w : World) :
    Calls Tryz.prog 34 #[.agg #[.string wkr, .int .i64 inc, .int .i64 key, .int .i64 5, .string pn, .slice NA nn nc, .slice FA fn fc, .string name, .slice VA vn vc, .slice TA tn tc, .int .i64 most, .int .i64 time, .int .i64 task, .int .i64 epoch, .int .i64 retries, .string code]] w fun e w' => e = .returned (.agg #[.string wkr, .int .i64 inc, .int .i64 key, .int .i64 5, .string ⟨#[]⟩, .slice none 0 0, .slice none 0 0, .string ⟨#[]⟩, .slice none 0 0, .slice none 0 0, .int .i64 0, .int .i64 0, .int .i64 task, .int .i64 epoch, .int .i64 0, .string ⟨#[]⟩]) ∧ Below w.heap.size w w' := by
  go_enter Tryz.func34, Tryz.ntmps34
  go_wp2_with fail
  go_region
  go_wp2_with fail
  refine bodyPost_ret (v := .agg #[.string wkr, .int .i64 inc, .int .i64 key, .int .i64 5, .string ⟨#[]⟩, .slice none 0 0, .slice none 0 0, .string ⟨#[]⟩, .slice none 0 0, .slice none 0 0, .int .i64 0, .int .i64 0, .int .i64 task, .int .i64 epoch, .int .i64 0, .string ⟨#[]⟩]) (by simp [results, Tryz.results34, go_sem]) rfl ⟨rfl, ?_⟩
  first | exact own_last w _ _ _ | exact own_last0 w _ _ _ | exact (own_last w _ _ _).drew
end Ms
end Go.Proofs.YtggplgmjonnliaaGreatDoor
