/- Package message: partFault of what is told by who has a lease. Printed by tools/specs/message/check.py. -/
import Derived.Test.YtggplgmjonnliaaGreatDoorMsh
namespace Go.Proofs.YtggplgmjonnliaaGreatDoor
open Go.RowKit

namespace Ms
set_option maxHeartbeats 1600000 in
set_option maxRecDepth 10000 in
theorem part_4 {W w : World} {E : Int → Option Addr} (wkr pn name code : ByteArray) (inc key most time task epoch retries : Int) (NA FA TA : Option Addr) (nn nc fn fc tn tc : Nat) (hE : MsErrs W E) (hb : Below W.heap.size W w) (hc : code.size ≤ 9223372036854775807) :
    Calls Tryz.prog 35 #[.agg #[.string wkr, .int .i64 inc, .int .i64 key, .int .i64 4, .string pn, .slice NA nn nc, .slice FA fn fc, .string name, .slice none 0 0, .slice TA tn tc, .int .i64 most, .int .i64 time, .int .i64 task, .int .i64 epoch, .int .i64 retries, .string code]] w fun e w' => (∃ ev, e = .returned ev ∧ SeenBy E ev (leaseNo 4 task epoch time retries (Vr.name code.data.toList))) ∧ Below w.heap.size w w' := by
  have HB0 := Lib.hid ((Below.refl w.heap.size w).alloc (Nat.le_refl _) (.cells #[.string wkr, .int .i64 inc, .int .i64 key, .int .i64 4, .string pn, .slice NA nn nc, .slice FA fn fc, .string name, .slice none 0 0, .slice TA tn tc, .int .i64 most, .int .i64 time, .int .i64 task, .int .i64 epoch, .int .i64 retries, .string code] 33))
  have HL := Lib.hid (fun (V : World) (hV : Below w.heap.size w V) => lease_4 (w := V) wkr pn name code inc key most time task epoch retries NA FA TA nn nc fn fc tn tc hE (hb.trans (hV.mono hb.size)) hc)
  have hca := Cel.lit w #[.string wkr, .int .i64 inc, .int .i64 key, .int .i64 4, .string pn, .slice NA nn nc, .slice FA fn fc, .string name, .slice none 0 0, .slice TA tn tc, .int .i64 most, .int .i64 time, .int .i64 task, .int .i64 epoch, .int .i64 retries, .string code] 33
  have a0 := hca.cell 0 _ rfl
  have a1 := hca.cell 1 _ rfl
  have a2 := hca.cell 2 _ rfl
  have a3 := hca.cell 3 _ rfl
  have a4 := hca.cell 4 _ rfl
  have a5 := hca.cell 5 _ rfl
  have a6 := hca.cell 6 _ rfl
  have a7 := hca.cell 7 _ rfl
  have a8 := hca.cell 8 _ rfl
  have a9 := hca.cell 9 _ rfl
  have a10 := hca.cell 10 _ rfl
  have a11 := hca.cell 11 _ rfl
  have a12 := hca.cell 12 _ rfl
  have a13 := hca.cell 13 _ rfl
  have a14 := hca.cell 14 _ rfl
  have a15 := hca.cell 15 _ rfl
  clear hca hE hb hc
  go_enter Tryz.func35, Tryz.ntmps35
  go_wp2_with fail
  (with_reducible refine (HL.out _ HB0.out).mono ?_)
  rintro e w3 ⟨⟨ev, rfl, hev⟩, hb3⟩
  clear a0 a1 a2 a3 a4 a5 a6 a7 a8 a9 a10 a11 a12 a13 a14 a15
  go_wp2
  go_ret
  exact ⟨⟨_, rfl, hev⟩, HB0.out.trans (hb3.mono HB0.out.size)⟩
set_option maxHeartbeats 1600000 in
set_option maxRecDepth 10000 in
theorem part_5 {W w : World} {E : Int → Option Addr} (wkr pn name code : ByteArray) (inc key most time task epoch retries : Int) (NA FA TA : Option Addr) (nn nc fn fc tn tc : Nat) (hE : MsErrs W E) (hb : Below W.heap.size W w) (hc : code.size ≤ 9223372036854775807) :
    Calls Tryz.prog 35 #[.agg #[.string wkr, .int .i64 inc, .int .i64 key, .int .i64 5, .string pn, .slice NA nn nc, .slice FA fn fc, .string name, .slice none 0 0, .slice TA tn tc, .int .i64 most, .int .i64 time, .int .i64 task, .int .i64 epoch, .int .i64 retries, .string code]] w fun e w' => (∃ ev, e = .returned ev ∧ SeenBy E ev (leaseNo 5 task epoch time retries (Vr.name code.data.toList))) ∧ Below w.heap.size w w' := by
  have HB0 := Lib.hid ((Below.refl w.heap.size w).alloc (Nat.le_refl _) (.cells #[.string wkr, .int .i64 inc, .int .i64 key, .int .i64 5, .string pn, .slice NA nn nc, .slice FA fn fc, .string name, .slice none 0 0, .slice TA tn tc, .int .i64 most, .int .i64 time, .int .i64 task, .int .i64 epoch, .int .i64 retries, .string code] 33))
  have HL := Lib.hid (fun (V : World) (hV : Below w.heap.size w V) => lease_5 (w := V) wkr pn name code inc key most time task epoch retries NA FA TA nn nc fn fc tn tc hE (hb.trans (hV.mono hb.size)) hc)
  have hca := Cel.lit w #[.string wkr, .int .i64 inc, .int .i64 key, .int .i64 5, .string pn, .slice NA nn nc, .slice FA fn fc, .string name, .slice none 0 0, .slice TA tn tc, .int .i64 most, .int .i64 time, .int .i64 task, .int .i64 epoch, .int .i64 retries, .string code] 33
  have a0 := hca.cell 0 _ rfl
  have a1 := hca.cell 1 _ rfl
  have a2 := hca.cell 2 _ rfl
  have a3 := hca.cell 3 _ rfl
  have a4 := hca.cell 4 _ rfl
  have a5 := hca.cell 5 _ rfl
  have a6 := hca.cell 6 _ rfl
  have a7 := hca.cell 7 _ rfl
  have a8 := hca.cell 8 _ rfl
  have a9 := hca.cell 9 _ rfl
  have a10 := hca.cell 10 _ rfl
  have a11 := hca.cell 11 _ rfl
  have a12 := hca.cell 12 _ rfl
  have a13 := hca.cell 13 _ rfl
  have a14 := hca.cell 14 _ rfl
  have a15 := hca.cell 15 _ rfl
  clear hca hE hb hc
  go_enter Tryz.func35, Tryz.ntmps35
  go_wp2_with fail
  (with_reducible refine (HL.out _ HB0.out).mono ?_)
  rintro e w3 ⟨⟨ev, rfl, hev⟩, hb3⟩
  clear a0 a1 a2 a3 a4 a5 a6 a7 a8 a9 a10 a11 a12 a13 a14 a15
  go_wp2
  go_ret
  exact ⟨⟨_, rfl, hev⟩, HB0.out.trans (hb3.mono HB0.out.size)⟩
set_option maxHeartbeats 1600000 in
set_option maxRecDepth 10000 in
theorem part_6 {W w : World} {E : Int → Option Addr} (wkr pn name code : ByteArray) (inc key most time task epoch retries : Int) (NA FA TA : Option Addr) (nn nc fn fc tn tc : Nat) (hE : MsErrs W E) (hb : Below W.heap.size W w) (hc : code.size ≤ 9223372036854775807) :
    Calls Tryz.prog 35 #[.agg #[.string wkr, .int .i64 inc, .int .i64 key, .int .i64 6, .string pn, .slice NA nn nc, .slice FA fn fc, .string name, .slice none 0 0, .slice TA tn tc, .int .i64 most, .int .i64 time, .int .i64 task, .int .i64 epoch, .int .i64 retries, .string code]] w fun e w' => (∃ ev, e = .returned ev ∧ SeenBy E ev (leaseNo 6 task epoch time retries (Vr.name code.data.toList))) ∧ Below w.heap.size w w' := by
  have HB0 := Lib.hid ((Below.refl w.heap.size w).alloc (Nat.le_refl _) (.cells #[.string wkr, .int .i64 inc, .int .i64 key, .int .i64 6, .string pn, .slice NA nn nc, .slice FA fn fc, .string name, .slice none 0 0, .slice TA tn tc, .int .i64 most, .int .i64 time, .int .i64 task, .int .i64 epoch, .int .i64 retries, .string code] 33))
  have HL := Lib.hid (fun (V : World) (hV : Below w.heap.size w V) => lease_6 (w := V) wkr pn name code inc key most time task epoch retries NA FA TA nn nc fn fc tn tc hE (hb.trans (hV.mono hb.size)) hc)
  have hca := Cel.lit w #[.string wkr, .int .i64 inc, .int .i64 key, .int .i64 6, .string pn, .slice NA nn nc, .slice FA fn fc, .string name, .slice none 0 0, .slice TA tn tc, .int .i64 most, .int .i64 time, .int .i64 task, .int .i64 epoch, .int .i64 retries, .string code] 33
  have a0 := hca.cell 0 _ rfl
  have a1 := hca.cell 1 _ rfl
  have a2 := hca.cell 2 _ rfl
  have a3 := hca.cell 3 _ rfl
  have a4 := hca.cell 4 _ rfl
  have a5 := hca.cell 5 _ rfl
  have a6 := hca.cell 6 _ rfl
  have a7 := hca.cell 7 _ rfl
  have a8 := hca.cell 8 _ rfl
  have a9 := hca.cell 9 _ rfl
  have a10 := hca.cell 10 _ rfl
  have a11 := hca.cell 11 _ rfl
  have a12 := hca.cell 12 _ rfl
  have a13 := hca.cell 13 _ rfl
  have a14 := hca.cell 14 _ rfl
  have a15 := hca.cell 15 _ rfl
  clear hca hE hb hc
  go_enter Tryz.func35, Tryz.ntmps35
  go_wp2_with fail
  (with_reducible refine (HL.out _ HB0.out).mono ?_)
  rintro e w3 ⟨⟨ev, rfl, hev⟩, hb3⟩
  clear a0 a1 a2 a3 a4 a5 a6 a7 a8 a9 a10 a11 a12 a13 a14 a15
  go_wp2
  go_ret
  exact ⟨⟨_, rfl, hev⟩, HB0.out.trans (hb3.mono HB0.out.size)⟩
set_option maxHeartbeats 1600000 in
set_option maxRecDepth 10000 in
theorem part_7 {W w : World} {E : Int → Option Addr} (wkr pn name code : ByteArray) (inc key most time task epoch retries : Int) (NA FA TA : Option Addr) (nn nc fn fc tn tc : Nat) (hE : MsErrs W E) (hb : Below W.heap.size W w) (hc : code.size ≤ 9223372036854775807) :
    Calls Tryz.prog 35 #[.agg #[.string wkr, .int .i64 inc, .int .i64 key, .int .i64 7, .string pn, .slice NA nn nc, .slice FA fn fc, .string name, .slice none 0 0, .slice TA tn tc, .int .i64 most, .int .i64 time, .int .i64 task, .int .i64 epoch, .int .i64 retries, .string code]] w fun e w' => (∃ ev, e = .returned ev ∧ SeenBy E ev (leaseNo 7 task epoch time retries (Vr.name code.data.toList))) ∧ Below w.heap.size w w' := by
  have HB0 := Lib.hid ((Below.refl w.heap.size w).alloc (Nat.le_refl _) (.cells #[.string wkr, .int .i64 inc, .int .i64 key, .int .i64 7, .string pn, .slice NA nn nc, .slice FA fn fc, .string name, .slice none 0 0, .slice TA tn tc, .int .i64 most, .int .i64 time, .int .i64 task, .int .i64 epoch, .int .i64 retries, .string code] 33))
  have HL := Lib.hid (fun (V : World) (hV : Below w.heap.size w V) => lease_7 (w := V) wkr pn name code inc key most time task epoch retries NA FA TA nn nc fn fc tn tc hE (hb.trans (hV.mono hb.size)) hc)
  have hca := Cel.lit w #[.string wkr, .int .i64 inc, .int .i64 key, .int .i64 7, .string pn, .slice NA nn nc, .slice FA fn fc, .string name, .slice none 0 0, .slice TA tn tc, .int .i64 most, .int .i64 time, .int .i64 task, .int .i64 epoch, .int .i64 retries, .string code] 33
  have a0 := hca.cell 0 _ rfl
  have a1 := hca.cell 1 _ rfl
  have a2 := hca.cell 2 _ rfl
  have a3 := hca.cell 3 _ rfl
  have a4 := hca.cell 4 _ rfl
  have a5 := hca.cell 5 _ rfl
  have a6 := hca.cell 6 _ rfl
  have a7 := hca.cell 7 _ rfl
  have a8 := hca.cell 8 _ rfl
  have a9 := hca.cell 9 _ rfl
  have a10 := hca.cell 10 _ rfl
  have a11 := hca.cell 11 _ rfl
  have a12 := hca.cell 12 _ rfl
  have a13 := hca.cell 13 _ rfl
  have a14 := hca.cell 14 _ rfl
  have a15 := hca.cell 15 _ rfl
  clear hca hE hb hc
  go_enter Tryz.func35, Tryz.ntmps35
  go_wp2_with fail
  (with_reducible refine (HL.out _ HB0.out).mono ?_)
  rintro e w3 ⟨⟨ev, rfl, hev⟩, hb3⟩
  clear a0 a1 a2 a3 a4 a5 a6 a7 a8 a9 a10 a11 a12 a13 a14 a15
  go_wp2
  go_ret
  exact ⟨⟨_, rfl, hev⟩, HB0.out.trans (hb3.mono HB0.out.size)⟩
set_option maxHeartbeats 1600000 in
set_option maxRecDepth 10000 in
theorem part_8 {W w : World} {E : Int → Option Addr} (wkr pn name code : ByteArray) (inc key most time task epoch retries : Int) (NA FA TA : Option Addr) (nn nc fn fc tn tc : Nat) (hE : MsErrs W E) (hb : Below W.heap.size W w) (hc : code.size ≤ 9223372036854775807) :
    Calls Tryz.prog 35 #[.agg #[.string wkr, .int .i64 inc, .int .i64 key, .int .i64 8, .string pn, .slice NA nn nc, .slice FA fn fc, .string name, .slice none 0 0, .slice TA tn tc, .int .i64 most, .int .i64 time, .int .i64 task, .int .i64 epoch, .int .i64 retries, .string code]] w fun e w' => (∃ ev, e = .returned ev ∧ SeenBy E ev (leaseNo 8 task epoch time retries (Vr.name code.data.toList))) ∧ Below w.heap.size w w' := by
  have HB0 := Lib.hid ((Below.refl w.heap.size w).alloc (Nat.le_refl _) (.cells #[.string wkr, .int .i64 inc, .int .i64 key, .int .i64 8, .string pn, .slice NA nn nc, .slice FA fn fc, .string name, .slice none 0 0, .slice TA tn tc, .int .i64 most, .int .i64 time, .int .i64 task, .int .i64 epoch, .int .i64 retries, .string code] 33))
  have HL := Lib.hid (fun (V : World) (hV : Below w.heap.size w V) => lease_8 (w := V) wkr pn name code inc key most time task epoch retries NA FA TA nn nc fn fc tn tc hE (hb.trans (hV.mono hb.size)) hc)
  have hca := Cel.lit w #[.string wkr, .int .i64 inc, .int .i64 key, .int .i64 8, .string pn, .slice NA nn nc, .slice FA fn fc, .string name, .slice none 0 0, .slice TA tn tc, .int .i64 most, .int .i64 time, .int .i64 task, .int .i64 epoch, .int .i64 retries, .string code] 33
  have a0 := hca.cell 0 _ rfl
  have a1 := hca.cell 1 _ rfl
  have a2 := hca.cell 2 _ rfl
  have a3 := hca.cell 3 _ rfl
  have a4 := hca.cell 4 _ rfl
  have a5 := hca.cell 5 _ rfl
  have a6 := hca.cell 6 _ rfl
  have a7 := hca.cell 7 _ rfl
  have a8 := hca.cell 8 _ rfl
  have a9 := hca.cell 9 _ rfl
  have a10 := hca.cell 10 _ rfl
  have a11 := hca.cell 11 _ rfl
  have a12 := hca.cell 12 _ rfl
  have a13 := hca.cell 13 _ rfl
  have a14 := hca.cell 14 _ rfl
  have a15 := hca.cell 15 _ rfl
  clear hca hE hb hc
  go_enter Tryz.func35, Tryz.ntmps35
  go_wp2_with fail
  (with_reducible refine (HL.out _ HB0.out).mono ?_)
  rintro e w3 ⟨⟨ev, rfl, hev⟩, hb3⟩
  clear a0 a1 a2 a3 a4 a5 a6 a7 a8 a9 a10 a11 a12 a13 a14 a15
  go_wp2
  go_ret
  exact ⟨⟨_, rfl, hev⟩, HB0.out.trans (hb3.mono HB0.out.size)⟩
end Ms
end Go.Proofs.YtggplgmjonnliaaGreatDoor
