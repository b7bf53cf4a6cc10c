/- The program's Take of what Put put: a number, a node, a flow. -/
import Derived.Test.YtjababmmcejgdaaGreatDoorBhY
namespace Go.Proofs.YtjababmmcejgdaaGreatDoor
open Go.RowKit

namespace Pr
theorem ndB_chain (x : Nd) (t : List UInt8) : ndB x ++ t = enc (zig x.kind) ++ (textOf x.topic ++ (enc (zig x.prio) ++ (enc (zig x.retr) ++ (enc (zig x.dflt) ++ (textOf x.code ++ (textOf x.caught ++ (enc (zig x.tgt) ++ t))))))) := by
  simp [ndB, encs, textsOf, List.append_assoc]
theorem flB_chain (f : Fl) (t : List UInt8) : flB f ++ t = enc (zig f.frm) ++ (enc (zig f.til) ++ (textOf f.cond ++ t)) := by
  simp [flB, encs, textsOf, List.append_assoc]
theorem cel_set8 {w : World} {z : Nat} {a0 a1 a2 a3 a4 a5 a6 a7 : Value} (h : Cel w z [a0, a1, a2, a3, a4, a5, a6, a7]) (b0 b1 b2 b3 b4 b5 b6 b7 : Value) :
    Cel ((((((((w.setCell ⟨z, 0, none⟩ b0).setCell ⟨z, 1, none⟩ b1).setCell ⟨z, 2, none⟩ b2).setCell ⟨z, 3, none⟩ b3).setCell ⟨z, 4, none⟩ b4).setCell ⟨z, 5, none⟩ b5).setCell ⟨z, 6, none⟩ b6).setCell ⟨z, 7, none⟩ b7) z [b0, b1, b2, b3, b4, b5, b6, b7] :=
  (((((((h.set (i := 0) (by simp) b0).set (i := 1) (by simp) b1).set (i := 2) (by simp) b2).set (i := 3) (by simp) b3).set (i := 4) (by simp) b4).set (i := 5) (by simp) b5).set (i := 6) (by simp) b6).set (i := 7) (by simp) b7
theorem grown_set8 (w : World) (z : Nat) (b0 b1 b2 b3 b4 b5 b6 b7 : Value) :
    w.grownBy ((((((((w.setCell ⟨z, 0, none⟩ b0).setCell ⟨z, 1, none⟩ b1).setCell ⟨z, 2, none⟩ b2).setCell ⟨z, 3, none⟩ b3).setCell ⟨z, 4, none⟩ b4).setCell ⟨z, 5, none⟩ b5).setCell ⟨z, 6, none⟩ b6).setCell ⟨z, 7, none⟩ b7) (some z) :=
  set_grown (set_grown (set_grown (set_grown (set_grown (set_grown (set_grown (grown_setCell w ⟨z, 0, none⟩ _) 1 _) 2 _) 3 _) 4 _) 5 _) 6 _) 7 _
theorem cel_set3 {w : World} {z : Nat} {a0 a1 a2 : Value} (h : Cel w z [a0, a1, a2]) (b0 b1 b2 : Value) : Cel (((w.setCell ⟨z, 0, none⟩ b0).setCell ⟨z, 1, none⟩ b1).setCell ⟨z, 2, none⟩ b2) z [b0, b1, b2] :=
  ((h.set (i := 0) (by simp) b0).set (i := 1) (by simp) b1).set (i := 2) (by simp) b2
theorem grown_set3 (w : World) (z : Nat) (b0 b1 b2 : Value) : w.grownBy (((w.setCell ⟨z, 0, none⟩ b0).setCell ⟨z, 1, none⟩ b1).setCell ⟨z, 2, none⟩ b2) (some z) := set_grown (set_grown (grown_setCell w ⟨z, 0, none⟩ _) 1 _) 2 _
section
variable {W w : World} {E : Int → Option Addr} {p : Nat}
set_option maxHeartbeats 400000 in
theorem taken_any (hE : RdErrs W E) (hb : Below W.heap.size W w) (hp : W.heap.size ≤ p) {n : Int} (hn : TinyI n) {t : List UInt8} (hR : RdC E w p (enc (zig n) ++ t) 0) :
    Calls Tryz.prog 73 #[.pointer (some ⟨p, 0, none⟩)] w fun e w' => e = .returned (.int .i64 n) ∧ RdC E w' p t 0 ∧ w.grownBy w' (some p) := by
  have HI := Lib.hid (int_any (-1) 1000 hE hb hp hR)
  have hs : intSays (-1) 1000 (enc (zig n) ++ t) 0 = (n, t, 0) := intSays_in (tiny64 hn).1 (tiny64 hn).2 hn.1 hn.2
  rw [hs] at HI
  clear hs
  go_enter Tryz.func73, Tryz.ntmps73
  go_wp2_with fail
  refine HI.out.mono ?_
  rintro e w1 ⟨rfl, hr1, hg1⟩
  go_wp2
  go_ret
  exact ⟨rfl, hr1, hg1⟩
theorem taketext_any (most : Nat) (hE : RdErrs W E) (hb : Below W.heap.size W w) (hp : W.heap.size ≤ p) {s : ByteArray} (hs : s.size ≤ most) (hm : most ≤ 1000) {t : List UInt8} (hR : RdC E w p (textOf s ++ t) 0) :
    Calls Tryz.prog 44 #[.pointer (some ⟨p, 0, none⟩), .int .i64 (most : Int)] w fun e w' => e = .returned (.string s) ∧ RdC E w' p t 0 ∧ w.grownBy w' (some p) := by
  have h := text_any (most : Int) hE hb hp hR
  have hs' : textSays (most : Int) (textOf s ++ t) 0 = (s.data.toList, t, 0) := textSays_in (by omega) (by omega)
  rw [hs'] at h
  refine h.mono fun e w' h => ?_
  rw [ba_toList] at h
  exact h
set_option maxHeartbeats 3200000 in
set_option maxRecDepth 10000 in
theorem takenode_any (hE : RdErrs W E) (hb : Below W.heap.size W w) (hp : W.heap.size ≤ p) (x : Nd) (hx : TinyN x) {t : List UInt8} (hR : RdC E w p (ndB x ++ t) 0) :
    Calls Tryz.prog 46 #[.pointer (some ⟨p, 0, none⟩)] w fun e w' => e = .returned x.val ∧ RdC E w' p t 0 ∧ w.grownBy w' (some p) := by
  rw [ndB_chain] at hR
  have hpl := hR.lt
  have HE := Lib.hid hE
  have HH := Lib.hid hx
  have hy := Cel.lit w #[.int .i64 0, .string ⟨#[]⟩, .int .i64 0, .int .i64 0, .int .i64 0, .string ⟨#[]⟩, .string ⟨#[]⟩, .int .i64 0] 36
  have hz := Cel.lit (w.alloc (.cells #[.int .i64 0, .string ⟨#[]⟩, .int .i64 0, .int .i64 0, .int .i64 0, .string ⟨#[]⟩, .string ⟨#[]⟩, .int .i64 0] 36)) #[.int .i64 0, .string ⟨#[]⟩, .int .i64 0, .int .i64 0, .int .i64 0, .string ⟨#[]⟩, .string ⟨#[]⟩, .int .i64 0] 36
  have s1 : (w.alloc (.cells #[.int .i64 0, .string ⟨#[]⟩, .int .i64 0, .int .i64 0, .int .i64 0, .string ⟨#[]⟩, .string ⟨#[]⟩, .int .i64 0] 36)).heap.size = w.heap.size + 1 := by simp
  rw [s1] at hz
  have HY := Lib.hid (hy.alloc (.cells #[.int .i64 0, .string ⟨#[]⟩, .int .i64 0, .int .i64 0, .int .i64 0, .string ⟨#[]⟩, .string ⟨#[]⟩, .int .i64 0] 36))
  have HZ := Lib.hid hz
  have HG : Hid (w.grownBy ((w.alloc (.cells #[.int .i64 0, .string ⟨#[]⟩, .int .i64 0, .int .i64 0, .int .i64 0, .string ⟨#[]⟩, .string ⟨#[]⟩, .int .i64 0] 36)).alloc (.cells #[.int .i64 0, .string ⟨#[]⟩, .int .i64 0, .int .i64 0, .int .i64 0, .string ⟨#[]⟩, .string ⟨#[]⟩, .int .i64 0] 36)) (some p)) := Lib.hid (grown_trans (grown_alloc w _ _) (grown_alloc _ _ _))
  have HRR := Lib.hid (hR.below (((Below.refl w.heap.size w).alloc (Nat.le_refl _) (.cells #[.int .i64 0, .string ⟨#[]⟩, .int .i64 0, .int .i64 0, .int .i64 0, .string ⟨#[]⟩, .string ⟨#[]⟩, .int .i64 0] 36)).alloc (by simp) (.cells #[.int .i64 0, .string ⟨#[]⟩, .int .i64 0, .int .i64 0, .int .i64 0, .string ⟨#[]⟩, .string ⟨#[]⟩, .int .i64 0] 36)))
  have HB := Lib.hid (fun w' (hg : w.grownBy w' (some p)) => hb.grown hg hb.size (fun k hk => by cases hk; exact hp))
  have HYS : Hid (((w.alloc (.cells #[.int .i64 0, .string ⟨#[]⟩, .int .i64 0, .int .i64 0, .int .i64 0, .string ⟨#[]⟩, .string ⟨#[]⟩, .int .i64 0] 36)).alloc (.cells #[.int .i64 0, .string ⟨#[]⟩, .int .i64 0, .int .i64 0, .int .i64 0, .string ⟨#[]⟩, .string ⟨#[]⟩, .int .i64 0] 36)).heap.size = w.heap.size + 1 + 1) := Lib.hid (by simp)
  have hYZ : Hid (¬ w.heap.size = w.heap.size + 1) := Lib.hid (by omega)
  clear hE hx hy hz s1 hR
  go_enter Tryz.func46, Tryz.ntmps46
  go_upto_region 2 with (fail)
  generalize (w.alloc _).alloc _ = v0 at *
  go_wp2_with fail
  refine (taken_any HE.out (HB.out v0 HG.out) hp HH.out.kind HRR.out).mono ?_
  rintro e w0 ⟨rfl, hr, hg⟩
  have hzk := HZ.out.kept hg (fun e => by have := Option.some.inj e; omega)
  have c0 := hzk.cell 0 _ rfl
  have c1 := hzk.froz 0 (by simp)
  have hst : w0.grownBy (w0.setCell ⟨w.heap.size + 1, 0, none⟩ (.int .i64 x.kind)) (some (w.heap.size + 1)) := grown_setCell w0 ⟨w.heap.size + 1, 0, none⟩ _
  have HZ0 : Hid (Cel (w0.setCell ⟨w.heap.size + 1, 0, none⟩ (.int .i64 x.kind)) (w.heap.size + 1) [.int .i64 x.kind, .string ⟨#[]⟩, .int .i64 0, .int .i64 0, .int .i64 0, .string ⟨#[]⟩, .string ⟨#[]⟩, .int .i64 0]) := Lib.hid (hzk.set (i := 0) (by simp) (.int .i64 x.kind))
  have HY0 := Lib.hid ((HY.out.kept hg (fun e => by have := Option.some.inj e; omega)).kept hst (fun e => by have := Option.some.inj e; omega))
  have HG0 := Lib.hid (grown_past (grown_trans HG.out hg) hst (by omega))
  have HR0 := Lib.hid (hr.kept hst (fun b hb e => by have := Option.some.inj e; omega))
  clear hr hg hzk hst HZ HY HG HRR
  go_upto_region 3 with (fail)
  generalize w0.setCell _ _ = v1 at *
  clear c0 c1
  go_wp2_with fail
  refine (taketext_any 24 HE.out (HB.out v1 HG0.out) hp HH.out.topic (by decide) HR0.out).mono ?_
  rintro e w1 ⟨rfl, hr, hg⟩
  have hzk := HZ0.out.kept hg (fun e => by have := Option.some.inj e; omega)
  have c0 := hzk.cell 1 _ rfl
  have c1 := hzk.froz 1 (by simp)
  have hst : w1.grownBy (w1.setCell ⟨w.heap.size + 1, 1, none⟩ (.string x.topic)) (some (w.heap.size + 1)) := grown_setCell w1 ⟨w.heap.size + 1, 1, none⟩ _
  have HZ1 : Hid (Cel (w1.setCell ⟨w.heap.size + 1, 1, none⟩ (.string x.topic)) (w.heap.size + 1) [.int .i64 x.kind, .string x.topic, .int .i64 0, .int .i64 0, .int .i64 0, .string ⟨#[]⟩, .string ⟨#[]⟩, .int .i64 0]) := Lib.hid (hzk.set (i := 1) (by simp) (.string x.topic))
  have HY1 := Lib.hid ((HY0.out.kept hg (fun e => by have := Option.some.inj e; omega)).kept hst (fun e => by have := Option.some.inj e; omega))
  have HG1 := Lib.hid (grown_past (grown_trans HG0.out hg) hst (by omega))
  have HR1 := Lib.hid (hr.kept hst (fun b hb e => by have := Option.some.inj e; omega))
  clear hr hg hzk hst HZ0 HY0 HG0 HR0
  go_upto_region 4 with (fail)
  generalize w1.setCell _ _ = v2 at *
  clear c0 c1
  go_wp2_with fail
  refine (taken_any HE.out (HB.out v2 HG1.out) hp HH.out.prio HR1.out).mono ?_
  rintro e w2 ⟨rfl, hr, hg⟩
  have hzk := HZ1.out.kept hg (fun e => by have := Option.some.inj e; omega)
  have c0 := hzk.cell 2 _ rfl
  have c1 := hzk.froz 2 (by simp)
  have hst : w2.grownBy (w2.setCell ⟨w.heap.size + 1, 2, none⟩ (.int .i64 x.prio)) (some (w.heap.size + 1)) := grown_setCell w2 ⟨w.heap.size + 1, 2, none⟩ _
  have HZ2 : Hid (Cel (w2.setCell ⟨w.heap.size + 1, 2, none⟩ (.int .i64 x.prio)) (w.heap.size + 1) [.int .i64 x.kind, .string x.topic, .int .i64 x.prio, .int .i64 0, .int .i64 0, .string ⟨#[]⟩, .string ⟨#[]⟩, .int .i64 0]) := Lib.hid (hzk.set (i := 2) (by simp) (.int .i64 x.prio))
  have HY2 := Lib.hid ((HY1.out.kept hg (fun e => by have := Option.some.inj e; omega)).kept hst (fun e => by have := Option.some.inj e; omega))
  have HG2 := Lib.hid (grown_past (grown_trans HG1.out hg) hst (by omega))
  have HR2 := Lib.hid (hr.kept hst (fun b hb e => by have := Option.some.inj e; omega))
  clear hr hg hzk hst HZ1 HY1 HG1 HR1
  go_upto_region 5 with (fail)
  generalize w2.setCell _ _ = v3 at *
  clear c0 c1
  go_wp2_with fail
  refine (taken_any HE.out (HB.out v3 HG2.out) hp HH.out.retr HR2.out).mono ?_
  rintro e w3 ⟨rfl, hr, hg⟩
  have hzk := HZ2.out.kept hg (fun e => by have := Option.some.inj e; omega)
  have c0 := hzk.cell 3 _ rfl
  have c1 := hzk.froz 3 (by simp)
  have hst : w3.grownBy (w3.setCell ⟨w.heap.size + 1, 3, none⟩ (.int .i64 x.retr)) (some (w.heap.size + 1)) := grown_setCell w3 ⟨w.heap.size + 1, 3, none⟩ _
  have HZ3 : Hid (Cel (w3.setCell ⟨w.heap.size + 1, 3, none⟩ (.int .i64 x.retr)) (w.heap.size + 1) [.int .i64 x.kind, .string x.topic, .int .i64 x.prio, .int .i64 x.retr, .int .i64 0, .string ⟨#[]⟩, .string ⟨#[]⟩, .int .i64 0]) := Lib.hid (hzk.set (i := 3) (by simp) (.int .i64 x.retr))
  have HY3 := Lib.hid ((HY2.out.kept hg (fun e => by have := Option.some.inj e; omega)).kept hst (fun e => by have := Option.some.inj e; omega))
  have HG3 := Lib.hid (grown_past (grown_trans HG2.out hg) hst (by omega))
  have HR3 := Lib.hid (hr.kept hst (fun b hb e => by have := Option.some.inj e; omega))
  clear hr hg hzk hst HZ2 HY2 HG2 HR2
  go_upto_region 6 with (fail)
  generalize w3.setCell _ _ = v4 at *
  clear c0 c1
  go_wp2_with fail
  refine (taken_any HE.out (HB.out v4 HG3.out) hp HH.out.dflt HR3.out).mono ?_
  rintro e w4 ⟨rfl, hr, hg⟩
  have hzk := HZ3.out.kept hg (fun e => by have := Option.some.inj e; omega)
  have c0 := hzk.cell 4 _ rfl
  have c1 := hzk.froz 4 (by simp)
  have hst : w4.grownBy (w4.setCell ⟨w.heap.size + 1, 4, none⟩ (.int .i64 x.dflt)) (some (w.heap.size + 1)) := grown_setCell w4 ⟨w.heap.size + 1, 4, none⟩ _
  have HZ4 : Hid (Cel (w4.setCell ⟨w.heap.size + 1, 4, none⟩ (.int .i64 x.dflt)) (w.heap.size + 1) [.int .i64 x.kind, .string x.topic, .int .i64 x.prio, .int .i64 x.retr, .int .i64 x.dflt, .string ⟨#[]⟩, .string ⟨#[]⟩, .int .i64 0]) := Lib.hid (hzk.set (i := 4) (by simp) (.int .i64 x.dflt))
  have HY4 := Lib.hid ((HY3.out.kept hg (fun e => by have := Option.some.inj e; omega)).kept hst (fun e => by have := Option.some.inj e; omega))
  have HG4 := Lib.hid (grown_past (grown_trans HG3.out hg) hst (by omega))
  have HR4 := Lib.hid (hr.kept hst (fun b hb e => by have := Option.some.inj e; omega))
  clear hr hg hzk hst HZ3 HY3 HG3 HR3
  go_upto_region 7 with (fail)
  generalize w4.setCell _ _ = v5 at *
  clear c0 c1
  go_wp2_with fail
  refine (taketext_any 24 HE.out (HB.out v5 HG4.out) hp HH.out.code (by decide) HR4.out).mono ?_
  rintro e w5 ⟨rfl, hr, hg⟩
  have hzk := HZ4.out.kept hg (fun e => by have := Option.some.inj e; omega)
  have c0 := hzk.cell 5 _ rfl
  have c1 := hzk.froz 5 (by simp)
  have hst : w5.grownBy (w5.setCell ⟨w.heap.size + 1, 5, none⟩ (.string x.code)) (some (w.heap.size + 1)) := grown_setCell w5 ⟨w.heap.size + 1, 5, none⟩ _
  have HZ5 : Hid (Cel (w5.setCell ⟨w.heap.size + 1, 5, none⟩ (.string x.code)) (w.heap.size + 1) [.int .i64 x.kind, .string x.topic, .int .i64 x.prio, .int .i64 x.retr, .int .i64 x.dflt, .string x.code, .string ⟨#[]⟩, .int .i64 0]) := Lib.hid (hzk.set (i := 5) (by simp) (.string x.code))
  have HY5 := Lib.hid ((HY4.out.kept hg (fun e => by have := Option.some.inj e; omega)).kept hst (fun e => by have := Option.some.inj e; omega))
  have HG5 := Lib.hid (grown_past (grown_trans HG4.out hg) hst (by omega))
  have HR5 := Lib.hid (hr.kept hst (fun b hb e => by have := Option.some.inj e; omega))
  clear hr hg hzk hst HZ4 HY4 HG4 HR4
  go_upto_region 8 with (fail)
  generalize w5.setCell _ _ = v6 at *
  clear c0 c1
  go_wp2_with fail
  refine (taketext_any 24 HE.out (HB.out v6 HG5.out) hp HH.out.caught (by decide) HR5.out).mono ?_
  rintro e w6 ⟨rfl, hr, hg⟩
  have hzk := HZ5.out.kept hg (fun e => by have := Option.some.inj e; omega)
  have c0 := hzk.cell 6 _ rfl
  have c1 := hzk.froz 6 (by simp)
  have hst : w6.grownBy (w6.setCell ⟨w.heap.size + 1, 6, none⟩ (.string x.caught)) (some (w.heap.size + 1)) := grown_setCell w6 ⟨w.heap.size + 1, 6, none⟩ _
  have HZ6 : Hid (Cel (w6.setCell ⟨w.heap.size + 1, 6, none⟩ (.string x.caught)) (w.heap.size + 1) [.int .i64 x.kind, .string x.topic, .int .i64 x.prio, .int .i64 x.retr, .int .i64 x.dflt, .string x.code, .string x.caught, .int .i64 0]) := Lib.hid (hzk.set (i := 6) (by simp) (.string x.caught))
  have HY6 := Lib.hid ((HY5.out.kept hg (fun e => by have := Option.some.inj e; omega)).kept hst (fun e => by have := Option.some.inj e; omega))
  have HG6 := Lib.hid (grown_past (grown_trans HG5.out hg) hst (by omega))
  have HR6 := Lib.hid (hr.kept hst (fun b hb e => by have := Option.some.inj e; omega))
  clear hr hg hzk hst HZ5 HY5 HG5 HR5
  go_upto_region 9 with (fail)
  generalize w6.setCell _ _ = v7 at *
  clear c0 c1
  go_wp2_with fail
  refine (taken_any HE.out (HB.out v7 HG6.out) hp HH.out.tgt HR6.out).mono ?_
  rintro e w7 ⟨rfl, hr, hg⟩
  have hzk := HZ6.out.kept hg (fun e => by have := Option.some.inj e; omega)
  have c0 := hzk.cell 7 _ rfl
  have c1 := hzk.froz 7 (by simp)
  have hst : w7.grownBy (w7.setCell ⟨w.heap.size + 1, 7, none⟩ (.int .i64 x.tgt)) (some (w.heap.size + 1)) := grown_setCell w7 ⟨w.heap.size + 1, 7, none⟩ _
  have HZ7 : Hid (Cel (w7.setCell ⟨w.heap.size + 1, 7, none⟩ (.int .i64 x.tgt)) (w.heap.size + 1) [.int .i64 x.kind, .string x.topic, .int .i64 x.prio, .int .i64 x.retr, .int .i64 x.dflt, .string x.code, .string x.caught, .int .i64 x.tgt]) := Lib.hid (hzk.set (i := 7) (by simp) (.int .i64 x.tgt))
  have HY7 := Lib.hid ((HY6.out.kept hg (fun e => by have := Option.some.inj e; omega)).kept hst (fun e => by have := Option.some.inj e; omega))
  have HG7 := Lib.hid (grown_past (grown_trans HG6.out hg) hst (by omega))
  have HR7 := Lib.hid (hr.kept hst (fun b hb e => by have := Option.some.inj e; omega))
  clear hr hg hzk hst HZ6 HY6 HG6 HR6
  go_upto_region 10 with (fail)
  generalize w7.setCell _ _ = v8 at *
  clear c0 c1
  obtain ⟨a0, a1, a2, a3, a4, a5, a6, a7⟩ := nd_facts HZ7.out
  have f0 := HY7.out.froz 0 (by simp)
  have b0 := HY7.out.cell 0 _ rfl
  have f1 := HY7.out.froz 1 (by simp)
  have b1 := HY7.out.cell 1 _ rfl
  have f2 := HY7.out.froz 2 (by simp)
  have b2 := HY7.out.cell 2 _ rfl
  have f3 := HY7.out.froz 3 (by simp)
  have b3 := HY7.out.cell 3 _ rfl
  have f4 := HY7.out.froz 4 (by simp)
  have b4 := HY7.out.cell 4 _ rfl
  have f5 := HY7.out.froz 5 (by simp)
  have b5 := HY7.out.cell 5 _ rfl
  have f6 := HY7.out.froz 6 (by simp)
  have b6 := HY7.out.cell 6 _ rfl
  have f7 := HY7.out.froz 7 (by simp)
  have b7 := HY7.out.cell 7 _ rfl
  have HK := Lib.hid (cel_set8 HY7.out (.int .i64 x.kind) (.string x.topic) (.int .i64 x.prio) (.int .i64 x.retr) (.int .i64 x.dflt) (.string x.code) (.string x.caught) (.int .i64 x.tgt))
  have hst := grown_set8 v8 w.heap.size (.int .i64 x.kind) (.string x.topic) (.int .i64 x.prio) (.int .i64 x.retr) (.int .i64 x.dflt) (.string x.code) (.string x.caught) (.int .i64 x.tgt)
  have HGF := Lib.hid (grown_past HG7.out hst (Nat.le_refl _))
  have HRF := Lib.hid (HR7.out.kept hst (fun b hb e => by have := Option.some.inj e; omega))
  clear hst
  go_wp2
  clear a0 a1 a2 a3 a4 a5 a6 a7 f0 b0 f1 b1 f2 b2 f3 b3 f4 b4 f5 b5 f6 b6 f7 b7
  generalize ((((((((v8.setCell _ _).setCell _ _).setCell _ _).setCell _ _).setCell _ _).setCell _ _).setCell _ _).setCell _ _) = wz at *
  obtain ⟨k0, k1, k2, k3, k4, k5, k6, k7⟩ := nd_facts HK.out
  exact bodyPost_ret (v := x.val) (by simp [results, Tryz.results46, go_sem, k0, k1, k2, k3, k4, k5, k6, k7, Nd.val]) rfl ⟨rfl, HRF.out, HGF.out⟩
set_option maxHeartbeats 3200000 in
set_option maxRecDepth 10000 in
theorem takeflow_any (hE : RdErrs W E) (hb : Below W.heap.size W w) (hp : W.heap.size ≤ p) (x : Fl) (hx : TinyF x) {t : List UInt8} (hR : RdC E w p (flB x ++ t) 0) :
    Calls Tryz.prog 47 #[.pointer (some ⟨p, 0, none⟩)] w fun e w' => e = .returned x.val ∧ RdC E w' p t 0 ∧ w.grownBy w' (some p) := by
  rw [flB_chain] at hR
  have hpl := hR.lt
  have HE := Lib.hid hE
  have HH := Lib.hid hx
  have hy := Cel.lit w #[.int .i64 0, .int .i64 0, .string ⟨#[]⟩] 38
  have hz := Cel.lit (w.alloc (.cells #[.int .i64 0, .int .i64 0, .string ⟨#[]⟩] 38)) #[.int .i64 0, .int .i64 0, .string ⟨#[]⟩] 38
  have s1 : (w.alloc (.cells #[.int .i64 0, .int .i64 0, .string ⟨#[]⟩] 38)).heap.size = w.heap.size + 1 := by simp
  rw [s1] at hz
  have HY := Lib.hid (hy.alloc (.cells #[.int .i64 0, .int .i64 0, .string ⟨#[]⟩] 38))
  have HZ := Lib.hid hz
  have HG : Hid (w.grownBy ((w.alloc (.cells #[.int .i64 0, .int .i64 0, .string ⟨#[]⟩] 38)).alloc (.cells #[.int .i64 0, .int .i64 0, .string ⟨#[]⟩] 38)) (some p)) := Lib.hid (grown_trans (grown_alloc w _ _) (grown_alloc _ _ _))
  have HRR := Lib.hid (hR.below (((Below.refl w.heap.size w).alloc (Nat.le_refl _) (.cells #[.int .i64 0, .int .i64 0, .string ⟨#[]⟩] 38)).alloc (by simp) (.cells #[.int .i64 0, .int .i64 0, .string ⟨#[]⟩] 38)))
  have HB := Lib.hid (fun w' (hg : w.grownBy w' (some p)) => hb.grown hg hb.size (fun k hk => by cases hk; exact hp))
  have HYS : Hid (((w.alloc (.cells #[.int .i64 0, .int .i64 0, .string ⟨#[]⟩] 38)).alloc (.cells #[.int .i64 0, .int .i64 0, .string ⟨#[]⟩] 38)).heap.size = w.heap.size + 1 + 1) := Lib.hid (by simp)
  have hYZ : Hid (¬ w.heap.size = w.heap.size + 1) := Lib.hid (by omega)
  clear hE hx hy hz s1 hR
  go_enter Tryz.func47, Tryz.ntmps47
  go_upto_region 2 with (fail)
  generalize (w.alloc _).alloc _ = v0 at *
  go_wp2_with fail
  refine (taken_any HE.out (HB.out v0 HG.out) hp HH.out.frm HRR.out).mono ?_
  rintro e w0 ⟨rfl, hr, hg⟩
  have hzk := HZ.out.kept hg (fun e => by have := Option.some.inj e; omega)
  have c0 := hzk.cell 0 _ rfl
  have c1 := hzk.froz 0 (by simp)
  have hst : w0.grownBy (w0.setCell ⟨w.heap.size + 1, 0, none⟩ (.int .i64 x.frm)) (some (w.heap.size + 1)) := grown_setCell w0 ⟨w.heap.size + 1, 0, none⟩ _
  have HZ0 : Hid (Cel (w0.setCell ⟨w.heap.size + 1, 0, none⟩ (.int .i64 x.frm)) (w.heap.size + 1) [.int .i64 x.frm, .int .i64 0, .string ⟨#[]⟩]) := Lib.hid (hzk.set (i := 0) (by simp) (.int .i64 x.frm))
  have HY0 := Lib.hid ((HY.out.kept hg (fun e => by have := Option.some.inj e; omega)).kept hst (fun e => by have := Option.some.inj e; omega))
  have HG0 := Lib.hid (grown_past (grown_trans HG.out hg) hst (by omega))
  have HR0 := Lib.hid (hr.kept hst (fun b hb e => by have := Option.some.inj e; omega))
  clear hr hg hzk hst HZ HY HG HRR
  go_upto_region 3 with (fail)
  generalize w0.setCell _ _ = v1 at *
  clear c0 c1
  go_wp2_with fail
  refine (taken_any HE.out (HB.out v1 HG0.out) hp HH.out.til HR0.out).mono ?_
  rintro e w1 ⟨rfl, hr, hg⟩
  have hzk := HZ0.out.kept hg (fun e => by have := Option.some.inj e; omega)
  have c0 := hzk.cell 1 _ rfl
  have c1 := hzk.froz 1 (by simp)
  have hst : w1.grownBy (w1.setCell ⟨w.heap.size + 1, 1, none⟩ (.int .i64 x.til)) (some (w.heap.size + 1)) := grown_setCell w1 ⟨w.heap.size + 1, 1, none⟩ _
  have HZ1 : Hid (Cel (w1.setCell ⟨w.heap.size + 1, 1, none⟩ (.int .i64 x.til)) (w.heap.size + 1) [.int .i64 x.frm, .int .i64 x.til, .string ⟨#[]⟩]) := Lib.hid (hzk.set (i := 1) (by simp) (.int .i64 x.til))
  have HY1 := Lib.hid ((HY0.out.kept hg (fun e => by have := Option.some.inj e; omega)).kept hst (fun e => by have := Option.some.inj e; omega))
  have HG1 := Lib.hid (grown_past (grown_trans HG0.out hg) hst (by omega))
  have HR1 := Lib.hid (hr.kept hst (fun b hb e => by have := Option.some.inj e; omega))
  clear hr hg hzk hst HZ0 HY0 HG0 HR0
  go_upto_region 4 with (fail)
  generalize w1.setCell _ _ = v2 at *
  clear c0 c1
  go_wp2_with fail
  refine (taketext_any 80 HE.out (HB.out v2 HG1.out) hp HH.out.cond (by decide) HR1.out).mono ?_
  rintro e w2 ⟨rfl, hr, hg⟩
  have hzk := HZ1.out.kept hg (fun e => by have := Option.some.inj e; omega)
  have c0 := hzk.cell 2 _ rfl
  have c1 := hzk.froz 2 (by simp)
  have hst : w2.grownBy (w2.setCell ⟨w.heap.size + 1, 2, none⟩ (.string x.cond)) (some (w.heap.size + 1)) := grown_setCell w2 ⟨w.heap.size + 1, 2, none⟩ _
  have HZ2 : Hid (Cel (w2.setCell ⟨w.heap.size + 1, 2, none⟩ (.string x.cond)) (w.heap.size + 1) [.int .i64 x.frm, .int .i64 x.til, .string x.cond]) := Lib.hid (hzk.set (i := 2) (by simp) (.string x.cond))
  have HY2 := Lib.hid ((HY1.out.kept hg (fun e => by have := Option.some.inj e; omega)).kept hst (fun e => by have := Option.some.inj e; omega))
  have HG2 := Lib.hid (grown_past (grown_trans HG1.out hg) hst (by omega))
  have HR2 := Lib.hid (hr.kept hst (fun b hb e => by have := Option.some.inj e; omega))
  clear hr hg hzk hst HZ1 HY1 HG1 HR1
  go_upto_region 5 with (fail)
  generalize w2.setCell _ _ = v3 at *
  clear c0 c1
  obtain ⟨⟨a0, a1, a2⟩, _⟩ := tri_facts HZ2.out
  have f0 := HY2.out.froz 0 (by simp)
  have b0 := HY2.out.cell 0 _ rfl
  have f1 := HY2.out.froz 1 (by simp)
  have b1 := HY2.out.cell 1 _ rfl
  have f2 := HY2.out.froz 2 (by simp)
  have b2 := HY2.out.cell 2 _ rfl
  have HK := Lib.hid (cel_set3 HY2.out (.int .i64 x.frm) (.int .i64 x.til) (.string x.cond))
  have hst := grown_set3 v3 w.heap.size (.int .i64 x.frm) (.int .i64 x.til) (.string x.cond)
  have HGF := Lib.hid (grown_past HG2.out hst (Nat.le_refl _))
  have HRF := Lib.hid (HR2.out.kept hst (fun b hb e => by have := Option.some.inj e; omega))
  clear hst
  go_wp2
  clear a0 a1 a2 f0 b0 f1 b1 f2 b2
  generalize (((v3.setCell _ _).setCell _ _).setCell _ _) = wz at *
  obtain ⟨⟨k0, k1, k2⟩, _⟩ := tri_facts HK.out
  exact bodyPost_ret (v := x.val) (by simp [results, Tryz.results47, go_sem, k0, k1, k2, Fl.val]) rfl ⟨rfl, HRF.out, HGF.out⟩
end
end Pr
end Go.Proofs.YtjababmmcejgdaaGreatDoor
