/- ReachSays: its helper: the program's answers and the document's are the same. -/
import Derived.Test.YtjdgloofdafebaaYReachSays6
import Derived.Test.YtjdgloofdafebaaRegion
namespace Go.Proofs.Ytjdgloofdafebaa
open Go.RowKit

namespace Pr
/-- A row of marks that say Q. -/
def MarkW (n : Nat) (Q : Nat → Prop) (v : Value) (w : World) : Prop := ∃ (g : Nat) (f : Nat → Bool), v = .slice (some ⟨g, 0, none⟩) n n ∧ Cel w g (bv f n) ∧ ∀ v, v < n → (f v = true ↔ Q v)
theorem MarkW.mono (n : Nat) (Q : Nat → Prop) : Rg.Mono (MarkW n Q) := fun v w w' h hb => by
  obtain ⟨g, f, h1, h2, h3⟩ := h
  exact ⟨g, f, h1, h2.below hb (Nat.le_refl _), h3⟩
section
variable (s : ByteArray) (A : Option Addr) (n c : Nat) (F : Option Addr) (m d : Nat) (fl : List Fl)
set_option maxHeartbeats 6400000 in
set_option maxRecDepth 10000 in
theorem dsame_any (node : Int) (w : World) (hF : KRow Fl.κ w w.heap.size F m fl) (hn : n ≤ 100000) (hm : m ≤ 100000) :
    Calls Try.prog 7 #[.agg #[.string s, .slice A n c, .slice F m d], .int .i64 node] w fun e w' => e = .returned (.bool true) ∧ Below w.heap.size w w' := by
  have hba : Below w.heap.size w (w.alloc (.cells #[.string s, .slice A n c, .slice F m d] 25)) := (Below.refl _ _).alloc (Nat.le_refl _) _
  have HC := Lib.hid (Cel.lit w #[.string s, .slice A n c, .slice F m d] 25)
  have HB := Lib.hid hba
  have hK := fun (W : World) (h : Below w.heap.size w W) => (hF.below h (Nat.le_refl _)).mono h.size
  have HOA := Lib.hid (fun (W : World) (h : Below w.heap.size w W) => rorder_any s A n c F m d fl W (hK W h) hn hm)
  have HOB := Lib.hid (fun (W : World) (h : Below w.heap.size w W) => reforder_any s A n c F m d fl W (hK W h) hn hm)
  have HLA := Lib.hid (fun (W : World) (h : Below w.heap.size w W) => rlongest_any s A n c F m d fl W (hK W h) hn hm)
  have HLB := Lib.hid (fun (W : World) (h : Below w.heap.size w W) => reflongest_any s A n c F m d fl W (hK W h) hn hm)
  have HFA := Lib.hid (fun (W : World) (h : Below w.heap.size w W) => rfrom_any s A n c F m d fl node W (hK W h) hn hm)
  have HFB := Lib.hid (fun (W : World) (h : Below w.heap.size w W) => reffrom_any s A n c F m d fl node W (hK W h) hn hm)
  have HTA := Lib.hid (fun (W : World) (h : Below w.heap.size w W) => rto_any s A n c F m d fl node W (hK W h) hn hm)
  have HTB := Lib.hid (fun (W : World) (h : Below w.heap.size w W) => refto_any s A n c F m d fl node W (hK W h) hn hm)
  clear hF hba hK
  have HLN := Lib.hid (ordL_len n (nxt n fl m))
  go_enter Try.func7, Try.ntmps7
  go_upto_region 1 with (fail)
  generalize w.alloc _ = wa at *
  obtain ⟨⟨z0, z1, z2⟩, _⟩ := tri_facts HC.out
  go_wp2_with fail
  refine (HOA.out _ HB.out).mono ?_
  rintro e w1 ho
  obtain ⟨X, cx, rfl, hx, hb1⟩ := ho.one
  have HB1 := Lib.hid (HB.out.trans (hb1.mono HB.out.size))
  have HC1 := Lib.hid (HC.out.below hb1 (Nat.le_refl _))
  have HX := Lib.hid hx
  clear ho hx hb1 z0 z1 z2 HC
  obtain ⟨⟨z0, z1, z2⟩, _⟩ := tri_facts HC1.out
  go_wp2_with fail
  refine (HOB.out _ HB1.out).mono ?_
  rintro e w2 ho
  obtain ⟨Y, cy, rfl, hy, hb2⟩ := ho.one
  have HB2 := Lib.hid (HB1.out.trans (hb2.mono HB1.out.size))
  have HC2 := Lib.hid (HC1.out.below hb2 (Nat.le_refl _))
  have HX2 := Lib.hid ((HX.out.below hb2 (Nat.le_refl _)).mono hb2.size)
  have HY := Lib.hid hy
  clear ho hy hb2 z0 z1 z2 HC1 HX
  obtain ⟨⟨z0, z1, z2⟩, _⟩ := tri_facts HC2.out
  go_wp2_with fail
  refine (HLA.out _ HB2.out).mono ?_
  rintro e w3 ho
  obtain ⟨rfl, hb3⟩ := ho.one
  have HB3 := Lib.hid (HB2.out.trans (hb3.mono HB2.out.size))
  have HC3 := Lib.hid (HC2.out.below hb3 (Nat.le_refl _))
  have HX3 := Lib.hid ((HX2.out.below hb3 (Nat.le_refl _)).mono hb3.size)
  have HY3 := Lib.hid ((HY.out.below hb3 (Nat.le_refl _)).mono hb3.size)
  clear ho hb3 z0 z1 z2 HC2 HX2 HY
  obtain ⟨⟨z0, z1, z2⟩, _⟩ := tri_facts HC3.out
  go_wp2_with fail
  refine (HLB.out _ HB3.out).mono ?_
  rintro e w4 ho
  obtain ⟨rfl, hb4⟩ := ho.one
  have HB4 := Lib.hid (HB3.out.trans (hb4.mono HB3.out.size))
  have HC4 := Lib.hid (HC3.out.below hb4 (Nat.le_refl _))
  have HX4 := Lib.hid ((HX3.out.below hb4 (Nat.le_refl _)).mono hb4.size)
  have HY4 := Lib.hid ((HY3.out.below hb4 (Nat.le_refl _)).mono hb4.size)
  clear ho hb4 z0 z1 z2 HC3 HX3 HY3 HOA HOB HLA HLB HB HB1 HB2 HB3
  obtain ⟨⟨z0, z1, z2⟩, _⟩ := tri_facts HC4.out
  have HLL := Lib.hid (show (ordL n (nxt n fl m)).length ≤ 100000 from Nat.le_trans HLN.out hn)
  generalize ordL n (nxt n fl m) = ol at *
  generalize ordB n (nxt n fl m) = ob at *
  generalize lgV n (nxt n fl m) = lv at *
  have hbb : (ob == ob) = true := by simp
  have hll : ((lv : Int) == (lv : Int)) = true := by simp
  have HS := Lib.hid (fun W (hb : Below w4.heap.size w4 W) => (show W.cell? ⟨w.heap.size, 0, none⟩ = some (.string s) ∧ W.cell? ⟨w.heap.size, 1, none⟩ = some (.slice A n c) ∧ W.cell? ⟨w.heap.size, 2, none⟩ = some (.slice F m d) from by
    obtain ⟨⟨b0, b1, b2⟩, _⟩ := tri_facts (HC4.out.below hb (Nat.le_refl _))
    exact ⟨b0, b1, b2⟩))
  have HD := Lib.hid (fun W (hb : Below w4.heap.size w4 W) => HB4.out.trans (hb.mono HB4.out.size))
  clear z0 z1 z2
  go_upto_region 5 with (fail)
  refine Rg.region_each (by kernel_rfl) (fun i => ([
      (fun v _ => v = .agg #[.string s, .slice A n c, .slice F m d]),
      (fun v _ => v = .int .i64 node),
      ((MarkW n (Comes n (nxt n fl m) node))),
      (fun v _ => v = .agg #[.string s, .slice A n c, .slice F m d]),
      (fun v _ => v = .int .i64 node),
      ((MarkW n (Comes n (nxt n fl m) node))),
      (fun v _ => v = .bool true),
      (fun v _ => v = .bool true),
      (fun v _ => v = .agg #[.string s, .slice A n c, .slice F m d]),
      (fun v _ => v = .int .i64 node),
      ((MarkW n (Comes n (bck n fl m) node))),
      (fun v _ => v = .agg #[.string s, .slice A n c, .slice F m d]),
      (fun v _ => v = .int .i64 node),
      ((MarkW n (Comes n (bck n fl m) node))),
      (fun v _ => v = .bool true),
      (fun v _ => v = .bool true),
      (fun v _ => v = .bool true),
      (fun v _ => v = .slice X ol.length cx),
      (fun v _ => v = .slice Y ol.length cy),
      (fun v _ => v = .bool true),
      (fun v _ => v = .bool true),
      (fun v _ => v = .bool true),
      (fun v _ => v = .bool ob),
      (fun v _ => v = .bool ob),
      (fun v _ => v = .bool true),
      (fun v _ => v = .bool true),
      (fun v _ => v = .bool true),
      (fun v _ => v = .int .i64 (lv : Int)),
      (fun v _ => v = .int .i64 (lv : Int)),
      (fun v _ => v = .bool true),
      (fun v _ => v = .bool true),
      (fun v _ => v = .bool true),
      (fun v _ => v = .bool ob),
      (fun v _ => v = .bool ob),
      (fun v _ => v = .bool true),
      (fun v _ => v = .bool true),
      (fun v _ => v = .bool true)
      ] : List (Value → World → Prop)).getD i (fun _ _ => True)) (by kernel_rfl) ?mono (Rg.by_each _ ⟨?s0, ?s1, ?s2, ?s3, ?s4, ?s5, ?s6, ?s7, ?s8, ?s9, ?s10, ?s11, ?s12, ?s13, ?s14, ?s15, ?s16, ?s17, ?s18, ?s19, ?s20, ?s21, ?s22, ?s23, ?s24, ?s25, ?s26, ?s27, ?s28, ?s29, ?s30, ?s31, ?s32, ?s33, ?s34, ?s35, ?s36, trivial⟩) ?fin
  case s0 =>
    intro a w' hp
    have e2 : a.eval (.tmp 2) = .pointer (some ⟨w.heap.size, 0, none⟩) := hp.rest 2 (by rfl)
    have hg : Below w4.heap.size w4 w' := (Below.refl w4.heap.size w4).drew.trans hp.grew
    obtain ⟨z0, z1, z2⟩ := HS.out w' hg
    refine Rg.step_run (v := .agg #[.string s, .slice A n c, .slice F m d]) (w' := w') rfl (Rg.wanted_none rfl) (by simp) ?_ rfl (Below.refl _ _)
    clear hp hg
    obtain ⟨ec, eg2, ef⟩ := Rg.eval_at a
    generalize a.eval = ρ at *
    go_simp
  case s1 =>
    intro a w' hp
    have e1 : a.eval (.tmp 1) = .int .i64 node := hp.rest 1 (by rfl)
    exact Rg.step_run (v := a.eval (.tmp 1)) (w' := w') rfl (Rg.wanted_none rfl) (by simp) rfl e1 (Below.refl _ _)
  case s2 =>
    intro a w' hp
    have e33 : a.eval (.tmp 33) = .agg #[.string s, .slice A n c, .slice F m d] := hp.at_ 0 (by rfl)
    have e34 : a.eval (.tmp 34) = .int .i64 node := hp.at_ 1 (by rfl)
    have hg : Below w4.heap.size w4 w' := (Below.refl w4.heap.size w4).drew.trans hp.grew
    refine Rg.step_call (f := 16) (args := #[.agg #[.string s, .slice A n c, .slice F m d], .int .i64 node]) rfl (Rg.wanted_none rfl) (by simp) (by clear hp hg; obtain ⟨ec, eg2, ef⟩ := Rg.eval_at a; generalize a.eval = ρ at *; go_simp) ?_
    refine (HFA.out w' (HD.out w' hg)).mono ?_
    rintro e w2 ⟨⟨g, f, rfl, hm, _, hq⟩, hb2⟩
    exact ⟨_, rfl, ⟨g, f, rfl, hm, hq⟩, hb2⟩
  case s3 =>
    intro a w' hp
    have e2 : a.eval (.tmp 2) = .pointer (some ⟨w.heap.size, 0, none⟩) := hp.rest 2 (by rfl)
    have hg : Below w4.heap.size w4 w' := (Below.refl w4.heap.size w4).drew.trans hp.grew
    obtain ⟨z0, z1, z2⟩ := HS.out w' hg
    refine Rg.step_run (v := .agg #[.string s, .slice A n c, .slice F m d]) (w' := w') rfl (Rg.wanted_none rfl) (by simp) ?_ rfl (Below.refl _ _)
    clear hp hg
    obtain ⟨ec, eg2, ef⟩ := Rg.eval_at a
    generalize a.eval = ρ at *
    go_simp
  case s4 =>
    intro a w' hp
    have e1 : a.eval (.tmp 1) = .int .i64 node := hp.rest 1 (by rfl)
    exact Rg.step_run (v := a.eval (.tmp 1)) (w' := w') rfl (Rg.wanted_none rfl) (by simp) rfl e1 (Below.refl _ _)
  case s5 =>
    intro a w' hp
    have e36 : a.eval (.tmp 36) = .agg #[.string s, .slice A n c, .slice F m d] := hp.at_ 3 (by rfl)
    have e37 : a.eval (.tmp 37) = .int .i64 node := hp.at_ 4 (by rfl)
    have hg : Below w4.heap.size w4 w' := (Below.refl w4.heap.size w4).drew.trans hp.grew
    refine Rg.step_call (f := 17) (args := #[.agg #[.string s, .slice A n c, .slice F m d], .int .i64 node]) rfl (Rg.wanted_none rfl) (by simp) (by clear hp hg; obtain ⟨ec, eg2, ef⟩ := Rg.eval_at a; generalize a.eval = ρ at *; go_simp) ?_
    refine (HFB.out w' (HD.out w' hg)).mono ?_
    rintro e w2 ⟨⟨g, f, rfl, hm, _, hq⟩, hb2⟩
    exact ⟨_, rfl, ⟨g, f, rfl, hm, hq⟩, hb2⟩
  case s6 =>
    intro a w' hp
    have e35 : ((MarkW n (Comes n (nxt n fl m) node))) (a.eval (.tmp 35)) w' := hp.at_ 2 (by rfl)
    have e38 : ((MarkW n (Comes n (nxt n fl m) node))) (a.eval (.tmp 38)) w' := hp.at_ 5 (by rfl)
    have hg : Below w4.heap.size w4 w' := (Below.refl w4.heap.size w4).drew.trans hp.grew
    obtain ⟨g1, f1, r1, m1, q1⟩ := e35
    obtain ⟨g2, f2, r2, m2, q2⟩ := e38
    have hx := samebools_any g1 g2 n f1 f2 w' m1 m2 hn (same_marks q1 q2)
    clear m1 m2 q1 q2
    refine Rg.step_call (f := 15) (args := #[.slice (some ⟨g1, 0, none⟩) n n, .slice (some ⟨g2, 0, none⟩) n n]) rfl (Rg.wanted_none rfl) (by simp) (by clear hp hg hx; obtain ⟨ec, eg2, ef⟩ := Rg.eval_at a; generalize a.eval = ρ at *; go_simp) ?_
    refine hx.mono ?_
    rintro e w2 ⟨rfl, hb2⟩
    exact ⟨_, rfl, rfl, hb2⟩
  case s7 =>
    intro a w' hp
    have e39 : a.eval (.tmp 39) = .bool true := hp.at_ 6 (by rfl)
    exact Rg.step_run (v := a.eval (.tmp 39)) (w' := w') rfl (Rg.wanted_none rfl) (by simp) rfl e39 (Below.refl _ _)
  case s8 =>
    intro a w' hp
    have e2 : a.eval (.tmp 2) = .pointer (some ⟨w.heap.size, 0, none⟩) := hp.rest 2 (by rfl)
    have hg : Below w4.heap.size w4 w' := (Below.refl w4.heap.size w4).drew.trans hp.grew
    obtain ⟨z0, z1, z2⟩ := HS.out w' hg
    refine Rg.step_run (v := .agg #[.string s, .slice A n c, .slice F m d]) (w' := w') rfl (Rg.wanted_some (g := 7) (b := true) (d := 40) rfl (by rfl) (hp.at_ 7 (by rfl))) (by simp) ?_ rfl (Below.refl _ _)
    clear hp hg
    obtain ⟨ec, eg2, ef⟩ := Rg.eval_at a
    generalize a.eval = ρ at *
    go_simp
  case s9 =>
    intro a w' hp
    have e1 : a.eval (.tmp 1) = .int .i64 node := hp.rest 1 (by rfl)
    exact Rg.step_run (v := a.eval (.tmp 1)) (w' := w') rfl (Rg.wanted_some (g := 7) (b := true) (d := 40) rfl (by rfl) (hp.at_ 7 (by rfl))) (by simp) rfl e1 (Below.refl _ _)
  case s10 =>
    intro a w' hp
    have e41 : a.eval (.tmp 41) = .agg #[.string s, .slice A n c, .slice F m d] := hp.at_ 8 (by rfl)
    have e42 : a.eval (.tmp 42) = .int .i64 node := hp.at_ 9 (by rfl)
    have hg : Below w4.heap.size w4 w' := (Below.refl w4.heap.size w4).drew.trans hp.grew
    refine Rg.step_call (f := 18) (args := #[.agg #[.string s, .slice A n c, .slice F m d], .int .i64 node]) rfl (Rg.wanted_some (g := 7) (b := true) (d := 40) rfl (by rfl) (hp.at_ 7 (by rfl))) (by simp) (by clear hp hg; obtain ⟨ec, eg2, ef⟩ := Rg.eval_at a; generalize a.eval = ρ at *; go_simp) ?_
    refine (HTA.out w' (HD.out w' hg)).mono ?_
    rintro e w2 ⟨⟨g, f, rfl, hm, _, hq⟩, hb2⟩
    exact ⟨_, rfl, ⟨g, f, rfl, hm, hq⟩, hb2⟩
  case s11 =>
    intro a w' hp
    have e2 : a.eval (.tmp 2) = .pointer (some ⟨w.heap.size, 0, none⟩) := hp.rest 2 (by rfl)
    have hg : Below w4.heap.size w4 w' := (Below.refl w4.heap.size w4).drew.trans hp.grew
    obtain ⟨z0, z1, z2⟩ := HS.out w' hg
    refine Rg.step_run (v := .agg #[.string s, .slice A n c, .slice F m d]) (w' := w') rfl (Rg.wanted_some (g := 7) (b := true) (d := 40) rfl (by rfl) (hp.at_ 7 (by rfl))) (by simp) ?_ rfl (Below.refl _ _)
    clear hp hg
    obtain ⟨ec, eg2, ef⟩ := Rg.eval_at a
    generalize a.eval = ρ at *
    go_simp
  case s12 =>
    intro a w' hp
    have e1 : a.eval (.tmp 1) = .int .i64 node := hp.rest 1 (by rfl)
    exact Rg.step_run (v := a.eval (.tmp 1)) (w' := w') rfl (Rg.wanted_some (g := 7) (b := true) (d := 40) rfl (by rfl) (hp.at_ 7 (by rfl))) (by simp) rfl e1 (Below.refl _ _)
  case s13 =>
    intro a w' hp
    have e44 : a.eval (.tmp 44) = .agg #[.string s, .slice A n c, .slice F m d] := hp.at_ 11 (by rfl)
    have e45 : a.eval (.tmp 45) = .int .i64 node := hp.at_ 12 (by rfl)
    have hg : Below w4.heap.size w4 w' := (Below.refl w4.heap.size w4).drew.trans hp.grew
    refine Rg.step_call (f := 19) (args := #[.agg #[.string s, .slice A n c, .slice F m d], .int .i64 node]) rfl (Rg.wanted_some (g := 7) (b := true) (d := 40) rfl (by rfl) (hp.at_ 7 (by rfl))) (by simp) (by clear hp hg; obtain ⟨ec, eg2, ef⟩ := Rg.eval_at a; generalize a.eval = ρ at *; go_simp) ?_
    refine (HTB.out w' (HD.out w' hg)).mono ?_
    rintro e w2 ⟨⟨g, f, rfl, hm, _, hq⟩, hb2⟩
    exact ⟨_, rfl, ⟨g, f, rfl, hm, hq⟩, hb2⟩
  case s14 =>
    intro a w' hp
    have e43 : ((MarkW n (Comes n (bck n fl m) node))) (a.eval (.tmp 43)) w' := hp.at_ 10 (by rfl)
    have e46 : ((MarkW n (Comes n (bck n fl m) node))) (a.eval (.tmp 46)) w' := hp.at_ 13 (by rfl)
    have hg : Below w4.heap.size w4 w' := (Below.refl w4.heap.size w4).drew.trans hp.grew
    obtain ⟨g1, f1, r1, m1, q1⟩ := e43
    obtain ⟨g2, f2, r2, m2, q2⟩ := e46
    have hx := samebools_any g1 g2 n f1 f2 w' m1 m2 hn (same_marks q1 q2)
    clear m1 m2 q1 q2
    refine Rg.step_call (f := 15) (args := #[.slice (some ⟨g1, 0, none⟩) n n, .slice (some ⟨g2, 0, none⟩) n n]) rfl (Rg.wanted_some (g := 7) (b := true) (d := 40) rfl (by rfl) (hp.at_ 7 (by rfl))) (by simp) (by clear hp hg hx; obtain ⟨ec, eg2, ef⟩ := Rg.eval_at a; generalize a.eval = ρ at *; go_simp) ?_
    refine hx.mono ?_
    rintro e w2 ⟨rfl, hb2⟩
    exact ⟨_, rfl, rfl, hb2⟩
  case s15 =>
    intro a w' hp
    have e40 : a.eval (.tmp 40) = .bool true := hp.at_ 7 (by rfl)
    have e47 : a.eval (.tmp 47) = .bool true := hp.at_ 14 (by rfl)
    refine Rg.step_run (v := .bool true) (w' := w') rfl (Rg.wanted_none rfl) (by simp) ?_ rfl (Below.refl _ _)
    clear hp
    obtain ⟨ec, eg, ef⟩ := Rg.eval_at a
    generalize a.eval = ρ at *
    go_simp
  case s16 =>
    intro a w' hp
    have e48 : a.eval (.tmp 48) = .bool true := hp.at_ 15 (by rfl)
    exact Rg.step_run (v := a.eval (.tmp 48)) (w' := w') rfl (Rg.wanted_none rfl) (by simp) rfl e48 (Below.refl _ _)
  case s17 =>
    intro a w' hp
    have e5 : a.eval (.tmp 5) = .slice X ol.length cx := hp.rest 5 (by rfl)
    exact Rg.step_run (v := a.eval (.tmp 5)) (w' := w') rfl (Rg.wanted_some (g := 16) (b := true) (d := 49) rfl (by rfl) (hp.at_ 16 (by rfl))) (by simp) rfl e5 (Below.refl _ _)
  case s18 =>
    intro a w' hp
    have e7 : a.eval (.tmp 7) = .slice Y ol.length cy := hp.rest 7 (by rfl)
    exact Rg.step_run (v := a.eval (.tmp 7)) (w' := w') rfl (Rg.wanted_some (g := 16) (b := true) (d := 49) rfl (by rfl) (hp.at_ 16 (by rfl))) (by simp) rfl e7 (Below.refl _ _)
  case s19 =>
    intro a w' hp
    have e50 : a.eval (.tmp 50) = .slice X ol.length cx := hp.at_ 17 (by rfl)
    have e51 : a.eval (.tmp 51) = .slice Y ol.length cy := hp.at_ 18 (by rfl)
    have hg : Below w4.heap.size w4 w' := (Below.refl w4.heap.size w4).drew.trans hp.grew
    have hx := sameints_any X Y ol.length cx cy w4.heap.size w4.heap.size ol w' (HX4.out.below hg (Nat.le_refl _)) (HY4.out.below hg (Nat.le_refl _)) hg.size hg.size HLL.out
    refine Rg.step_call (f := 20) (args := #[.slice X ol.length cx, .slice Y ol.length cy]) rfl (Rg.wanted_some (g := 16) (b := true) (d := 49) rfl (by rfl) (hp.at_ 16 (by rfl))) (by simp) (by clear hp hg hx; obtain ⟨ec, eg2, ef⟩ := Rg.eval_at a; generalize a.eval = ρ at *; go_simp) ?_
    refine hx.mono ?_
    rintro e w2 ⟨rfl, hb2⟩
    exact ⟨_, rfl, rfl, hb2⟩
  case s20 =>
    intro a w' hp
    have e49 : a.eval (.tmp 49) = .bool true := hp.at_ 16 (by rfl)
    have e52 : a.eval (.tmp 52) = .bool true := hp.at_ 19 (by rfl)
    refine Rg.step_run (v := .bool true) (w' := w') rfl (Rg.wanted_none rfl) (by simp) ?_ rfl (Below.refl _ _)
    clear hp
    obtain ⟨ec, eg, ef⟩ := Rg.eval_at a
    generalize a.eval = ρ at *
    go_simp
  case s21 =>
    intro a w' hp
    have e53 : a.eval (.tmp 53) = .bool true := hp.at_ 20 (by rfl)
    exact Rg.step_run (v := a.eval (.tmp 53)) (w' := w') rfl (Rg.wanted_none rfl) (by simp) rfl e53 (Below.refl _ _)
  case s22 =>
    intro a w' hp
    have e6 : a.eval (.tmp 6) = .bool ob := hp.rest 6 (by rfl)
    exact Rg.step_run (v := a.eval (.tmp 6)) (w' := w') rfl (Rg.wanted_some (g := 21) (b := true) (d := 54) rfl (by rfl) (hp.at_ 21 (by rfl))) (by simp) rfl e6 (Below.refl _ _)
  case s23 =>
    intro a w' hp
    have e8 : a.eval (.tmp 8) = .bool ob := hp.rest 8 (by rfl)
    exact Rg.step_run (v := a.eval (.tmp 8)) (w' := w') rfl (Rg.wanted_some (g := 21) (b := true) (d := 54) rfl (by rfl) (hp.at_ 21 (by rfl))) (by simp) rfl e8 (Below.refl _ _)
  case s24 =>
    intro a w' hp
    have e55 : a.eval (.tmp 55) = .bool ob := hp.at_ 22 (by rfl)
    have e56 : a.eval (.tmp 56) = .bool ob := hp.at_ 23 (by rfl)
    refine Rg.step_run (v := .bool true) (w' := w') rfl (Rg.wanted_some (g := 21) (b := true) (d := 54) rfl (by rfl) (hp.at_ 21 (by rfl))) (by simp) ?_ rfl (Below.refl _ _)
    clear hp
    obtain ⟨ec, eg, ef⟩ := Rg.eval_at a
    generalize a.eval = ρ at *
    go_simp
  case s25 =>
    intro a w' hp
    have e54 : a.eval (.tmp 54) = .bool true := hp.at_ 21 (by rfl)
    have e57 : a.eval (.tmp 57) = .bool true := hp.at_ 24 (by rfl)
    refine Rg.step_run (v := .bool true) (w' := w') rfl (Rg.wanted_none rfl) (by simp) ?_ rfl (Below.refl _ _)
    clear hp
    obtain ⟨ec, eg, ef⟩ := Rg.eval_at a
    generalize a.eval = ρ at *
    go_simp
  case s26 =>
    intro a w' hp
    have e58 : a.eval (.tmp 58) = .bool true := hp.at_ 25 (by rfl)
    exact Rg.step_run (v := a.eval (.tmp 58)) (w' := w') rfl (Rg.wanted_none rfl) (by simp) rfl e58 (Below.refl _ _)
  case s27 =>
    intro a w' hp
    have e9 : a.eval (.tmp 9) = .int .i64 (lv : Int) := hp.rest 9 (by rfl)
    exact Rg.step_run (v := a.eval (.tmp 9)) (w' := w') rfl (Rg.wanted_some (g := 26) (b := true) (d := 59) rfl (by rfl) (hp.at_ 26 (by rfl))) (by simp) rfl e9 (Below.refl _ _)
  case s28 =>
    intro a w' hp
    have e11 : a.eval (.tmp 11) = .int .i64 (lv : Int) := hp.rest 11 (by rfl)
    exact Rg.step_run (v := a.eval (.tmp 11)) (w' := w') rfl (Rg.wanted_some (g := 26) (b := true) (d := 59) rfl (by rfl) (hp.at_ 26 (by rfl))) (by simp) rfl e11 (Below.refl _ _)
  case s29 =>
    intro a w' hp
    have e60 : a.eval (.tmp 60) = .int .i64 (lv : Int) := hp.at_ 27 (by rfl)
    have e61 : a.eval (.tmp 61) = .int .i64 (lv : Int) := hp.at_ 28 (by rfl)
    refine Rg.step_run (v := .bool true) (w' := w') rfl (Rg.wanted_some (g := 26) (b := true) (d := 59) rfl (by rfl) (hp.at_ 26 (by rfl))) (by simp) ?_ rfl (Below.refl _ _)
    clear hp
    obtain ⟨ec, eg, ef⟩ := Rg.eval_at a
    generalize a.eval = ρ at *
    go_simp
  case s30 =>
    intro a w' hp
    have e59 : a.eval (.tmp 59) = .bool true := hp.at_ 26 (by rfl)
    have e62 : a.eval (.tmp 62) = .bool true := hp.at_ 29 (by rfl)
    refine Rg.step_run (v := .bool true) (w' := w') rfl (Rg.wanted_none rfl) (by simp) ?_ rfl (Below.refl _ _)
    clear hp
    obtain ⟨ec, eg, ef⟩ := Rg.eval_at a
    generalize a.eval = ρ at *
    go_simp
  case s31 =>
    intro a w' hp
    have e63 : a.eval (.tmp 63) = .bool true := hp.at_ 30 (by rfl)
    exact Rg.step_run (v := a.eval (.tmp 63)) (w' := w') rfl (Rg.wanted_none rfl) (by simp) rfl e63 (Below.refl _ _)
  case s32 =>
    intro a w' hp
    have e10 : a.eval (.tmp 10) = .bool ob := hp.rest 10 (by rfl)
    exact Rg.step_run (v := a.eval (.tmp 10)) (w' := w') rfl (Rg.wanted_some (g := 31) (b := true) (d := 64) rfl (by rfl) (hp.at_ 31 (by rfl))) (by simp) rfl e10 (Below.refl _ _)
  case s33 =>
    intro a w' hp
    have e12 : a.eval (.tmp 12) = .bool ob := hp.rest 12 (by rfl)
    exact Rg.step_run (v := a.eval (.tmp 12)) (w' := w') rfl (Rg.wanted_some (g := 31) (b := true) (d := 64) rfl (by rfl) (hp.at_ 31 (by rfl))) (by simp) rfl e12 (Below.refl _ _)
  case s34 =>
    intro a w' hp
    have e65 : a.eval (.tmp 65) = .bool ob := hp.at_ 32 (by rfl)
    have e66 : a.eval (.tmp 66) = .bool ob := hp.at_ 33 (by rfl)
    refine Rg.step_run (v := .bool true) (w' := w') rfl (Rg.wanted_some (g := 31) (b := true) (d := 64) rfl (by rfl) (hp.at_ 31 (by rfl))) (by simp) ?_ rfl (Below.refl _ _)
    clear hp
    obtain ⟨ec, eg, ef⟩ := Rg.eval_at a
    generalize a.eval = ρ at *
    go_simp
  case s35 =>
    intro a w' hp
    have e64 : a.eval (.tmp 64) = .bool true := hp.at_ 31 (by rfl)
    have e67 : a.eval (.tmp 67) = .bool true := hp.at_ 34 (by rfl)
    refine Rg.step_run (v := .bool true) (w' := w') rfl (Rg.wanted_none rfl) (by simp) ?_ rfl (Below.refl _ _)
    clear hp
    obtain ⟨ec, eg, ef⟩ := Rg.eval_at a
    generalize a.eval = ρ at *
    go_simp
  case s36 =>
    intro a w' hp
    have e68 : a.eval (.tmp 68) = .bool true := hp.at_ 35 (by rfl)
    exact Rg.step_run (v := a.eval (.tmp 68)) (w' := w') rfl (Rg.wanted_none rfl) (by simp) rfl e68 (Below.refl _ _)
  case mono =>
    refine Rg.mono_getD _ ?_
    intro p hp
    repeat (rcases List.mem_cons.1 hp with rfl | hp; first | exact Rg.mono_eq _ | exact MarkW.mono _ _)
    cases hp
  case fin =>
    intro a w' hsz hdf hrest hdone hb
    have hv : a.tmps.getD 4 undef = .bool true := hdone 36 (by decide)
    have hdf' : a.defers = [] := hdf
    have hbb := HD.out w' hb
    clear hrest hdone
    go_wp2
    refine bodyPost_ret (v := .bool true) ?_ hdf' ⟨rfl, hbb⟩
    simp [results, Try.results7, go_sem]
    exact (Array.getD_eq_getD_getElem? ..).symm.trans hv
end
end Pr
end Go.Proofs.Ytjdgloofdafebaa
