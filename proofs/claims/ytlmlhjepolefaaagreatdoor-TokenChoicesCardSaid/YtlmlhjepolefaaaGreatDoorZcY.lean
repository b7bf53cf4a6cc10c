/- Package token: copies of rows; a board in memory of its own. -/
import Derived.Test.YtlmlhjepolefaaaGreatDoorYTokenChoices15
import Derived.Test.YtlmlhjepolefaaaGreatDoorYTokenChoices4
namespace Go.Proofs.YtlmlhjepolefaaaGreatDoor
open Go.RowKit

namespace Pr
set_option maxHeartbeats 400000 in
theorem nclone_any (A : Option Addr) (n c : Nat) (l : List Nd) (w : World) (hr : KRow Nd.κ w w.heap.size A n l) (hA : nilOk A n c) (hn : n ≤ 1099511627) :
    Calls Tryz.prog 22 #[.slice A n c] w fun e w' => (∃ A' c', e = .returned (.slice A' n c') ∧ OwnK Nd.κ w' w.heap.size 26 A' n c' l) ∧ Below w.heap.size w w' := by
  obtain ⟨i0, hi0, hz0, hz1, hz2⟩ := info_parts info_node
  have q0 : ∀ (w : World) (a : Option Addr) (n c n' c' : Nat), (binOp .eql 27 (.slice a n c) (.slice none n' c')).run Tryz.prog w = .ok (.bool a.isNone) w := fun w a n c n' c' => Lib.run_eql_slice_nil w _ _ a n c n' c' Tryz.underlying27
  cases A with
  | none =>
    obtain ⟨rfl, rfl⟩ := hA rfl
    go_enter Tryz.func22, Tryz.ntmps22
    go_wp2
    go_ret
    have hl : l = [] := List.eq_nil_of_length_eq_zero (hr.len (by decide))
    subst hl
    exact ⟨⟨none, 0, rfl, by decide, World.ownsRow_nil _ _ _ _⟩, Below.refl _ _⟩
  | some a =>
    go_enter Tryz.func22, Tryz.ntmps22
    have hb1 : Below w.heap.size w (w.alloc (.cells #[] 26)) := (Below.refl _ _).alloc (Nat.le_refl _) _
    go_wp2_with (at_builtin; refine append_row rfl (.tmp 5) (.tmp 6) _ rfl 26 i0 _ 8 88 Tryz.underlying27 hi0 hz0 hz1 hz2 rfl (by decide) w.heap.size _ 0 [] rfl (World.ownsRow_lit w #[] 0 (Nat.le_refl _) (by decide) rfl) w.heap.size _ n c (l.flatMap Nd.κ.cs) rfl hA (RowS.below hr hb1 (Nat.le_refl _)) (Nd.κ.flat_one l) ?h5 ?h6 hb1.size ?_)
    case h5 => unfold maxLen; omega
    case h6 => omega
    intro v2 w2 ho2 hg2 hat2
    obtain ⟨A2, c2, rfl, hA2⟩ := own_form ho2
    go_wp2
    go_ret
    refine ⟨⟨A2, c2, ?_, by decide, ?_⟩, hb1.grown hg2 hb1.size fun k hk => ?_⟩
    · simp
    · exact ho2
    · simp [Value.ownBlock] at hk; omega
set_option maxHeartbeats 400000 in
theorem fclone_any (A : Option Addr) (n c : Nat) (l : List Fl) (w : World) (hr : KRow Fl.κ w w.heap.size A n l) (hA : nilOk A n c) (hn : n ≤ 1099511627) :
    Calls Tryz.prog 23 #[.slice A n c] w fun e w' => (∃ A' c', e = .returned (.slice A' n c') ∧ OwnK Fl.κ w' w.heap.size 29 A' n c' l) ∧ Below w.heap.size w w' := by
  obtain ⟨i0, hi0, hz0, hz1, hz2⟩ := info_parts info_flow
  have q0 : ∀ (w : World) (a : Option Addr) (n c n' c' : Nat), (binOp .eql 30 (.slice a n c) (.slice none n' c')).run Tryz.prog w = .ok (.bool a.isNone) w := fun w a n c n' c' => Lib.run_eql_slice_nil w _ _ a n c n' c' Tryz.underlying30
  cases A with
  | none =>
    obtain ⟨rfl, rfl⟩ := hA rfl
    go_enter Tryz.func23, Tryz.ntmps23
    go_wp2
    go_ret
    have hl : l = [] := List.eq_nil_of_length_eq_zero (hr.len (by decide))
    subst hl
    exact ⟨⟨none, 0, rfl, by decide, World.ownsRow_nil _ _ _ _⟩, Below.refl _ _⟩
  | some a =>
    go_enter Tryz.func23, Tryz.ntmps23
    have hb1 : Below w.heap.size w (w.alloc (.cells #[] 29)) := (Below.refl _ _).alloc (Nat.le_refl _) _
    go_wp2_with (at_builtin; refine append_row rfl (.tmp 5) (.tmp 6) _ rfl 29 i0 _ 3 32 Tryz.underlying30 hi0 hz0 hz1 hz2 rfl (by decide) w.heap.size _ 0 [] rfl (World.ownsRow_lit w #[] 0 (Nat.le_refl _) (by decide) rfl) w.heap.size _ n c (l.flatMap Fl.κ.cs) rfl hA (RowS.below hr hb1 (Nat.le_refl _)) (Fl.κ.flat_one l) ?h5 ?h6 hb1.size ?_)
    case h5 => unfold maxLen; omega
    case h6 => omega
    intro v2 w2 ho2 hg2 hat2
    obtain ⟨A2, c2, rfl, hA2⟩ := own_form ho2
    go_wp2
    go_ret
    refine ⟨⟨A2, c2, ?_, by decide, ?_⟩, hb1.grown hg2 hb1.size fun k hk => ?_⟩
    · simp
    · exact ho2
    · simp [Value.ownBlock] at hk; omega
set_option maxHeartbeats 400000 in
theorem tclone_any (A : Option Addr) (n c : Nat) (l : List Tk) (w : World) (hr : KRow Tk.κ w w.heap.size A n l) (hA : nilOk A n c) (hn : n ≤ 1099511627) :
    Calls Tryz.prog 25 #[.slice A n c] w fun e w' => (∃ A' c', e = .returned (.slice A' n c') ∧ OwnK Tk.κ w' w.heap.size 34 A' n c' l) ∧ Below w.heap.size w w' := by
  obtain ⟨i0, hi0, hz0, hz1, hz2⟩ := info_parts info_tok
  have q0 : ∀ (w : World) (a : Option Addr) (n c n' c' : Nat), (binOp .eql 35 (.slice a n c) (.slice none n' c')).run Tryz.prog w = .ok (.bool a.isNone) w := fun w a n c n' c' => Lib.run_eql_slice_nil w _ _ a n c n' c' Tryz.underlying35
  cases A with
  | none =>
    obtain ⟨rfl, rfl⟩ := hA rfl
    go_enter Tryz.func25, Tryz.ntmps25
    go_wp2
    go_ret
    have hl : l = [] := List.eq_nil_of_length_eq_zero (hr.len (by decide))
    subst hl
    exact ⟨⟨none, 0, rfl, by decide, World.ownsRow_nil _ _ _ _⟩, Below.refl _ _⟩
  | some a =>
    go_enter Tryz.func25, Tryz.ntmps25
    have hb1 : Below w.heap.size w (w.alloc (.cells #[] 34)) := (Below.refl _ _).alloc (Nat.le_refl _) _
    go_wp2_with (at_builtin; refine append_row rfl (.tmp 5) (.tmp 6) _ rfl 34 i0 _ 4 32 Tryz.underlying35 hi0 hz0 hz1 hz2 rfl (by decide) w.heap.size _ 0 [] rfl (World.ownsRow_lit w #[] 0 (Nat.le_refl _) (by decide) rfl) w.heap.size _ n c (l.flatMap Tk.κ.cs) rfl hA (RowS.below hr hb1 (Nat.le_refl _)) (Tk.κ.flat_one l) ?h5 ?h6 hb1.size ?_)
    case h5 => unfold maxLen; omega
    case h6 => omega
    intro v2 w2 ho2 hg2 hat2
    obtain ⟨A2, c2, rfl, hA2⟩ := own_form ho2
    go_wp2
    go_ret
    refine ⟨⟨A2, c2, ?_, by decide, ?_⟩, hb1.grown hg2 hb1.size fun k hk => ?_⟩
    · simp
    · exact ho2
    · simp [Value.ownBlock] at hk; omega
theorem own_set {α : Type} {κ : Cs α} {w : World} {B n c : Nat} {e : TypeId} {A : Option Addr} {l : List α} (h : OwnK κ w B e A n c l) {q i : Nat} (hq : q < B) (v : Value) : OwnK κ (w.setCell ⟨q, i, none⟩ v) B e A n c l :=
  h.kept (grown_setCell w ⟨q, i, none⟩ v) fun a ha e => by have h1 := (h.block ha).1; have h2 : q = a.block := Option.some.inj e; omega
def zeroB : List Value := [.string ⟨#[]⟩, .slice none 0 0, .slice none 0 0, .slice none 0 0, .slice none 0 0, .int .i64 0]
/-- A box and a result, two blocks below B. -/
structure Cp (w0 w : World) (q z B : Nat) (cs : List Value) : Prop where
  box : Cel w q cs
  res : Cel w z zeroB
  bel : Below w0.heap.size w0 w
  q0 : w0.heap.size ≤ q
  z0 : w0.heap.size ≤ z
  ne : q ≠ z
  qB : q < B
  zB : z < B
  B1 : B ≤ w.heap.size
theorem Cp.below {w0 w w' : World} {q z B : Nat} {cs : List Value} (h : Cp w0 w q z B cs) (hb : Below w.heap.size w w') : Cp w0 w' q z B cs :=
  ⟨h.box.below hb (Nat.le_refl _), h.res.below hb (Nat.le_refl _), h.bel.trans (hb.mono h.bel.size), h.q0, h.z0, h.ne, h.qB, h.zB, Nat.le_trans h.B1 hb.size⟩
theorem Cp.set {w0 w : World} {q z B : Nat} {cs : List Value} (h : Cp w0 w q z B cs) {i : Nat} (hi : i < cs.length) (v : Value) : Cp w0 (w.setCell ⟨q, i, none⟩ v) q z B (cs.set i v) :=
  ⟨h.box.set hi v, h.res.kept (grown_setCell w ⟨q, i, none⟩ v) (fun e => h.ne (Option.some.inj e)), h.bel.setCell (p := ⟨q, i, none⟩) h.q0 v, h.q0, h.z0, h.ne, h.qB, h.zB, by simpa using h.B1⟩
theorem Cp.lit (w : World) (cs : List Value) (t : TypeId) : Cp w ((w.alloc (.cells cs.toArray t)).alloc (.cells zeroB.toArray t)) w.heap.size (w.heap.size + 1) (w.heap.size + 2) cs := by
  have h1 := (Cel.lit w cs.toArray t).alloc (.cells zeroB.toArray t)
  have h2 := Cel.lit (w.alloc (.cells cs.toArray t)) zeroB.toArray t
  have e : (w.alloc (.cells cs.toArray t)).heap.size = w.heap.size + 1 := by simp
  rw [e] at h2
  have hb : Below w.heap.size w (w.alloc (.cells cs.toArray t)) := (Below.refl _ _).alloc (Nat.le_refl _) _
  exact ⟨h1, h2, hb.alloc hb.size _, Nat.le_refl _, by omega, by omega, by omega, by omega, by simp⟩
set_option maxHeartbeats 1600000 in
theorem copied_any (x : BdV) (b : Bd) (w : World) (hx : BdIn w w.heap.size x b) (hf : b.Few) :
    Calls Tryz.prog 13 #[x.val] w fun e w' => (∃ y, e = .returned y.val ∧ BdOwn w' w.heap.size y b) ∧ Below w.heap.size w w' := by
  have en := hx.hn
  have em := hx.hm
  have ev := hx.hv
  have et := hx.ht
  have f1 := hf.n
  have f2 := hf.m
  have f3 := hf.v
  have f4 := hf.t
  obtain ⟨s, A, n, c, F, m, d, V, nv, cv, T, nt, ct, k⟩ := x
  have HX := Lib.hid hx
  have HP := Lib.hid (Cp.lit w [.string s, .slice A n c, .slice F m d, .slice V nv cv, .slice T nt ct, .int .i64 k] 38)
  clear hx hf
  unfold BdV.val
  dsimp only at en em ev et
  have HN := Lib.hid (show n ≤ 1099511627 by omega)
  have HM := Lib.hid (show m ≤ 1099511627 by omega)
  have HV := Lib.hid (show nv ≤ 1099511627776 by omega)
  have HT := Lib.hid (show nt ≤ 1099511627 by omega)
  clear en em ev et f1 f2 f3 f4
  dsimp only
  go_enter Tryz.func13, Tryz.ntmps13
  go_upto_region 1 with (fail)
  unfold zeroB at HP
  generalize (w.alloc _).alloc _ = wa at *
  have HX1 := Lib.hid (HX.out.on HP.out.bel)
  have HL1 := Lib.hid (nclone_any A n _ b.p.nodes wa HX1.out.nodes HX1.out.nA HN.out)
  obtain ⟨⟨z0, z1, z2, z3, z4, z5⟩, _⟩ := six_facts HP.out.box
  go_wp2_with fail
  refine HL1.out.mono ?_
  rintro e u1 ⟨⟨A1, c1, rfl, hO⟩, hb1⟩
  clear z0 z1 z2 z3 z4 z5
  have HQ1 := Lib.hid (HP.out.below hb1)
  have HO1 := Lib.hid (own_set (i := 1) (hO.lower HP.out.B1) HP.out.qB (.slice A1 n c1))
  have HP1 := Lib.hid (HQ1.out.set (i := 1) (by simp) (.slice A1 n c1))
  obtain ⟨⟨z0, z1, z2, z3, z4, z5⟩, y0, y1, y2, y3, y4, y5⟩ := six_facts HQ1.out.box
  clear hO hb1
  go_upto_region 2 with (fail)
  generalize u1.setCell _ _ = w1 at *
  clear z0 z1 z2 z3 z4 z5 y0 y1 y2 y3 y4 y5
  have HX2 := Lib.hid (HX.out.on HP1.out.bel)
  have HL2 := Lib.hid (fclone_any F m _ b.p.flows w1 HX2.out.flows HX2.out.nF HM.out)
  obtain ⟨⟨z0, z1, z2, z3, z4, z5⟩, _⟩ := six_facts HP1.out.box
  go_wp2_with fail
  refine HL2.out.mono ?_
  rintro e u2 ⟨⟨F2, c2, rfl, hO⟩, hb1⟩
  clear z0 z1 z2 z3 z4 z5
  have HQ2 := Lib.hid (HP1.out.below hb1)
  have HO2 := Lib.hid (own_set (i := 2) (hO.lower HP1.out.B1) HP1.out.qB (.slice F2 m c2))
  have HO1xx := Lib.hid (own_set (i := 2) (HO1.out.below hb1 (Nat.le_refl _)) HP1.out.qB (.slice F2 m c2))
  have HP2 := Lib.hid (HQ2.out.set (i := 2) (by simp) (.slice F2 m c2))
  obtain ⟨⟨z0, z1, z2, z3, z4, z5⟩, y0, y1, y2, y3, y4, y5⟩ := six_facts HQ2.out.box
  clear hO hb1
  go_upto_region 3 with (fail)
  generalize u2.setCell _ _ = w2 at *
  clear z0 z1 z2 z3 z4 z5 y0 y1 y2 y3 y4 y5
  have HX3 := Lib.hid (HX.out.on HP2.out.bel)
  have HL3 := Lib.hid (vclone_any V nv _ b.vars w2 HX3.out.vars HX3.out.nV HV.out)
  obtain ⟨⟨z0, z1, z2, z3, z4, z5⟩, _⟩ := six_facts HP2.out.box
  go_wp2_with fail
  refine HL3.out.mono ?_
  rintro e u3 ⟨V3, c3, rfl, hO, hb1⟩
  have hO : OwnK Vκ u3 w2.heap.size 52 V3 nv c3 b.vars := ⟨by decide, hO⟩
  clear z0 z1 z2 z3 z4 z5
  have HQ3 := Lib.hid (HP2.out.below hb1)
  have HO3 := Lib.hid (own_set (i := 3) (hO.lower HP2.out.B1) HP2.out.qB (.slice V3 nv c3))
  have HO1xxx := Lib.hid (own_set (i := 3) (HO1xx.out.below hb1 (Nat.le_refl _)) HP2.out.qB (.slice V3 nv c3))
  have HO2xxx := Lib.hid (own_set (i := 3) (HO2.out.below hb1 (Nat.le_refl _)) HP2.out.qB (.slice V3 nv c3))
  have HP3 := Lib.hid (HQ3.out.set (i := 3) (by simp) (.slice V3 nv c3))
  obtain ⟨⟨z0, z1, z2, z3, z4, z5⟩, y0, y1, y2, y3, y4, y5⟩ := six_facts HQ3.out.box
  clear hO hb1
  go_upto_region 4 with (fail)
  generalize u3.setCell _ _ = w3 at *
  clear z0 z1 z2 z3 z4 z5 y0 y1 y2 y3 y4 y5
  have HX4 := Lib.hid (HX.out.on HP3.out.bel)
  have HL4 := Lib.hid (tclone_any T nt _ b.toks w3 HX4.out.toks HX4.out.nT HT.out)
  obtain ⟨⟨z0, z1, z2, z3, z4, z5⟩, _⟩ := six_facts HP3.out.box
  go_wp2_with fail
  refine HL4.out.mono ?_
  rintro e u4 ⟨⟨T4, c4, rfl, hO⟩, hb1⟩
  clear z0 z1 z2 z3 z4 z5
  have HQ4 := Lib.hid (HP3.out.below hb1)
  have HO4 := Lib.hid (own_set (i := 4) (hO.lower HP3.out.B1) HP3.out.qB (.slice T4 nt c4))
  have HO1xxxx := Lib.hid (own_set (i := 4) (HO1xxx.out.below hb1 (Nat.le_refl _)) HP3.out.qB (.slice T4 nt c4))
  have HO2xxxx := Lib.hid (own_set (i := 4) (HO2xxx.out.below hb1 (Nat.le_refl _)) HP3.out.qB (.slice T4 nt c4))
  have HO3xxxx := Lib.hid (own_set (i := 4) (HO3.out.below hb1 (Nat.le_refl _)) HP3.out.qB (.slice T4 nt c4))
  have HP4 := Lib.hid (HQ4.out.set (i := 4) (by simp) (.slice T4 nt c4))
  obtain ⟨⟨z0, z1, z2, z3, z4, z5⟩, y0, y1, y2, y3, y4, y5⟩ := six_facts HQ4.out.box
  clear hO hb1
  go_upto_region 5 with (fail)
  generalize u4.setCell _ _ = w4 at *
  clear z0 z1 z2 z3 z4 z5 y0 y1 y2 y3 y4 y5
  obtain ⟨⟨z0, z1, z2, z3, z4, z5⟩, _⟩ := six_facts HP4.out.box
  have hzq : w.heap.size + 1 < w4.heap.size := by have := HP4.out.zB; have := HP4.out.B1; omega
  obtain ⟨⟨g0, g1, g2, g3, g4, g5⟩, y0, y1, y2, y3, y4, y5⟩ := six_facts HP4.out.res
  go_wp2
  have hO : BdOwn w4 (w.heap.size + 2) ⟨s, A1, n, c1, F2, m, c2, V3, nv, c3, T4, nt, c4, k⟩ b := ⟨HX.out.s, HX.out.k, HO1xxxx.out, HO2xxxx.out, HO3xxxx.out, HO4.out⟩
  have HOF := Lib.hid ((hO.grown (by omega) (six_grown w4 (w.heap.size + 1) ⟨s, A1, n, c1, F2, m, c2, V3, nv, c3, T4, nt, c4, k⟩)).lower (B' := w.heap.size) (by omega))
  have HBF := Lib.hid (six_below HP4.out.bel HP4.out.z0 ⟨s, A1, n, c1, F2, m, c2, V3, nv, c3, T4, nt, c4, k⟩)
  have HCF := Lib.hid (six_cel HP4.out.res ⟨s, A1, n, c1, F2, m, c2, V3, nv, c3, T4, nt, c4, k⟩)
  clear z0 z1 z2 z3 z4 z5 g0 g1 g2 g3 g4 g5 y0 y1 y2 y3 y4 y5 hO
  change bodyPost _ _ _ _ _ (six w4 (w.heap.size + 1) ⟨s, A1, n, c1, F2, m, c2, V3, nv, c3, T4, nt, c4, k⟩)
  generalize six w4 _ _ = wf at *
  obtain ⟨⟨k0, k1, k2, k3, k4, k5⟩, _⟩ := six_facts HCF.out
  exact bodyPost_ret (v := BdV.val ⟨s, A1, n, c1, F2, m, c2, V3, nv, c3, T4, nt, c4, k⟩) (by simp [results, Tryz.results13, go_sem, k0, k1, k2, k3, k4, k5, BdV.val]) rfl ⟨⟨⟨s, A1, n, c1, F2, m, c2, V3, nv, c3, T4, nt, c4, k⟩, rfl, HOF.out⟩, HBF.out⟩
end Pr
end Go.Proofs.YtlmlhjepolefaaaGreatDoor
