/- Package lease: Fail, Holds, Check; the document's SameTask. -/
import Derived.Test.YtmmcfgmnfmkdbaaMc
namespace Go.Proofs.Ytmmcfgmnfmkdbaa
open Go.RowKit

namespace Ls
def canFail (r wait : Int) : Bool := (decide (0 ≤ r) && decide (r ≤ 9)) && (decide (0 ≤ wait) && decide (wait ≤ 1000))
def T.failed (x : T) (r now wait : Int) : T := { x with wkr := ⟨#[]⟩, exp := 0, aft := now + wait, ret := r, bro := r == 0 }
set_option maxHeartbeats 1600000 in
theorem fail_any (x : T) (r now wait : Int) (w : World) (hn : -9223372036854775808 ≤ now + wait ∧ now + wait ≤ 9223372036854775807) : Calls Try.prog 16 #[x.val, .int .i64 r, .int .i64 now, .int .i64 wait] w fun e w' => e = .returned (.tuple #[(if canFail r wait then x.failed r now wait else x).val, .bool (canFail r wait)]) ∧ Below w.heap.size w w' := by
  obtain ⟨hc, hd, hb⟩ := two_lit w #[.int .i64 x.id, .int .i64 x.ins, .int .i64 x.tok, .int .i64 x.nod, .string x.top, .int .i64 x.prio, .string x.wkr, .int .i64 x.epo, .int .i64 x.exp, .int .i64 x.aft, .int .i64 x.ret, .bool x.bro] #[.int .i64 0, .int .i64 0, .int .i64 0, .int .i64 0, .string ⟨#[]⟩, .int .i64 0, .string ⟨#[]⟩, .int .i64 0, .int .i64 0, .int .i64 0, .int .i64 0, .bool false] 25 25
  have W1 := Lib.hid (fun w => within_any r 0 9 w)
  have W2 := Lib.hid (fun w => within64_any wait 0 1000 w)
  have W3 := Lib.hid (fun w => leave_any x w)
  unfold T.leave at W3
  have hq : IntKind.i64.wrap (now + wait) = now + wait := wrapI hn.1 hn.2
  obtain ⟨Y, hY⟩ : ∃ Y, Y = (if canFail r wait then x.failed r now wait else x) := ⟨_, rfl⟩
  obtain ⟨R, hR⟩ : ∃ R, R = canFail r wait := ⟨_, rfl⟩
  rw [← hY, ← hR]
  rw [← hR] at hY
  unfold canFail at hR
  unfold T.failed at hY
  generalize (decide (0 ≤ r) && decide (r ≤ 9)) = Wi at *
  generalize (decide (0 ≤ wait) && decide (wait ≤ 1000)) = Wj at *
  obtain ⟨id, ins, tok, nod, top, prio, wkr, epo, exp, aft, ret, bro⟩ := x
  unfold T.val at *
  dsimp only at *
  go_enter Try.func16, Try.ntmps16
  go_upto_region 1 with (fail)
  generalize (w.alloc _).alloc _ = wa at *
  have HC := Lib.hid hc
  have HD := Lib.hid hd
  have HB := Lib.hid hb
  have HY := Lib.hid hY
  have HQ := Lib.hid hq
  clear hb hc hd hY hq hn
  go_wp2_with fail
  refine (W1.out _).mono ?_
  rintro e wy ⟨rfl, rfl⟩
  cases Wi with
  | false =>
    obtain rfl : R = false := hR
    obtain rfl := HY.out
    try dsimp only
    obtain ⟨⟨c0, c1, c2, c3, c4, c5, c6, c7, c8, c9, c10, c11⟩, _⟩ := dz_facts HC.out
    obtain ⟨⟨d0, d1, d2, d3, d4, d5, d6, d7, d8, d9, d10, d11⟩, f0, f1, f2, f3, f4, f5, f6, f7, f8, f9, f10, f11⟩ := dz_facts HD.out
    go_wp2
    have HK := dzn_cel HD.out ⟨id, ins, tok, nod, top, prio, wkr, epo, exp, aft, ret, bro⟩
    have HBK := dzn_below HB.out (z := w.heap.size + 1) (by omega) ⟨id, ins, tok, nod, top, prio, wkr, epo, exp, aft, ret, bro⟩
    change bodyPost _ _ _ _ _ (dzn wa (w.heap.size + 1) ⟨id, ins, tok, nod, top, prio, wkr, epo, exp, aft, ret, bro⟩)
    generalize dzn wa (w.heap.size + 1) ⟨id, ins, tok, nod, top, prio, wkr, epo, exp, aft, ret, bro⟩ = wz at *
    obtain ⟨⟨k0, k1, k2, k3, k4, k5, k6, k7, k8, k9, k10, k11⟩, _⟩ := dz_facts HK
    exact bodyPost_ret (v := .tuple #[.agg #[.int .i64 id, .int .i64 ins, .int .i64 tok, .int .i64 nod, .string top, .int .i64 prio, .string wkr, .int .i64 epo, .int .i64 exp, .int .i64 aft, .int .i64 ret, .bool bro], .bool false]) (by simp [results, Try.results16, go_sem, k0, k1, k2, k3, k4, k5, k6, k7, k8, k9, k10, k11]) rfl ⟨rfl, HBK⟩
  | true =>
    go_wp2_with fail
    refine (W2.out _).mono ?_
    rintro e wy ⟨rfl, rfl⟩
    cases Wj with
    | false =>
      obtain rfl : R = false := hR
      obtain rfl := HY.out
      try dsimp only
      obtain ⟨⟨c0, c1, c2, c3, c4, c5, c6, c7, c8, c9, c10, c11⟩, _⟩ := dz_facts HC.out
      obtain ⟨⟨d0, d1, d2, d3, d4, d5, d6, d7, d8, d9, d10, d11⟩, f0, f1, f2, f3, f4, f5, f6, f7, f8, f9, f10, f11⟩ := dz_facts HD.out
      go_wp2
      have HK := dzn_cel HD.out ⟨id, ins, tok, nod, top, prio, wkr, epo, exp, aft, ret, bro⟩
      have HBK := dzn_below HB.out (z := w.heap.size + 1) (by omega) ⟨id, ins, tok, nod, top, prio, wkr, epo, exp, aft, ret, bro⟩
      change bodyPost _ _ _ _ _ (dzn wa (w.heap.size + 1) ⟨id, ins, tok, nod, top, prio, wkr, epo, exp, aft, ret, bro⟩)
      generalize dzn wa (w.heap.size + 1) ⟨id, ins, tok, nod, top, prio, wkr, epo, exp, aft, ret, bro⟩ = wz at *
      obtain ⟨⟨k0, k1, k2, k3, k4, k5, k6, k7, k8, k9, k10, k11⟩, _⟩ := dz_facts HK
      exact bodyPost_ret (v := .tuple #[.agg #[.int .i64 id, .int .i64 ins, .int .i64 tok, .int .i64 nod, .string top, .int .i64 prio, .string wkr, .int .i64 epo, .int .i64 exp, .int .i64 aft, .int .i64 ret, .bool bro], .bool false]) (by simp [results, Try.results16, go_sem, k0, k1, k2, k3, k4, k5, k6, k7, k8, k9, k10, k11]) rfl ⟨rfl, HBK⟩
    | true =>
      obtain rfl : R = true := hR
      obtain rfl := HY.out
      try dsimp only
      obtain ⟨⟨c0, c1, c2, c3, c4, c5, c6, c7, c8, c9, c10, c11⟩, _⟩ := dz_facts HC.out
      go_upto_region 3 with (fail)
      go_wp2_with fail
      refine (W3.out _).mono ?_
      rintro e w1 ⟨rfl, hb1⟩
      have HC1 := Lib.hid (HC.out.below hb1 (Nat.le_refl _))
      have HD1 := Lib.hid (HD.out.below hb1 (Nat.le_refl _))
      have HB1 := Lib.hid (HB.out.trans (hb1.mono HB.out.size))
      clear hb1 HC HD HB W3 c0 c1 c2 c3 c4 c5 c6 c7 c8 c9 c10 c11
      obtain ⟨⟨c0, c1, c2, c3, c4, c5, c6, c7, c8, c9, c10, c11⟩, f0, f1, f2, f3, f4, f5, f6, f7, f8, f9, f10, f11⟩ := dz_facts HC1.out
      have HC2 := Lib.hid (dzn_cel HC1.out ⟨id, ins, tok, nod, top, prio, ⟨#[]⟩, epo, 0, aft, ret, bro⟩)
      have HB2 := Lib.hid (dzn_below HB1.out (z := w.heap.size) (Nat.le_refl _) ⟨id, ins, tok, nod, top, prio, ⟨#[]⟩, epo, 0, aft, ret, bro⟩)
      have HD2 := Lib.hid (HD1.out.kept (dzn_grown w1 w.heap.size ⟨id, ins, tok, nod, top, prio, ⟨#[]⟩, epo, 0, aft, ret, bro⟩) (fun e => by have := Option.some.inj e; omega))
      go_upto_region 4 with (fail)
      clear c0 c1 c2 c3 c4 c5 c6 c7 c8 c9 c10 c11 f0 f1 f2 f3 f4 f5 f6 f7 f8 f9 f10 f11
      have HE2 : Hid (dzn w1 w.heap.size ⟨id, ins, tok, nod, top, prio, ⟨#[]⟩, epo, 0, aft, ret, bro⟩ = dzn w1 w.heap.size ⟨id, ins, tok, nod, top, prio, ⟨#[]⟩, epo, 0, aft, ret, bro⟩) := Lib.hid rfl
      unfold dzn T.cells at HC2
      unfold dzn at HB2 HD2
      dsimp only at HC2 HB2 HD2
      generalize (World.setCell (World.setCell (World.setCell (World.setCell (World.setCell (World.setCell (World.setCell (World.setCell (World.setCell (World.setCell (World.setCell (World.setCell w1 _ _) _ _) _ _) _ _) _ _) _ _) _ _) _ _) _ _) _ _) _ _) _ _) = w2 at *
      have hq := HQ.out
      have h0 := HC2.out
      have h1 := h0.set (i := 10) (by simp) (.int .i64 r)
      have h2 := h1.set (i := 9) (by simp) (.int .i64 (now + wait))
      have hg := set_grown (set_grown (World.grownBy.refl w2 (some w.heap.size)) 10 (.int .i64 r)) 9 (.int .i64 (now + wait))
      have HD3 := Lib.hid (HD2.out.kept hg (fun e => by have := Option.some.inj e; omega))
      have HB3 := Lib.hid ((HB2.out.setCell (p := ⟨w.heap.size, 10, Option.none⟩) (Nat.le_refl _) (.int .i64 r)).setCell (p := ⟨w.heap.size, 9, Option.none⟩) (Nat.le_refl _) (.int .i64 (now + wait)))
      have HC3 := Lib.hid h2
      obtain ⟨⟨c0, c1, c2, c3, c4, c5, c6, c7, c8, c9, c10, c11⟩, f0, f1, f2, f3, f4, f5, f6, f7, f8, f9, f10, f11⟩ := dz_facts HC2.out
      clear h0 h1 h2 hg
      go_upto_region 5 with (fail)
      generalize (World.setCell (World.setCell w2 _ _) _ _) = w3 at *
      clear c0 c1 c2 c3 c4 c5 c6 c7 c8 c9 c10 c11 f0 f1 f2 f3 f4 f5 f6 f7 f8 f9 f10 f11
      have h0 := HC3.out
      have h1 := h0.set (i := 11) (by simp) (.bool (r == 0))
      have hg := set_grown (World.grownBy.refl w3 (some w.heap.size)) 11 (.bool (r == 0))
      have HD4 := Lib.hid (HD3.out.kept hg (fun e => by have := Option.some.inj e; omega))
      have HB4 := Lib.hid (HB3.out.setCell (p := ⟨w.heap.size, 11, Option.none⟩) (Nat.le_refl _) (.bool (r == 0)))
      have HC4 := Lib.hid h1
      obtain ⟨⟨c0, c1, c2, c3, c4, c5, c6, c7, c8, c9, c10, c11⟩, f0, f1, f2, f3, f4, f5, f6, f7, f8, f9, f10, f11⟩ := dz_facts HC3.out
      clear h0 h1 hg
      go_upto_region 6 with (fail)
      generalize (World.setCell w3 _ _) = w4 at *
      clear c0 c1 c2 c3 c4 c5 c6 c7 c8 c9 c10 c11 f0 f1 f2 f3 f4 f5 f6 f7 f8 f9 f10 f11
      obtain ⟨⟨c0, c1, c2, c3, c4, c5, c6, c7, c8, c9, c10, c11⟩, _⟩ := dz_facts HC4.out
      obtain ⟨⟨d0, d1, d2, d3, d4, d5, d6, d7, d8, d9, d10, d11⟩, f0, f1, f2, f3, f4, f5, f6, f7, f8, f9, f10, f11⟩ := dz_facts HD4.out
      go_wp2
      have HK := dzn_cel HD4.out ⟨id, ins, tok, nod, top, prio, ⟨#[]⟩, epo, 0, now + wait, r, r == 0⟩
      have HBK := dzn_below HB4.out (z := w.heap.size + 1) (by omega) ⟨id, ins, tok, nod, top, prio, ⟨#[]⟩, epo, 0, now + wait, r, r == 0⟩
      change bodyPost _ _ _ _ _ (dzn w4 (w.heap.size + 1) ⟨id, ins, tok, nod, top, prio, ⟨#[]⟩, epo, 0, now + wait, r, r == 0⟩)
      generalize dzn w4 (w.heap.size + 1) ⟨id, ins, tok, nod, top, prio, ⟨#[]⟩, epo, 0, now + wait, r, r == 0⟩ = wz at *
      obtain ⟨⟨k0, k1, k2, k3, k4, k5, k6, k7, k8, k9, k10, k11⟩, _⟩ := dz_facts HK
      exact bodyPost_ret (v := .tuple #[.agg #[.int .i64 id, .int .i64 ins, .int .i64 tok, .int .i64 nod, .string top, .int .i64 prio, .string ⟨#[]⟩, .int .i64 epo, .int .i64 0, .int .i64 (now + wait), .int .i64 r, .bool (r == 0)], .bool true]) (by simp [results, Try.results16, go_sem, k0, k1, k2, k3, k4, k5, k6, k7, k8, k9, k10, k11]) rfl ⟨rfl, HBK⟩
def T.holds (x : T) (s : ByteArray) (ep now : Int) : Int := if x.wkr.toList.isEmpty = true then 4 else if (x.wkr.toList == s.toList) = false then 4 else if (x.epo == ep) = false then 4 else if x.exp ≤ now then 5 else 0
set_option maxHeartbeats 1600000 in
theorem holds_any (x : T) (s : ByteArray) (ep now : Int) (w : World) : Calls Try.prog 13 #[x.val, .string s, .int .i64 ep, .int .i64 now] w fun e w' => e = .returned (.int .i64 (x.holds s ep now)) ∧ Below w.heap.size w w' := by
  obtain ⟨hc, hb⟩ := one_lit w #[.int .i64 x.id, .int .i64 x.ins, .int .i64 x.tok, .int .i64 x.nod, .string x.top, .int .i64 x.prio, .string x.wkr, .int .i64 x.epo, .int .i64 x.exp, .int .i64 x.aft, .int .i64 x.ret, .bool x.bro] 25
  obtain ⟨R, hR⟩ : ∃ R, x.holds s ep now = R := ⟨_, rfl⟩
  rw [hR]
  unfold T.holds at hR
  obtain ⟨id, ins, tok, nod, top, prio, wkr, epo, exp, aft, ret, bro⟩ := x
  unfold T.val at *
  dsimp only at *
  go_enter Try.func13, Try.ntmps13
  go_upto_region 1 with (fail)
  generalize w.alloc _ = wa at *
  have HB := Lib.hid hb
  obtain ⟨⟨c0, c1, c2, c3, c4, c5, c6, c7, c8, c9, c10, c11⟩, _⟩ := dz_facts hc
  clear hb hc
  by_cases h1 : wkr.toList.isEmpty = true
  · rw [if_pos h1] at hR
    subst hR
    go_wp2
    go_ret
    exact ⟨rfl, HB.out⟩
  rw [if_neg h1] at hR
  have h1 : wkr.toList.isEmpty = false := by simpa using h1
  by_cases h2 : (wkr.toList == s.toList) = false
  · rw [if_pos h2] at hR
    subst hR
    have h3 : (wkr.toList != s.toList) = true := by rw [bne, h2]; rfl
    go_wp2
    go_ret
    exact ⟨rfl, HB.out⟩
  rw [if_neg h2] at hR
  have h2 : (wkr.toList == s.toList) = true := by simpa using h2
  have h3 : (wkr.toList != s.toList) = false := by rw [bne, h2]; rfl
  by_cases h4 : (epo == ep) = false
  · rw [if_pos h4] at hR
    subst hR
    have h5 : (epo != ep) = true := by rw [bne, h4]; rfl
    go_wp2
    go_ret
    exact ⟨rfl, HB.out⟩
  rw [if_neg h4] at hR
  have h4 : (epo == ep) = true := by simpa using h4
  have h5 : (epo != ep) = false := by rw [bne, h4]; rfl
  by_cases h6 : exp ≤ now
  · rw [if_pos h6] at hR
    subst hR
    go_wp2
    go_ret
    exact ⟨rfl, HB.out⟩
  · rw [if_neg h6] at hR
    subst hR
    go_wp2
    go_ret
    exact ⟨rfl, HB.out⟩
set_option maxHeartbeats 1600000 in
theorem heldwhole_any (x : T) (h : (x.wkr.size = 0 ∧ x.exp = 0) ∨ (Vr.name x.wkr.data.toList = true ∧ 0 < x.wkr.size ∧ x.wkr.size ≤ 1000 ∧ 0 < x.exp ∧ 0 < x.epo)) (w : World) : Calls Try.prog 23 #[x.val] w fun e w' => e = .returned (.bool true) ∧ Below w.heap.size w w' := by
  obtain ⟨hc, hb⟩ := one_lit w #[.int .i64 x.id, .int .i64 x.ins, .int .i64 x.tok, .int .i64 x.nod, .string x.top, .int .i64 x.prio, .string x.wkr, .int .i64 x.epo, .int .i64 x.exp, .int .i64 x.aft, .int .i64 x.ret, .bool x.bro] 25
  obtain ⟨id, ins, tok, nod, top, prio, wkr, epo, exp, aft, ret, bro⟩ := x
  unfold T.val at *
  dsimp only at *
  go_enter Try.func23, Try.ntmps23
  go_upto_region 1 with (fail)
  generalize w.alloc _ = wa at *
  have HB := Lib.hid hb
  obtain ⟨⟨c0, c1, c2, c3, c4, c5, c6, c7, c8, c9, c10, c11⟩, _⟩ := dz_facts hc
  clear hb hc
  rcases h with ⟨h1, h2⟩ | ⟨h1, h2, h3, h4, h5⟩
  · have h3 : wkr.toList.isEmpty = true := by rw [empB, h1]; rfl
    subst h2
    clear h1
    go_wp2
    go_ret
    exact ⟨rfl, HB.out⟩
  · have h6 : wkr.toList.isEmpty = false := by rw [empB, beq_eq_false_iff_ne]; omega
    have W1 := Lib.hid (fun w => name_any wkr w (by omega))
    rw [h1] at W1
    clear h1 h2 h3
    go_wp2_with fail
    refine (W1.out _).mono ?_
    rintro e wy ⟨rfl, rfl⟩
    go_wp2
    go_ret
    exact ⟨rfl, HB.out⟩
set_option maxHeartbeats 3200000 in
theorem check_good_any (x : T) (h : x.Good) (w : World) : Calls Try.prog 15 #[x.val] w fun e w' => e = .returned (.bool true) ∧ Below w.heap.size w w' := by
  obtain ⟨hc, hb⟩ := one_lit w #[.int .i64 x.id, .int .i64 x.ins, .int .i64 x.tok, .int .i64 x.nod, .string x.top, .int .i64 x.prio, .string x.wkr, .int .i64 x.epo, .int .i64 x.exp, .int .i64 x.aft, .int .i64 x.ret, .bool x.bro] 25
  have WN := Lib.hid (fun w => name_any x.top w (by have := h.topS; omega))
  have WH := Lib.hid (fun w => heldwhole_any x h.held w)
  have W1 := Lib.hid (fun w => within_any x.prio 0 9 w)
  have W2 := Lib.hid (fun w => within_any x.epo 0 60 w)
  have W3 := Lib.hid (fun w => within64_any x.exp 0 2199023255552 w)
  have W4 := Lib.hid (fun w => within64_any x.aft 0 2199023255552 w)
  have W5 := Lib.hid (fun w => within_any x.ret 0 9 w)
  obtain ⟨g1, g2, g3, g4, g5, _, g6, g7, g8, g9, g10, g11, _⟩ := h
  rw [decide_eq_true g6.1, decide_eq_true g6.2] at W1
  rw [decide_eq_true g7.1, decide_eq_true g7.2] at W2
  rw [decide_eq_true g8.1, decide_eq_true g8.2] at W3
  rw [decide_eq_true g9.1, decide_eq_true g9.2] at W4
  rw [decide_eq_true g10.1, decide_eq_true g10.2] at W5
  rw [g5] at WN
  clear g5 g6 g7 g8 g9 g10
  obtain ⟨id, ins, tok, nod, top, prio, wkr, epo, exp, aft, ret, bro⟩ := x
  unfold T.val at *
  dsimp only at *
  have g12 : ((ret == 0) == bro) = true := by
    have e : (ret == 0) = decide (ret = 0) := by rw [Bool.eq_iff_iff]; simp
    rw [g11, e]
    simp
  clear g11
  go_enter Try.func15, Try.ntmps15
  go_upto_region 1 with (fail)
  generalize w.alloc _ = wa at *
  have HB := Lib.hid hb
  obtain ⟨⟨c0, c1, c2, c3, c4, c5, c6, c7, c8, c9, c10, c11⟩, _⟩ := dz_facts hc
  clear hb hc
  go_wp2_with fail
  refine (WN.out _).mono ?_
  rintro e wy ⟨rfl, rfl⟩
  try dsimp only [Bool.and_true]
  go_wp2_with fail
  refine (W1.out _).mono ?_
  rintro e wy ⟨rfl, rfl⟩
  try dsimp only [Bool.and_true]
  go_wp2_with fail
  refine (W2.out _).mono ?_
  rintro e wy ⟨rfl, rfl⟩
  try dsimp only [Bool.and_true]
  go_wp2_with fail
  refine (W3.out _).mono ?_
  rintro e wy ⟨rfl, rfl⟩
  try dsimp only [Bool.and_true]
  go_wp2_with fail
  refine (W4.out _).mono ?_
  rintro e wy ⟨rfl, rfl⟩
  try dsimp only [Bool.and_true]
  go_wp2_with fail
  refine (W5.out _).mono ?_
  rintro e wy ⟨rfl, rfl⟩
  try dsimp only [Bool.and_true]
  go_wp2_with fail
  refine (WH.out _).mono ?_
  rintro e w1 ⟨rfl, hb1⟩
  have HB1 := Lib.hid (HB.out.trans (hb1.mono HB.out.size))
  clear hb1
  go_wp2
  go_ret
  exact ⟨rfl, HB1.out⟩
set_option maxHeartbeats 3200000 in
theorem sametask_any (x : T) (w : World) : Calls Try.prog 12 #[x.val, x.val] w fun e w' => e = .returned (.bool true) ∧ Below w.heap.size w w' := by
  obtain ⟨hc, hd, hb⟩ := two_lit w #[.int .i64 x.id, .int .i64 x.ins, .int .i64 x.tok, .int .i64 x.nod, .string x.top, .int .i64 x.prio, .string x.wkr, .int .i64 x.epo, .int .i64 x.exp, .int .i64 x.aft, .int .i64 x.ret, .bool x.bro] #[.int .i64 x.id, .int .i64 x.ins, .int .i64 x.tok, .int .i64 x.nod, .string x.top, .int .i64 x.prio, .string x.wkr, .int .i64 x.epo, .int .i64 x.exp, .int .i64 x.aft, .int .i64 x.ret, .bool x.bro] 25 25
  obtain ⟨id, ins, tok, nod, top, prio, wkr, epo, exp, aft, ret, bro⟩ := x
  unfold T.val at *
  dsimp only at *
  go_enter Try.func12, Try.ntmps12
  go_upto_region 1 with (fail)
  generalize (w.alloc _).alloc _ = wa at *
  have HB := Lib.hid hb
  obtain ⟨⟨c0, c1, c2, c3, c4, c5, c6, c7, c8, c9, c10, c11⟩, _⟩ := dz_facts hc
  obtain ⟨⟨d0, d1, d2, d3, d4, d5, d6, d7, d8, d9, d10, d11⟩, _⟩ := dz_facts hd
  clear hb hc hd
  go_wp2
  go_ret
  exact ⟨rfl, HB.out⟩
end Ls
end Go.Proofs.Ytmmcfgmnfmkdbaa
