/- Package lease: Take, Longer, Fail, Repair. -/
import Derived.Test.YtmmcfgmnfmkdbaaMb
namespace Go.Proofs.Ytmmcfgmnfmkdbaa
open Go.RowKit

namespace Ls
theorem wrapI {a : Int} (h1 : -9223372036854775808 ≤ a) (h2 : a ≤ 9223372036854775807) : IntKind.i64.wrap a = a := by rw [IntKind.wrap_i64]; omega
def T.canTake (x : T) (s : ByteArray) (now span : Int) : Bool := x.free now && (Vr.name s.data.toList && (decide (1 ≤ span) && decide (span ≤ 1000)))
def T.taken (x : T) (s : ByteArray) (now span : Int) : T := { x with wkr := s, epo := x.epo + 1, exp := now + span }
set_option maxHeartbeats 1600000 in
theorem take_any (x : T) (s : ByteArray) (now span : Int) (w : World) (hs : s.size ≤ 9223372036854775807) (he : 0 ≤ x.epo ∧ x.epo ≤ 60) (hn : -9223372036854775808 ≤ now + span ∧ now + span ≤ 9223372036854775807) : Calls Try.prog 10 #[x.val, .string s, .int .i64 now, .int .i64 span] w fun e w' => e = .returned (.tuple #[(if x.canTake s now span then x.taken s now span else x).val, .bool (x.canTake s now span)]) ∧ Below w.heap.size w w' := by
  obtain ⟨hc, hd, hb⟩ := two_lit w #[.int .i64 x.id, .int .i64 x.ins, .int .i64 x.tok, .int .i64 x.nod, .string x.top, .int .i64 x.prio, .string x.wkr, .int .i64 x.epo, .int .i64 x.exp, .int .i64 x.aft, .int .i64 x.ret, .bool x.bro] #[.int .i64 0, .int .i64 0, .int .i64 0, .int .i64 0, .string ⟨#[]⟩, .int .i64 0, .string ⟨#[]⟩, .int .i64 0, .int .i64 0, .int .i64 0, .int .i64 0, .bool false] 25 25
  have W0 := Lib.hid (fun w => free_any x now w)
  have W1 := Lib.hid (fun w => name_any s w hs)
  have W2 := Lib.hid (fun w => within64_any span 1 1000 w)
  have hq : IntKind.i64.wrap (now + span) = now + span := wrapI hn.1 hn.2
  have hp : IntKind.i64.wrap (x.epo + 1) = x.epo + 1 := wrapI (by omega) (by omega)
  obtain ⟨Y, hY⟩ : ∃ Y, Y = (if x.canTake s now span then x.taken s now span else x) := ⟨_, rfl⟩
  obtain ⟨R, hR⟩ : ∃ R, R = x.canTake s now span := ⟨_, rfl⟩
  rw [← hY, ← hR]
  rw [← hR] at hY
  unfold T.canTake at hR
  unfold T.taken at hY
  generalize x.free now = Fr at *
  generalize Vr.name s.data.toList = Nm at *
  generalize (decide (1 ≤ span) && decide (span ≤ 1000)) = Wi at *
  obtain ⟨id, ins, tok, nod, top, prio, wkr, epo, exp, aft, ret, bro⟩ := x
  unfold T.val at *
  dsimp only at *
  go_enter Try.func10, Try.ntmps10
  go_upto_region 1 with (fail)
  generalize (w.alloc _).alloc _ = wa at *
  have HC := Lib.hid hc
  have HD := Lib.hid hd
  have HB := Lib.hid hb
  have HY := Lib.hid hY
  have HQ := Lib.hid hq
  have HP := Lib.hid hp
  obtain ⟨⟨c0, c1, c2, c3, c4, c5, c6, c7, c8, c9, c10, c11⟩, _⟩ := dz_facts hc
  clear hb hc hd hY hq hp he hn hs
  go_wp2_with fail
  refine (W0.out _).mono ?_
  rintro e w1 ⟨rfl, hb1⟩
  have HC1 := Lib.hid (HC.out.below hb1 (Nat.le_refl _))
  have HD1 := Lib.hid (HD.out.below hb1 (Nat.le_refl _))
  have HB1 := Lib.hid (HB.out.trans (hb1.mono HB.out.size))
  clear hb1 HC HD HB c0 c1 c2 c3 c4 c5 c6 c7 c8 c9 c10 c11 W0
  cases Fr with
  | false =>
    obtain rfl : R = false := hR
    obtain rfl := HY.out
    try dsimp only
    obtain ⟨⟨c0, c1, c2, c3, c4, c5, c6, c7, c8, c9, c10, c11⟩, _⟩ := dz_facts HC1.out
    obtain ⟨⟨d0, d1, d2, d3, d4, d5, d6, d7, d8, d9, d10, d11⟩, f0, f1, f2, f3, f4, f5, f6, f7, f8, f9, f10, f11⟩ := dz_facts HD1.out
    go_wp2
    have HK := dzn_cel HD1.out ⟨id, ins, tok, nod, top, prio, wkr, epo, exp, aft, ret, bro⟩
    have HBK := dzn_below HB1.out (z := w.heap.size + 1) (by omega) ⟨id, ins, tok, nod, top, prio, wkr, epo, exp, aft, ret, bro⟩
    change bodyPost _ _ _ _ _ (dzn w1 (w.heap.size + 1) ⟨id, ins, tok, nod, top, prio, wkr, epo, exp, aft, ret, bro⟩)
    generalize dzn w1 (w.heap.size + 1) ⟨id, ins, tok, nod, top, prio, wkr, epo, exp, aft, ret, bro⟩ = wz at *
    obtain ⟨⟨k0, k1, k2, k3, k4, k5, k6, k7, k8, k9, k10, k11⟩, _⟩ := dz_facts HK
    exact bodyPost_ret (v := .tuple #[.agg #[.int .i64 id, .int .i64 ins, .int .i64 tok, .int .i64 nod, .string top, .int .i64 prio, .string wkr, .int .i64 epo, .int .i64 exp, .int .i64 aft, .int .i64 ret, .bool bro], .bool false]) (by simp [results, Try.results10, go_sem, k0, k1, k2, k3, k4, k5, k6, k7, k8, k9, k10, k11]) rfl ⟨rfl, HBK⟩
  | true =>
    go_wp2_with fail
    refine (W1.out _).mono ?_
    rintro e wy ⟨rfl, rfl⟩
    cases Nm with
    | false =>
      obtain rfl : R = false := hR
      obtain rfl := HY.out
      try dsimp only
      obtain ⟨⟨c0, c1, c2, c3, c4, c5, c6, c7, c8, c9, c10, c11⟩, _⟩ := dz_facts HC1.out
      obtain ⟨⟨d0, d1, d2, d3, d4, d5, d6, d7, d8, d9, d10, d11⟩, f0, f1, f2, f3, f4, f5, f6, f7, f8, f9, f10, f11⟩ := dz_facts HD1.out
      go_wp2
      have HK := dzn_cel HD1.out ⟨id, ins, tok, nod, top, prio, wkr, epo, exp, aft, ret, bro⟩
      have HBK := dzn_below HB1.out (z := w.heap.size + 1) (by omega) ⟨id, ins, tok, nod, top, prio, wkr, epo, exp, aft, ret, bro⟩
      change bodyPost _ _ _ _ _ (dzn w1 (w.heap.size + 1) ⟨id, ins, tok, nod, top, prio, wkr, epo, exp, aft, ret, bro⟩)
      generalize dzn w1 (w.heap.size + 1) ⟨id, ins, tok, nod, top, prio, wkr, epo, exp, aft, ret, bro⟩ = wz at *
      obtain ⟨⟨k0, k1, k2, k3, k4, k5, k6, k7, k8, k9, k10, k11⟩, _⟩ := dz_facts HK
      exact bodyPost_ret (v := .tuple #[.agg #[.int .i64 id, .int .i64 ins, .int .i64 tok, .int .i64 nod, .string top, .int .i64 prio, .string wkr, .int .i64 epo, .int .i64 exp, .int .i64 aft, .int .i64 ret, .bool bro], .bool false]) (by simp [results, Try.results10, go_sem, k0, k1, k2, k3, k4, k5, k6, k7, k8, k9, k10, k11]) rfl ⟨rfl, HBK⟩
    | true =>
      go_wp2_with fail
      refine (W2.out _).mono ?_
      rintro e wy ⟨rfl, rfl⟩
      cases Wi with
      | false =>
        obtain rfl : R = false := hR
        obtain rfl := HY.out
        try dsimp only
        obtain ⟨⟨c0, c1, c2, c3, c4, c5, c6, c7, c8, c9, c10, c11⟩, _⟩ := dz_facts HC1.out
        obtain ⟨⟨d0, d1, d2, d3, d4, d5, d6, d7, d8, d9, d10, d11⟩, f0, f1, f2, f3, f4, f5, f6, f7, f8, f9, f10, f11⟩ := dz_facts HD1.out
        go_wp2
        have HK := dzn_cel HD1.out ⟨id, ins, tok, nod, top, prio, wkr, epo, exp, aft, ret, bro⟩
        have HBK := dzn_below HB1.out (z := w.heap.size + 1) (by omega) ⟨id, ins, tok, nod, top, prio, wkr, epo, exp, aft, ret, bro⟩
        change bodyPost _ _ _ _ _ (dzn w1 (w.heap.size + 1) ⟨id, ins, tok, nod, top, prio, wkr, epo, exp, aft, ret, bro⟩)
        generalize dzn w1 (w.heap.size + 1) ⟨id, ins, tok, nod, top, prio, wkr, epo, exp, aft, ret, bro⟩ = wz at *
        obtain ⟨⟨k0, k1, k2, k3, k4, k5, k6, k7, k8, k9, k10, k11⟩, _⟩ := dz_facts HK
        exact bodyPost_ret (v := .tuple #[.agg #[.int .i64 id, .int .i64 ins, .int .i64 tok, .int .i64 nod, .string top, .int .i64 prio, .string wkr, .int .i64 epo, .int .i64 exp, .int .i64 aft, .int .i64 ret, .bool bro], .bool false]) (by simp [results, Try.results10, go_sem, k0, k1, k2, k3, k4, k5, k6, k7, k8, k9, k10, k11]) rfl ⟨rfl, HBK⟩
      | true =>
        obtain rfl : R = true := hR
        obtain rfl := HY.out
        try dsimp only
        have hq := HQ.out
        obtain ⟨⟨c0, c1, c2, c3, c4, c5, c6, c7, c8, c9, c10, c11⟩, f0, f1, f2, f3, f4, f5, f6, f7, f8, f9, f10, f11⟩ := dz_facts HC1.out
        go_upto_region 3 with (fail)
        clear c0 c1 c2 c3 c4 c5 c6 c7 c8 c9 c10 c11 f0 f1 f2 f3 f4 f5 f6 f7 f8 f9 f10 f11
        have h0 := HC1.out
        have h1 := h0.set (i := 6) (by simp) (.string s)
        have h2 := h1.set (i := 8) (by simp) (.int .i64 (now + span))
        have hg := set_grown (set_grown (World.grownBy.refl w1 (some w.heap.size)) 6 (.string s)) 8 (.int .i64 (now + span))
        have HD2 := Lib.hid (HD1.out.kept hg (fun e => by have := Option.some.inj e; omega))
        have HB2 := Lib.hid ((HB1.out.setCell (p := ⟨w.heap.size, 6, Option.none⟩) (Nat.le_refl _) (.string s)).setCell (p := ⟨w.heap.size, 8, Option.none⟩) (Nat.le_refl _) (.int .i64 (now + span)))
        have HC2 := Lib.hid h2
        obtain ⟨⟨c0, c1, c2, c3, c4, c5, c6, c7, c8, c9, c10, c11⟩, f0, f1, f2, f3, f4, f5, f6, f7, f8, f9, f10, f11⟩ := dz_facts HC1.out
        clear h0 h1 h2 hg
        go_upto_region 4 with (fail)
        generalize (World.setCell (World.setCell w1 _ _) _ _) = w2 at *
        clear c0 c1 c2 c3 c4 c5 c6 c7 c8 c9 c10 c11 f0 f1 f2 f3 f4 f5 f6 f7 f8 f9 f10 f11
        have hp := HP.out
        have h0 := HC2.out
        have h1 := h0.set (i := 7) (by simp) (.int .i64 (epo + 1))
        have hg := set_grown (World.grownBy.refl w2 (some w.heap.size)) 7 (.int .i64 (epo + 1))
        have HD3 := Lib.hid (HD2.out.kept hg (fun e => by have := Option.some.inj e; omega))
        have HB3 := Lib.hid (HB2.out.setCell (p := ⟨w.heap.size, 7, Option.none⟩) (Nat.le_refl _) (.int .i64 (epo + 1)))
        have HC3 := Lib.hid h1
        obtain ⟨⟨c0, c1, c2, c3, c4, c5, c6, c7, c8, c9, c10, c11⟩, f0, f1, f2, f3, f4, f5, f6, f7, f8, f9, f10, f11⟩ := dz_facts HC2.out
        clear h0 h1 hg
        go_upto_region 5 with (fail)
        generalize (World.setCell w2 _ _) = w3 at *
        clear c0 c1 c2 c3 c4 c5 c6 c7 c8 c9 c10 c11 f0 f1 f2 f3 f4 f5 f6 f7 f8 f9 f10 f11
        obtain ⟨⟨c0, c1, c2, c3, c4, c5, c6, c7, c8, c9, c10, c11⟩, _⟩ := dz_facts HC3.out
        obtain ⟨⟨d0, d1, d2, d3, d4, d5, d6, d7, d8, d9, d10, d11⟩, f0, f1, f2, f3, f4, f5, f6, f7, f8, f9, f10, f11⟩ := dz_facts HD3.out
        go_wp2
        have HK := dzn_cel HD3.out ⟨id, ins, tok, nod, top, prio, s, epo + 1, now + span, aft, ret, bro⟩
        have HBK := dzn_below HB3.out (z := w.heap.size + 1) (by omega) ⟨id, ins, tok, nod, top, prio, s, epo + 1, now + span, aft, ret, bro⟩
        change bodyPost _ _ _ _ _ (dzn w3 (w.heap.size + 1) ⟨id, ins, tok, nod, top, prio, s, epo + 1, now + span, aft, ret, bro⟩)
        generalize dzn w3 (w.heap.size + 1) ⟨id, ins, tok, nod, top, prio, s, epo + 1, now + span, aft, ret, bro⟩ = wz at *
        obtain ⟨⟨k0, k1, k2, k3, k4, k5, k6, k7, k8, k9, k10, k11⟩, _⟩ := dz_facts HK
        exact bodyPost_ret (v := .tuple #[.agg #[.int .i64 id, .int .i64 ins, .int .i64 tok, .int .i64 nod, .string top, .int .i64 prio, .string s, .int .i64 (epo + 1), .int .i64 (now + span), .int .i64 aft, .int .i64 ret, .bool bro], .bool true]) (by simp [results, Try.results10, go_sem, k0, k1, k2, k3, k4, k5, k6, k7, k8, k9, k10, k11]) rfl ⟨rfl, HBK⟩
def T.canLonger (x : T) (span : Int) : Bool := (decide (1 ≤ span) && decide (span ≤ 1000)) && !x.wkr.toList.isEmpty
def T.longer (x : T) (now span : Int) : T := { x with exp := now + span }
set_option maxHeartbeats 1600000 in
theorem longer_any (x : T) (now span : Int) (w : World) (hn : -9223372036854775808 ≤ now + span ∧ now + span ≤ 9223372036854775807) : Calls Try.prog 19 #[x.val, .int .i64 now, .int .i64 span] w fun e w' => e = .returned (.tuple #[(if x.canLonger span then x.longer now span else x).val, .bool (x.canLonger span)]) ∧ Below w.heap.size w w' := by
  obtain ⟨hc, hd, hb⟩ := two_lit w #[.int .i64 x.id, .int .i64 x.ins, .int .i64 x.tok, .int .i64 x.nod, .string x.top, .int .i64 x.prio, .string x.wkr, .int .i64 x.epo, .int .i64 x.exp, .int .i64 x.aft, .int .i64 x.ret, .bool x.bro] #[.int .i64 0, .int .i64 0, .int .i64 0, .int .i64 0, .string ⟨#[]⟩, .int .i64 0, .string ⟨#[]⟩, .int .i64 0, .int .i64 0, .int .i64 0, .int .i64 0, .bool false] 25 25
  have W2 := Lib.hid (fun w => within64_any span 1 1000 w)
  have hq : IntKind.i64.wrap (now + span) = now + span := wrapI hn.1 hn.2
  obtain ⟨Y, hY⟩ : ∃ Y, Y = (if x.canLonger span then x.longer now span else x) := ⟨_, rfl⟩
  obtain ⟨R, hR⟩ : ∃ R, R = x.canLonger span := ⟨_, rfl⟩
  rw [← hY, ← hR]
  rw [← hR] at hY
  unfold T.canLonger at hR
  unfold T.longer at hY
  generalize (decide (1 ≤ span) && decide (span ≤ 1000)) = Wi at *
  obtain ⟨Em, hEm⟩ : ∃ Em, x.wkr.toList.isEmpty = Em := ⟨_, rfl⟩
  rw [hEm] at hR
  obtain ⟨id, ins, tok, nod, top, prio, wkr, epo, exp, aft, ret, bro⟩ := x
  unfold T.val at *
  dsimp only at *
  go_enter Try.func19, Try.ntmps19
  go_upto_region 1 with (fail)
  generalize (w.alloc _).alloc _ = wa at *
  have HC := Lib.hid hc
  have HD := Lib.hid hd
  have HB := Lib.hid hb
  have HY := Lib.hid hY
  have HQ := Lib.hid hq
  obtain ⟨⟨c0, c1, c2, c3, c4, c5, c6, c7, c8, c9, c10, c11⟩, _⟩ := dz_facts hc
  clear hb hc hd hY hq hn
  go_wp2_with fail
  refine (W2.out _).mono ?_
  rintro e wy ⟨rfl, rfl⟩
  cases Wi with
  | false =>
    obtain rfl : R = false := hR
    obtain rfl := HY.out
    try dsimp only
    clear c0 c1 c2 c3 c4 c5 c6 c7 c8 c9 c10 c11
    obtain ⟨⟨c0, c1, c2, c3, c4, c5, c6, c7, c8, c9, c10, c11⟩, _⟩ := dz_facts HC.out
    obtain ⟨⟨d0, d1, d2, d3, d4, d5, d6, d7, d8, d9, d10, d11⟩, f0, f1, f2, f3, f4, f5, f6, f7, f8, f9, f10, f11⟩ := dz_facts HD.out
    go_wp2
    have HK := dzn_cel HD.out ⟨id, ins, tok, nod, top, prio, wkr, epo, exp, aft, ret, bro⟩
    have HBK := dzn_below HB.out (z := w.heap.size + 1) (by omega) ⟨id, ins, tok, nod, top, prio, wkr, epo, exp, aft, ret, bro⟩
    change bodyPost _ _ _ _ _ (dzn wa (w.heap.size + 1) ⟨id, ins, tok, nod, top, prio, wkr, epo, exp, aft, ret, bro⟩)
    generalize dzn wa (w.heap.size + 1) ⟨id, ins, tok, nod, top, prio, wkr, epo, exp, aft, ret, bro⟩ = wz at *
    obtain ⟨⟨k0, k1, k2, k3, k4, k5, k6, k7, k8, k9, k10, k11⟩, _⟩ := dz_facts HK
    exact bodyPost_ret (v := .tuple #[.agg #[.int .i64 id, .int .i64 ins, .int .i64 tok, .int .i64 nod, .string top, .int .i64 prio, .string wkr, .int .i64 epo, .int .i64 exp, .int .i64 aft, .int .i64 ret, .bool bro], .bool false]) (by simp [results, Try.results19, go_sem, k0, k1, k2, k3, k4, k5, k6, k7, k8, k9, k10, k11]) rfl ⟨rfl, HBK⟩
  | true =>
    cases Em with
    | true =>
      obtain rfl : R = false := hR
      obtain rfl := HY.out
      try dsimp only
      clear c0 c1 c2 c3 c4 c5 c6 c7 c8 c9 c10 c11
      obtain ⟨⟨c0, c1, c2, c3, c4, c5, c6, c7, c8, c9, c10, c11⟩, _⟩ := dz_facts HC.out
      obtain ⟨⟨d0, d1, d2, d3, d4, d5, d6, d7, d8, d9, d10, d11⟩, f0, f1, f2, f3, f4, f5, f6, f7, f8, f9, f10, f11⟩ := dz_facts HD.out
      go_wp2
      have HK := dzn_cel HD.out ⟨id, ins, tok, nod, top, prio, wkr, epo, exp, aft, ret, bro⟩
      have HBK := dzn_below HB.out (z := w.heap.size + 1) (by omega) ⟨id, ins, tok, nod, top, prio, wkr, epo, exp, aft, ret, bro⟩
      change bodyPost _ _ _ _ _ (dzn wa (w.heap.size + 1) ⟨id, ins, tok, nod, top, prio, wkr, epo, exp, aft, ret, bro⟩)
      generalize dzn wa (w.heap.size + 1) ⟨id, ins, tok, nod, top, prio, wkr, epo, exp, aft, ret, bro⟩ = wz at *
      obtain ⟨⟨k0, k1, k2, k3, k4, k5, k6, k7, k8, k9, k10, k11⟩, _⟩ := dz_facts HK
      exact bodyPost_ret (v := .tuple #[.agg #[.int .i64 id, .int .i64 ins, .int .i64 tok, .int .i64 nod, .string top, .int .i64 prio, .string wkr, .int .i64 epo, .int .i64 exp, .int .i64 aft, .int .i64 ret, .bool bro], .bool false]) (by simp [results, Try.results19, go_sem, k0, k1, k2, k3, k4, k5, k6, k7, k8, k9, k10, k11]) rfl ⟨rfl, HBK⟩
    | false =>
      obtain rfl : R = true := hR
      obtain rfl := HY.out
      try dsimp only
      have hq := HQ.out
      go_upto_region 3 with (fail)
      clear c0 c1 c2 c3 c4 c5 c6 c7 c8 c9 c10 c11
      have h0 := HC.out
      have h1 := h0.set (i := 8) (by simp) (.int .i64 (now + span))
      have hg := set_grown (World.grownBy.refl wa (some w.heap.size)) 8 (.int .i64 (now + span))
      have HD2 := Lib.hid (HD.out.kept hg (fun e => by have := Option.some.inj e; omega))
      have HB2 := Lib.hid (HB.out.setCell (p := ⟨w.heap.size, 8, Option.none⟩) (Nat.le_refl _) (.int .i64 (now + span)))
      have HC2 := Lib.hid h1
      obtain ⟨⟨c0, c1, c2, c3, c4, c5, c6, c7, c8, c9, c10, c11⟩, f0, f1, f2, f3, f4, f5, f6, f7, f8, f9, f10, f11⟩ := dz_facts HC.out
      clear h0 h1 hg
      go_upto_region 4 with (fail)
      generalize (World.setCell wa _ _) = w2 at *
      clear c0 c1 c2 c3 c4 c5 c6 c7 c8 c9 c10 c11 f0 f1 f2 f3 f4 f5 f6 f7 f8 f9 f10 f11
      obtain ⟨⟨c0, c1, c2, c3, c4, c5, c6, c7, c8, c9, c10, c11⟩, _⟩ := dz_facts HC2.out
      obtain ⟨⟨d0, d1, d2, d3, d4, d5, d6, d7, d8, d9, d10, d11⟩, f0, f1, f2, f3, f4, f5, f6, f7, f8, f9, f10, f11⟩ := dz_facts HD2.out
      go_wp2
      have HK := dzn_cel HD2.out ⟨id, ins, tok, nod, top, prio, wkr, epo, now + span, aft, ret, bro⟩
      have HBK := dzn_below HB2.out (z := w.heap.size + 1) (by omega) ⟨id, ins, tok, nod, top, prio, wkr, epo, now + span, aft, ret, bro⟩
      change bodyPost _ _ _ _ _ (dzn w2 (w.heap.size + 1) ⟨id, ins, tok, nod, top, prio, wkr, epo, now + span, aft, ret, bro⟩)
      generalize dzn w2 (w.heap.size + 1) ⟨id, ins, tok, nod, top, prio, wkr, epo, now + span, aft, ret, bro⟩ = wz at *
      obtain ⟨⟨k0, k1, k2, k3, k4, k5, k6, k7, k8, k9, k10, k11⟩, _⟩ := dz_facts HK
      exact bodyPost_ret (v := .tuple #[.agg #[.int .i64 id, .int .i64 ins, .int .i64 tok, .int .i64 nod, .string top, .int .i64 prio, .string wkr, .int .i64 epo, .int .i64 (now + span), .int .i64 aft, .int .i64 ret, .bool bro], .bool true]) (by simp [results, Try.results19, go_sem, k0, k1, k2, k3, k4, k5, k6, k7, k8, k9, k10, k11]) rfl ⟨rfl, HBK⟩
def T.canRepair (x : T) (r : Int) : Bool := x.bro && (decide (1 ≤ r) && decide (r ≤ 9))
def T.repaired (x : T) (r : Int) : T := { x with ret := r, bro := false }
set_option maxHeartbeats 1600000 in
theorem repair_any (x : T) (r : Int) (w : World) : Calls Try.prog 18 #[x.val, .int .i64 r] w fun e w' => e = .returned (.tuple #[(if x.canRepair r then x.repaired r else x).val, .bool (x.canRepair r)]) ∧ Below w.heap.size w w' := by
  obtain ⟨hc, hd, hb⟩ := two_lit w #[.int .i64 x.id, .int .i64 x.ins, .int .i64 x.tok, .int .i64 x.nod, .string x.top, .int .i64 x.prio, .string x.wkr, .int .i64 x.epo, .int .i64 x.exp, .int .i64 x.aft, .int .i64 x.ret, .bool x.bro] #[.int .i64 0, .int .i64 0, .int .i64 0, .int .i64 0, .string ⟨#[]⟩, .int .i64 0, .string ⟨#[]⟩, .int .i64 0, .int .i64 0, .int .i64 0, .int .i64 0, .bool false] 25 25
  have W2 := Lib.hid (fun w => within_any r 1 9 w)
  obtain ⟨Y, hY⟩ : ∃ Y, Y = (if x.canRepair r then x.repaired r else x) := ⟨_, rfl⟩
  obtain ⟨R, hR⟩ : ∃ R, R = x.canRepair r := ⟨_, rfl⟩
  rw [← hY, ← hR]
  rw [← hR] at hY
  unfold T.canRepair at hR
  unfold T.repaired at hY
  generalize (decide (1 ≤ r) && decide (r ≤ 9)) = Wi at *
  obtain ⟨id, ins, tok, nod, top, prio, wkr, epo, exp, aft, ret, bro⟩ := x
  unfold T.val at *
  dsimp only at *
  go_enter Try.func18, Try.ntmps18
  go_upto_region 1 with (fail)
  generalize (w.alloc _).alloc _ = wa at *
  have HC := Lib.hid hc
  have HD := Lib.hid hd
  have HB := Lib.hid hb
  have HY := Lib.hid hY
  obtain ⟨⟨c0, c1, c2, c3, c4, c5, c6, c7, c8, c9, c10, c11⟩, _⟩ := dz_facts hc
  clear hb hc hd hY
  cases bro with
  | false =>
    obtain rfl : R = false := hR
    obtain rfl := HY.out
    try dsimp only
    clear c0 c1 c2 c3 c4 c5 c6 c7 c8 c9 c10 c11
    obtain ⟨⟨c0, c1, c2, c3, c4, c5, c6, c7, c8, c9, c10, c11⟩, _⟩ := dz_facts HC.out
    obtain ⟨⟨d0, d1, d2, d3, d4, d5, d6, d7, d8, d9, d10, d11⟩, f0, f1, f2, f3, f4, f5, f6, f7, f8, f9, f10, f11⟩ := dz_facts HD.out
    go_wp2
    have HK := dzn_cel HD.out ⟨id, ins, tok, nod, top, prio, wkr, epo, exp, aft, ret, false⟩
    have HBK := dzn_below HB.out (z := w.heap.size + 1) (by omega) ⟨id, ins, tok, nod, top, prio, wkr, epo, exp, aft, ret, false⟩
    change bodyPost _ _ _ _ _ (dzn wa (w.heap.size + 1) ⟨id, ins, tok, nod, top, prio, wkr, epo, exp, aft, ret, false⟩)
    generalize dzn wa (w.heap.size + 1) ⟨id, ins, tok, nod, top, prio, wkr, epo, exp, aft, ret, false⟩ = wz at *
    obtain ⟨⟨k0, k1, k2, k3, k4, k5, k6, k7, k8, k9, k10, k11⟩, _⟩ := dz_facts HK
    exact bodyPost_ret (v := .tuple #[.agg #[.int .i64 id, .int .i64 ins, .int .i64 tok, .int .i64 nod, .string top, .int .i64 prio, .string wkr, .int .i64 epo, .int .i64 exp, .int .i64 aft, .int .i64 ret, .bool false], .bool false]) (by simp [results, Try.results18, go_sem, k0, k1, k2, k3, k4, k5, k6, k7, k8, k9, k10, k11]) rfl ⟨rfl, HBK⟩
  | true =>
    go_wp2_with fail
    refine (W2.out _).mono ?_
    rintro e wy ⟨rfl, rfl⟩
    cases Wi with
    | false =>
      obtain rfl : R = false := hR
      obtain rfl := HY.out
      try dsimp only
      clear c0 c1 c2 c3 c4 c5 c6 c7 c8 c9 c10 c11
      obtain ⟨⟨c0, c1, c2, c3, c4, c5, c6, c7, c8, c9, c10, c11⟩, _⟩ := dz_facts HC.out
      obtain ⟨⟨d0, d1, d2, d3, d4, d5, d6, d7, d8, d9, d10, d11⟩, f0, f1, f2, f3, f4, f5, f6, f7, f8, f9, f10, f11⟩ := dz_facts HD.out
      go_wp2
      have HK := dzn_cel HD.out ⟨id, ins, tok, nod, top, prio, wkr, epo, exp, aft, ret, true⟩
      have HBK := dzn_below HB.out (z := w.heap.size + 1) (by omega) ⟨id, ins, tok, nod, top, prio, wkr, epo, exp, aft, ret, true⟩
      change bodyPost _ _ _ _ _ (dzn wa (w.heap.size + 1) ⟨id, ins, tok, nod, top, prio, wkr, epo, exp, aft, ret, true⟩)
      generalize dzn wa (w.heap.size + 1) ⟨id, ins, tok, nod, top, prio, wkr, epo, exp, aft, ret, true⟩ = wz at *
      obtain ⟨⟨k0, k1, k2, k3, k4, k5, k6, k7, k8, k9, k10, k11⟩, _⟩ := dz_facts HK
      exact bodyPost_ret (v := .tuple #[.agg #[.int .i64 id, .int .i64 ins, .int .i64 tok, .int .i64 nod, .string top, .int .i64 prio, .string wkr, .int .i64 epo, .int .i64 exp, .int .i64 aft, .int .i64 ret, .bool true], .bool false]) (by simp [results, Try.results18, go_sem, k0, k1, k2, k3, k4, k5, k6, k7, k8, k9, k10, k11]) rfl ⟨rfl, HBK⟩
    | true =>
      obtain rfl : R = true := hR
      obtain rfl := HY.out
      try dsimp only
      go_upto_region 3 with (fail)
      clear c0 c1 c2 c3 c4 c5 c6 c7 c8 c9 c10 c11
      have h0 := HC.out
      have h1 := h0.set (i := 10) (by simp) (.int .i64 r)
      have h2 := h1.set (i := 11) (by simp) (.bool false)
      have hg := set_grown (set_grown (World.grownBy.refl wa (some w.heap.size)) 10 (.int .i64 r)) 11 (.bool false)
      have HD2 := Lib.hid (HD.out.kept hg (fun e => by have := Option.some.inj e; omega))
      have HB2 := Lib.hid ((HB.out.setCell (p := ⟨w.heap.size, 10, Option.none⟩) (Nat.le_refl _) (.int .i64 r)).setCell (p := ⟨w.heap.size, 11, Option.none⟩) (Nat.le_refl _) (.bool false))
      have HC2 := Lib.hid h2
      obtain ⟨⟨c0, c1, c2, c3, c4, c5, c6, c7, c8, c9, c10, c11⟩, f0, f1, f2, f3, f4, f5, f6, f7, f8, f9, f10, f11⟩ := dz_facts HC.out
      clear h0 h1 h2 hg
      go_upto_region 4 with (fail)
      generalize (World.setCell (World.setCell wa _ _) _ _) = w2 at *
      clear c0 c1 c2 c3 c4 c5 c6 c7 c8 c9 c10 c11 f0 f1 f2 f3 f4 f5 f6 f7 f8 f9 f10 f11
      obtain ⟨⟨c0, c1, c2, c3, c4, c5, c6, c7, c8, c9, c10, c11⟩, _⟩ := dz_facts HC2.out
      obtain ⟨⟨d0, d1, d2, d3, d4, d5, d6, d7, d8, d9, d10, d11⟩, f0, f1, f2, f3, f4, f5, f6, f7, f8, f9, f10, f11⟩ := dz_facts HD2.out
      go_wp2
      have HK := dzn_cel HD2.out ⟨id, ins, tok, nod, top, prio, wkr, epo, exp, aft, r, false⟩
      have HBK := dzn_below HB2.out (z := w.heap.size + 1) (by omega) ⟨id, ins, tok, nod, top, prio, wkr, epo, exp, aft, r, false⟩
      change bodyPost _ _ _ _ _ (dzn w2 (w.heap.size + 1) ⟨id, ins, tok, nod, top, prio, wkr, epo, exp, aft, r, false⟩)
      generalize dzn w2 (w.heap.size + 1) ⟨id, ins, tok, nod, top, prio, wkr, epo, exp, aft, r, false⟩ = wz at *
      obtain ⟨⟨k0, k1, k2, k3, k4, k5, k6, k7, k8, k9, k10, k11⟩, _⟩ := dz_facts HK
      exact bodyPost_ret (v := .tuple #[.agg #[.int .i64 id, .int .i64 ins, .int .i64 tok, .int .i64 nod, .string top, .int .i64 prio, .string wkr, .int .i64 epo, .int .i64 exp, .int .i64 aft, .int .i64 r, .bool false], .bool true]) (by simp [results, Try.results18, go_sem, k0, k1, k2, k3, k4, k5, k6, k7, k8, k9, k10, k11]) rfl ⟨rfl, HBK⟩
end Ls
end Go.Proofs.Ytmmcfgmnfmkdbaa
