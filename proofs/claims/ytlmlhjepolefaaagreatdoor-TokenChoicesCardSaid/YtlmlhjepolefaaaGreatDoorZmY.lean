/- Package token: stepped. -/
import Derived.Test.YtlmlhjepolefaaaGreatDoorYTokenChoices7
import Derived.Deep.RegionHeld3
namespace Go.Proofs.YtlmlhjepolefaaaGreatDoor
open Go.RowKit

namespace Pr
theorem moved_go (G : Nat → Bool) (fs : List Nat) (x : BdV) (b : Bd) (w : World) (hx : BdIn w w.heap.size x b) (hf : b.Few) (ho : ∀ f ∈ fs, f < b.p.m) (W : World) (hb : Below w.heap.size w W) (g : Nat) (lb : Array Value) (eg : ∀ args w, (callFunc g args).run Tryz.prog w = .ok (.enter g args) w) (hp : ∀ (W' : World) (k : Nat), k < b.toks.length → Below W.heap.size W W' → Calls Tryz.prog g (#[.int .i64 (k : Int)] ++ lb) W' fun e w2 => e = .returned (.bool (G k)) ∧ Below W'.heap.size W' w2) (X : Option Addr) (kx cx : Nat) (hr : KRow iκ W W.heap.size X kx (fs.map Int.ofNat)) (hk : kx ≤ 100000) :
    Calls Tryz.prog 27 #[x.val, .func (.func g) #[] lb, .slice X kx cx] W fun e w' => (∃ y, e = .returned y.val ∧ BdOwn w' W.heap.size y (moved b G fs)) ∧ Below W.heap.size W w' :=
  moved_any g lb G x b W eg (hx.on hb) hf hp X kx cx fs hr ho hk
theorem moved_goes (i u : Nat) (fs : List Nat) (x : BdV) (b : Bd) (w : World) (hx : BdIn w w.heap.size x b) (hf : b.Few) (ho : ∀ f ∈ fs, f < b.p.m) (W : World) (hb : Below w.heap.size w W) (w0 : World) (e : Ending) (hgo : GoesOut b i u w0 e W) (X : Option Addr) (kx cx : Nat) (hr : KRow iκ W W.heap.size X kx (fs.map Int.ofNat)) (hk : kx ≤ 100000) :
    ∃ (g : Nat) (lb : Array Value), e = .returned (.func (.func g) #[] lb) ∧ Below w0.heap.size w0 W ∧ Calls Tryz.prog 27 #[x.val, .func (.func g) #[] lb, .slice X kx cx] W fun e w' => (∃ y, e = .returned y.val ∧ BdOwn w' W.heap.size y (moved b (goes b i u) fs)) ∧ Below W.heap.size W w' := by
  obtain ⟨⟨g, lb, rfl, eg, hp⟩, hb4⟩ := hgo
  generalize goes b i u = G at *
  exact ⟨g, lb, rfl, hb4, moved_any g lb G x b W eg (hx.on hb) hf hp X kx cx fs hr ho hk⟩
set_option maxHeartbeats 6400000 in
set_option maxRecDepth 10000 in
theorem stepped_any (E : Int → Option Addr) (i u : Nat) (x : BdV) (b : Bd) (w : World) (hx : BdIn w w.heap.size x b) (hi : i < b.toks.length) (hiu : b.toks[i]!.node = (u : Int)) (hu : u < b.p.n) (hf : b.Few) (hm : b.p.m ≤ 90000) (ha : Asc b.toks)
    (hc : ∀ f ∈ outsB b.p u, CondOk E w x.V x.nv x.cv b.vars b.p.flows[f]!.cond) (hE : ErrIn w E 116 2) :
    Calls Tryz.prog 14 #[x.val, .int .i64 (i : Int)] w (SteppedOut E b i u w) := by
  have HX := Lib.hid hx
  have HP := Lib.hid (Cp.lit w x.list 38)
  have HWY := Lib.hid (fun (W : World) (hb : Below w.heap.size w W) => ways_any E u x b W (hx.on hb) hu hf (fun f h => (hc f h).on hb) (hE.below hb))
  have HGO := Lib.hid (fun (W : World) (hb : Below w.heap.size w W) => going_any i u x b W (hx.on hb) hi hiu hu hf ha)
  have HMV := Lib.hid (moved_goes i u (outWays b u).2 x b w hx hf (fun f h => @outWays_lt b u f h))
  have hwl := outWays_len b u
  have hn := hx.hn
  have hmm := hx.hm
  have ht := hx.ht
  clear hx hf ha hc hE
  obtain ⟨s, A, n, c, F, m, d, V, nv, cv, T, nt, ct, k⟩ := x
  unfold BdV.val at *
  unfold BdV.list at *
  dsimp only at *
  subst hn hmm ht
  go_enter Tryz.func14, Tryz.ntmps14
  go_upto_region 1 with (fail)
  unfold zeroB at HP
  generalize (w.alloc _).alloc _ = wa at *
  have hbd : Below wa.heap.size wa wa.drew := (Below.refl _ _).drew
  have hT := HX.out.toks.below HP.out.bel (Nat.le_refl _)
  obtain ⟨b0, off, rfl, _, _⟩ := hT.2 (show 0 < b.toks.length by omega)
  obtain ⟨t0, t1, t2, t3⟩ := tk_at hT hi
  obtain ⟨e0, e1, e2, e3⟩ := tk_at (HX.out.toks.below (HP.out.bel.trans (hbd.mono HP.out.bel.size)) (Nat.le_refl _)) hi
  rw [hiu] at t1 e1
  have hi0 : (0 : Int) ≤ (i : Int) := by omega
  have hiI : (i : Int) < (b.toks.length : Int) := by omega
  obtain ⟨⟨z0, z1, z2, z3, z4, z5⟩, _⟩ := six_facts HP.out.box
  obtain ⟨⟨d0, d1, d2, d3, d4, d5⟩, _⟩ := six_facts (HP.out.box.below hbd (Nat.le_refl _))
  have HW1 := Lib.hid (HWY.out wa.drew (HP.out.bel.trans (hbd.mono HP.out.bel.size)))
  have HPd := Lib.hid (HP.out.below hbd)
  clear hT hbd hiu
  generalize hRE : outWays b u = R at *
  obtain ⟨cd, fs⟩ := R
  dsimp only at *
  have HRE := Lib.hid hRE
  clear hRE
  have HSF := Lib.hid (fun W (hb : Below wa.heap.size wa W) => And.intro (six_facts (HP.out.box.below hb (Nat.le_refl _))).1 (below_cells hb t1))
  clear e0 e1 e2 e3 d0 d1 d2 d3 d4 d5 t0 t2 t3
  go_region_held3 (fun w' => (w'.cell? ⟨w.heap.size, 0, none⟩ = some (.string s) ∧ w'.cell? ⟨w.heap.size, 1, none⟩ = some (.slice A b.p.n c) ∧ w'.cell? ⟨w.heap.size, 2, none⟩ = some (.slice F b.p.m d) ∧ w'.cell? ⟨w.heap.size, 3, none⟩ = some (.slice V nv cv) ∧ w'.cell? ⟨w.heap.size, 4, none⟩ = some (.slice (some ⟨b0, off, none⟩) b.toks.length ct) ∧ w'.cell? ⟨w.heap.size, 5, none⟩ = some (.int .i64 k)) ∧ w'.cell? ⟨b0, off + i * 4 + 1, none⟩ = some (.int .i64 (u : Int))) (first | exact HSF.out _ HB1.out | exact HSF.out _ (Below.refl _ _).drew) (first
    | (go_at_call 26; refine HW1.out.mono ?_; rintro e w1 ⟨⟨Y, kk, cc, ev, rfl, hs, ho⟩, hb1⟩; have HB1 := Lib.hid (((Below.refl wa.heap.size wa).drew).trans hb1)))
  obtain ⟨⟨y0, y1, y2, y3, y4, y5⟩, _⟩ := HSF.out _ HB1.out
  have HO1 := Lib.hid ho
  have HS1 := Lib.hid hs
  have HPw := Lib.hid (HP.out.below HB1.out)
  have HBw := Lib.hid (HP.out.bel.trans (HB1.out.mono HP.out.bel.size))
  have hrl := HPw.out.res.lt
  clear z0 z1 z2 z3 z4 z5 t1 HW1 HWY ho hb1 HPd
  by_cases h0 : cd = 0
  · subst h0
    obtain rfl := seen_nil hs
    clear hs
    obtain ⟨kke, hkk⟩ : ∃ q, q = kk := ⟨_, rfl⟩
    obtain rfl : fs.length = kk := by have := HO1.out.len; simpa using this
    go_upto_region 4 with (fail)
    have hb1d : Below w1.heap.size w1 w1.drew := (Below.refl _ _).drew
    have HBd := Lib.hid (HBw.out.trans (hb1d.mono HBw.out.size))
    have HBf := Lib.hid (fun W (hb : Below w1.heap.size w1 W) => (six_facts (HPw.out.box.below hb (Nat.le_refl _))).1)
    have HG1 := Lib.hid (HGO.out w1.drew HBd.out)
    obtain ⟨d0, d1, d2, d3, d4, d5⟩ := HBf.out _ hb1d
    clear hb1d
    go_region_law (first
      | (go_simp; go_at_call 28; refine HG1.out.mono ?_; rintro e w4 hgo; have HB4 := Lib.hid (((Below.refl w1.heap.size w1).drew).trans hgo.2); obtain ⟨g, lb, rfl, hb4, hmv⟩ := HMV.out w4 (HBw.out.trans (HB4.out.mono HBw.out.size)) _ _ hgo Y fs.length cc ((HO1.out.row.below HB4.out (Nat.le_refl _)).mono HB4.out.size) (by omega); have HM4 := Lib.hid hmv; obtain ⟨c0, c1, c2, c3, c4, c5⟩ := HBf.out _ HB4.out; clear hmv hgo hb4)
      | (go_simp; go_at_call 27; refine HM4.out.mono ?_; rintro e w5 ⟨⟨y, rfl, hO⟩, hb5⟩; have HB5 := Lib.hid (HB4.out.trans (hb5.mono HB4.out.size)); have HO5 := Lib.hid hO; have HZ5 := Lib.hid (HPw.out.res.below HB5.out (Nat.le_refl _)); have hzl := HZ5.out.lt; obtain ⟨⟨g0, g1, g2, g3, g4, g5⟩, u0, u1, u2, u3, u4, u5⟩ := six_facts HZ5.out; clear hO hb5))
    all_goals
      have HOF := Lib.hid ((HO5.out.grown (by have := HPw.out.zB; have := HB4.out.size; have := HPw.out.B1; omega) (six_grown w5 (w.heap.size + 1) y)).lower (B' := w.heap.size) (Nat.le_trans HBw.out.size HB4.out.size))
      have HBF := Lib.hid (six_below (HBw.out.trans (HB5.out.mono HBw.out.size)) (by omega) (z := w.heap.size + 1) y)
      have HCF := Lib.hid (six_cel HZ5.out y)
      clear d0 d1 d2 d3 d4 d5 g0 g1 g2 g3 g4 g5 u0 u1 u2 u3 u4 u5 c0 c1 c2 c3 c4 c5 y0 y1 y2 y3 y4 y5
      go_wp2
      change bodyPost _ _ _ _ _ (six w5 (w.heap.size + 1) y)
      generalize six w5 _ _ = wf at *
      obtain ⟨⟨j0, j1, j2, j3, j4, j5⟩, _⟩ := six_facts HCF.out
      exact bodyPost_ret (v := .tuple #[y.val, .nilIface]) (by simp [results, Tryz.results14, go_sem, j0, j1, j2, j3, j4, j5, BdV.val]) rfl ⟨⟨y, .nilIface, rfl, by rw [HRE.out]; exact .nil, fun _ => by rw [HRE.out]; exact HOF.out⟩, HBF.out⟩
  · obtain ⟨a, rfl, hka⟩ := seen_err hs h0
    have HZ5 := Lib.hid HPw.out.res
    have HKA := Lib.hid hka
    have H0 := Lib.hid h0
    obtain ⟨⟨g0, g1, g2, g3, g4, g5⟩, u0, u1, u2, u3, u4, u5⟩ := six_facts HZ5.out
    have HBF := Lib.hid (six_below HBw.out (by omega) (z := w.heap.size + 1) BdV.zero)
    have HCF := Lib.hid (six_cel HZ5.out BdV.zero)
    unfold errV
    clear hs hka h0
    go_wp2
    clear g0 g1 g2 g3 g4 g5 u0 u1 u2 u3 u4 u5 y0 y1 y2 y3 y4 y5
    change bodyPost _ _ _ _ _ (six w1 (w.heap.size + 1) BdV.zero)
    generalize six w1 _ _ = wf at *
    obtain ⟨⟨j0, j1, j2, j3, j4, j5⟩, _⟩ := six_facts HCF.out
    exact bodyPost_ret (v := .tuple #[BdV.zero.val, errV a]) (by simp [results, Tryz.results14, go_sem, j0, j1, j2, j3, j4, j5, BdV.val, BdV.zero, errV]) rfl ⟨⟨BdV.zero, errV a, rfl, by rw [HRE.out]; exact .err cd a HKA.out H0.out, fun h => by rw [HRE.out] at h; exact absurd h H0.out⟩, HBF.out⟩
end Pr
end Go.Proofs.YtlmlhjepolefaaaGreatDoor
