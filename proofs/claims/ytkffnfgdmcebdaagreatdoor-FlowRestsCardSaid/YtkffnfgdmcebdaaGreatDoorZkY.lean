/- Package token: moved. -/
import Derived.Test.YtkffnfgdmcebdaaGreatDoorYJoint25
import Derived.Test.YtkffnfgdmcebdaaGreatDoorZgY
namespace Go.Proofs.YtkffnfgdmcebdaaGreatDoor
open Go.RowKit

namespace Pr
theorem left_take (l : List Tk) (g : Nat → Bool) (j : Nat) : ((List.range (j + 1)).filter fun k => !g k).map (fun k => l[k]!) = (((List.range j).filter fun k => !g k).map fun k => l[k]!) ++ (if g j = true then [] else [l[j]!]) := by
  rw [List.range_succ, List.filter_append, List.map_append]
  cases hg : g j <;> simp [hg]
theorem left_len (l : List Tk) (g : Nat → Bool) (j : Nat) : (((List.range j).filter fun k => !g k).map fun k => l[k]!).length ≤ j := by
  rw [List.length_map]
  exact Nat.le_trans (List.length_filter_le _ _) (by simp)
theorem come_take (p : P) (fs : List Nat) {j : Nat} (hj : j < fs.length) : come p (fs.take (j + 1)) = come p (fs.take j) ++ [⟨0, p.flows[fs[j]!]!.til, (fs[j]! : Int), false⟩] := by
  unfold come
  rw [List.take_add_one, List.getElem?_eq_getElem hj, getElem!_pos fs j hj, List.map_append]
  rfl
theorem come_len (p : P) (fs : List Nat) : (come p fs).length = fs.length := List.length_map _
set_option maxHeartbeats 6400000 in
set_option maxRecDepth 10000 in
theorem moved_any (g : Nat) (lb : Array Value) (G : Nat → Bool) (x : BdV) (b : Bd) (w : World) (eg : ∀ args w, (callFunc g args).run Tryz.prog w = .ok (.enter g args) w) (hx : BdIn w w.heap.size x b) (hf : b.Few)
    (hp : ∀ (W : World) (k : Nat), k < b.toks.length → Below w.heap.size w W → Calls Tryz.prog g (#[.int .i64 (k : Int)] ++ lb) W fun e w2 => e = .returned (.bool (G k)) ∧ Below W.heap.size W w2)
    (X : Option Addr) (kx cx : Nat) (fs : List Nat) (hi : KRow iκ w w.heap.size X kx (fs.map Int.ofNat)) (ho : ∀ f ∈ fs, f < b.p.m) (hk : kx ≤ 100000) :
    Calls Tryz.prog 54 #[x.val, .func (.func g) #[] lb, .slice X kx cx] w fun e w' => (∃ y, e = .returned y.val ∧ BdOwn w' w.heap.size y (moved b G fs)) ∧ Below w.heap.size w w' := by
  obtain rfl : fs.length = kx := by have := hi.len (by decide); simpa using this
  obtain ⟨i0, hi0, hz0, hz1, hz2⟩ := info_parts info_tok
  have HX := Lib.hid hx
  have HF := Lib.hid hf
  have HI := Lib.hid hi
  have HO := Lib.hid ho
  have HP := Lib.hid (Cp.lit w x.list 38)
  have HG := Lib.hid hp
  have hn := hx.hn
  have hm := hx.hm
  have ht := hx.ht
  have hf4 := hf.t
  clear hx hf hi ho hp
  obtain ⟨s, A, n, c, F, m, d, V, nv, cv, T, nt, ct, k⟩ := x
  unfold BdV.val
  unfold BdV.list at HP
  dsimp only at *
  subst hn hm ht
  go_enter Tryz.func54, Tryz.ntmps54
  go_upto_region 1 with (fail)
  unfold zeroB at HP
  generalize hwa : (w.alloc _).alloc _ = wa at *
  have hws : wa.heap.size = w.heap.size + 2 := by rw [← hwa]; simp
  clear hwa
  obtain ⟨⟨z0, z1, z2, z3, z4, z5⟩, _⟩ := six_facts HP.out.box
  have hbl : Below wa.heap.size wa (wa.alloc (.cells #[.string s, .slice A b.p.n c, .slice F b.p.m d, .slice V nv cv, .slice none 0 0, .int .i64 k] 38)) := (Below.refl _ _).alloc (Nat.le_refl _) _
  have HLf := Lib.hid (Cel.lit wa #[.string s, .slice A b.p.n c, .slice F b.p.m d, .slice V nv cv, .slice none 0 0, .int .i64 k] 38)
  have HP1 := Lib.hid (HP.out.below hbl)
  clear hbl HP
  go_upto_region 3 with (fail)
  have hqs : w.heap.size + 2 < (wa.alloc (.cells #[.string s, .slice A b.p.n c, .slice F b.p.m d, .slice V nv cv, .slice none 0 0, .int .i64 k] 38)).heap.size := by simp; omega
  generalize wa.alloc _ = w2 at *
  rw [hws] at HLf
  clear z0 z1 z2 z3 z4 z5 hws
  obtain ⟨⟨z0, z1, z2, z3, z4, z5⟩, _⟩ := six_facts HP1.out.box
  have HBX := Lib.hid HP1.out.box
  have HZ := Lib.hid HP1.out.res
  have HBB := Lib.hid HP1.out.bel
  clear HP1
  go_wp2_with fail
  clear z0 z1 z2 z3 z4 z5
  go_loopw [18] (fun i wr => ∃ (j : Nat) (Y : Option Addr) (cc : Nat), j ≤ b.toks.length ∧ i = .int .i64 j ∧ Cel wr (w.heap.size + 2) [.string s, .slice A b.p.n c, .slice F b.p.m d, .slice V nv cv, .slice Y (((List.range j).filter fun k => !G k).map fun k => b.toks[k]!).length cc, .int .i64 k] ∧
    OwnK Tk.κ wr w2.heap.size 35 Y (((List.range j).filter fun k => !G k).map fun k => b.toks[k]!).length cc (((List.range j).filter fun k => !G k).map fun k => b.toks[k]!) ∧
    Cel wr w.heap.size [.string s, .slice A b.p.n c, .slice F b.p.m d, .slice V nv cv, .slice T b.toks.length ct, .int .i64 k] ∧ Cel wr (w.heap.size + 1) zeroB ∧ Below w.heap.size w wr ∧ w2.heap.size ≤ wr.heap.size) (fun i _ => b.toks.length - (intOf i).toNat)
  case atStart => exact ⟨0, none, 0, Nat.zero_le _, rfl, HLf.out, ⟨by decide, World.ownsRow_nil _ _ _ _⟩, HBX.out, HZ.out, HBB.out, Nat.le_refl _⟩
  case round =>
    obtain ⟨j, Y, cc, hj, rfl, hc, how, hbx, hz, hbr, hsr⟩ := hrel
    have hj0 : (0 : Int) ≤ (j : Int) := by omega
    by_cases hlt : j < b.toks.length
    · have hI : (j : Int) < (b.toks.length : Int) := by omega
      have hT := HX.out.toks.below hbr (Nat.le_refl _)
      obtain ⟨b0, off, rfl, _, _⟩ := hT.2 (show 0 < b.toks.length by omega)
      obtain ⟨t0, t1, t2, t3⟩ := tk_at hT hlt
      have hlt2 := left_take b.toks G j
      have hll := left_len b.toks G j
      generalize hL : (((List.range j).filter fun k => !G k).map fun k => b.toks[k]!) = L at *
      generalize b.toks[j]! = tk at *
      obtain ⟨tid, tnode, tinn, tst⟩ := tk
      dsimp only at t0 t1 t2 t3
      have hbt : Below wr.heap.size wr (wr.alloc (.cells #[.int .i64 tid, .int .i64 tnode, .int .i64 tinn, .bool tst] 35)) := (Below.refl _ _).alloc (Nat.le_refl _) _
      have HVt := Lib.hid (Cel.lit wr #[.int .i64 tid, .int .i64 tnode, .int .i64 tinn, .bool tst] 35)
      have HBt := Lib.hid (hbr.trans (hbt.mono hbr.size))
      have HCL := Lib.hid (HG.out _ j hlt HBt.out)
      have HC1 := Lib.hid (hc.below hbt (Nat.le_refl _))
      have HO1 := Lib.hid (how.below hbt (Nat.le_refl _))
      have HB1 := Lib.hid (hbx.below hbt (Nat.le_refl _))
      have HZ1 := Lib.hid (hz.below hbt (Nat.le_refl _))
      have hs1 : w2.heap.size ≤ (wr.alloc (.cells #[.int .i64 tid, .int .i64 tnode, .int .i64 tinn, .bool tst] 35)).heap.size := Nat.le_trans hsr hbt.size
      have HLT2 := Lib.hid hlt2
      clear hT hc how hbx hz hbr hbt hlt2
      go_upto_region 6 with (fail)
      generalize hp9 : wr.heap.size = p9 at *
      generalize wr.alloc _ = wt at *
      clear t0 t1 t2 t3
      cases hg : G j with
      | true =>
        rw [hg] at HCL HLT2
        rw [if_pos rfl, List.append_nil] at HLT2
        clear hg
        go_wp2_with (go_at_fn g; refine HCL.out.mono ?_; rintro e w' ⟨rfl, hb'⟩; have HB' := Lib.hid hb'; clear hb')
        go_roundw
        case measure => simp [intOf]; omega
        case rel => exact ⟨j + 1, Y, cc, by omega, by go_num, by rw [HLT2.out]; exact HC1.out.below HB'.out (Nat.le_refl _), by rw [HLT2.out]; exact HO1.out.below HB'.out (Nat.le_refl _), HB1.out.below HB'.out (Nat.le_refl _), HZ1.out.below HB'.out (Nat.le_refl _), HBt.out.trans (HB'.out.mono HBt.out.size), Nat.le_trans hs1 HB'.out.size⟩
      | false =>
        rw [hg] at HCL HLT2
        rw [if_neg (by simp)] at HLT2
        clear hg
        go_upto_region 7 with (go_at_fn g; refine HCL.out.mono ?_; rintro e w' ⟨rfl, hb'⟩; have HB' := Lib.hid hb'; clear hb')
        have hba : Below w'.heap.size w' (w'.alloc (.cells #[.int .i64 tid, .int .i64 tnode, .int .i64 tinn, .bool tst] 35)) := (Below.refl _ _).alloc (Nat.le_refl _) _
        have hbb := HB'.out.trans (hba.mono HB'.out.size)
        have HCa := Lib.hid (HC1.out.below hbb (Nat.le_refl _))
        have HOa := Lib.hid (HO1.out.below hbb (Nat.le_refl _))
        have HBa := Lib.hid (HB1.out.below hbb (Nat.le_refl _))
        have HZa := Lib.hid (HZ1.out.below hbb (Nat.le_refl _))
        have HWa := Lib.hid (HBt.out.trans (hbb.mono HBt.out.size))
        have HR : Hid (KRow Tk.κ (w'.alloc (.cells #[.int .i64 tid, .int .i64 tnode, .int .i64 tinn, .bool tst] 35)) (w'.heap.size + 1) (some ⟨w'.heap.size, 0, none⟩) 1 [⟨tid, tnode, tinn, tst⟩]) := Lib.hid (KRow.lit (κ := Tk.κ) w' 35 [⟨tid, tnode, tinn, tst⟩] #[.int .i64 tid, .int .i64 tnode, .int .i64 tinn, .bool tst] rfl)
        have hbase : w2.heap.size ≤ (w'.alloc (.cells #[.int .i64 tid, .int .i64 tnode, .int .i64 tinn, .bool tst] 35)).heap.size := Nat.le_trans hs1 hbb.size
        obtain ⟨⟨z0, z1, z2, z3, z4, z5⟩, _⟩ := six_facts (HC1.out.below HB'.out (Nat.le_refl _))
        obtain ⟨t0, t1, t2, t3⟩ := qd_facts (HVt.out.below HB'.out (Nat.le_refl _))
        have hq7 := (HC1.out.below HB'.out (Nat.le_refl _)).lt
        have hp7 := (HVt.out.below HB'.out (Nat.le_refl _)).lt
        have hll2 : L.length ≤ 1000000 := by omega
        have HE := Lib.hid (fun (v : Value) (w3 : World) (hg : Grew (w'.alloc (.cells #[.int .i64 tid, .int .i64 tnode, .int .i64 tinn, .bool tst] 35)) w3 (.slice Y L.length cc) v) (q : Nat) (cs : List Value) (hcq : Cel (w'.alloc (.cells #[.int .i64 tid, .int .i64 tnode, .int .i64 tinn, .bool tst] 35)) q cs) (hql : q < w2.heap.size) => hcq.kept hg.grown (fun e => by obtain ⟨a', h1, h2⟩ := blk_of e; have := (HOa.out.block h1).1; omega))
        clear hba hbb
        go_wp2_with (at_builtin; refine append_k (κ := Tk.κ) rfl (.tmp 28) (.tmp 30) 36 35 i0 _ 32 Tryz.underlying36 hi0 hz0 hz1 hz2 rfl rfl _ w2.heap.size _ Y L.length cc L ⟨w'.heap.size, 0, none⟩ ⟨tid, tnode, tinn, tst⟩ rfl HOa.out rfl HR.out hll2 (by decide) hbase ?_; intro Y' cc' w3 ho hg; have hcc := HE.out _ _ hg _ _ HCa.out hqs; obtain ⟨⟨m0, m1, m2, m3, m4, m5⟩, n0, n1, n2, n3, n4, n5⟩ := six_facts hcc; have HCF := Lib.hid (hcc.set (i := 4) (by simp) (.slice Y' (L.length + 1) cc')); have HOF := Lib.hid (own_set (i := 4) ho hqs (.slice Y' (L.length + 1) cc')); have HBF := Lib.hid ((HE.out _ _ hg _ _ HBa.out (by omega)).kept (grown_setCell w3 ⟨w.heap.size + 2, 4, none⟩ (.slice Y' (L.length + 1) cc')) (fun e => by have h2 : w.heap.size + 2 = w.heap.size := Option.some.inj e; omega)); have HZF := Lib.hid ((HE.out _ _ hg _ _ HZa.out (by omega)).kept (grown_setCell w3 ⟨w.heap.size + 2, 4, none⟩ (.slice Y' (L.length + 1) cc')) (fun e => by have h2 : w.heap.size + 2 = w.heap.size + 1 := Option.some.inj e; omega)); have HWF := Lib.hid ((HWa.out.trans ((hg.below HOa.out.2 hbase).mono (by omega))).setCell (p := ⟨w.heap.size + 2, 4, none⟩) (by show w.heap.size ≤ w.heap.size + 2; omega) (.slice Y' (L.length + 1) cc')); have hsF : w2.heap.size ≤ (w3.setCell ⟨w.heap.size + 2, 4, none⟩ (.slice Y' (L.length + 1) cc')).heap.size := (by have := hg.size; simp at this ⊢; omega); clear ho hg hcc)
        go_roundw
        case measure => simp [intOf]; omega
        case rel =>
          have hlen : (L ++ [(⟨tid, tnode, tinn, tst⟩ : Tk)]).length = L.length + 1 := by simp
          exact ⟨j + 1, Y', cc', by omega, by go_num, by rw [HLT2.out, hlen]; exact HCF.out, by rw [HLT2.out, hlen]; exact HOF.out, HBF.out, HZF.out, HWF.out, hsF⟩
    · obtain rfl : j = b.toks.length := by omega
      have hI : ¬ ((b.toks.length : Int) < (b.toks.length : Int)) := by omega
      have hLL : (((List.range b.toks.length).filter fun k => !G k).map fun k => b.toks[k]!) = left b.toks G := rfl
      rw [hLL] at hc how
      have hll := left_len b.toks G b.toks.length
      rw [hLL] at hll
      have HCq := Lib.hid hc
      have HOq := Lib.hid how
      have HBq := Lib.hid hbx
      have HZq := Lib.hid hz
      have HWq := Lib.hid hbr
      have hmv : moved b G fs = Bd.put { b with toks := left b.toks G } (come b.p fs) := rfl
      have HMV := Lib.hid hmv
      clear hc how hbx hz hbr hLL HLf HBX HZ HBB HG hmv
      generalize left b.toks G = L at *
      go_wp2_with fail
      generalize wr = wq at *
      go_loopw [10, 36] (fun l i wr => ∃ (j : Nat) (Z : Option Addr) (cz : Nat), j ≤ fs.length ∧ i = .int .i64 j ∧ l = .slice Z j cz ∧ OwnK Tk.κ wr wq.heap.size 35 Z j cz (come b.p (fs.take j)) ∧ Below wq.heap.size wq wr) (fun _ i _ => fs.length - (intOf i).toNat)
      case atStart => exact ⟨0, none, 0, Nat.zero_le _, rfl, rfl, ⟨by decide, World.ownsRow_nil _ _ _ _⟩, Below.refl _ _⟩
      case round =>
        obtain ⟨j, Z, cz, hj, rfl, rfl, how, hbr⟩ := hrel
        have hj0 : (0 : Int) ≤ (j : Int) := by omega
        have HOW := Lib.hid how
        have HBR := Lib.hid hbr
        have HBw := Lib.hid (HWq.out.trans (hbr.mono HWq.out.size))
        clear how hbr
        by_cases hlt : j < fs.length
        · have hI : (j : Int) < (fs.length : Int) := by omega
          have hRw := HI.out.below HBw.out (Nat.le_refl _)
          obtain ⟨b2, off2, rfl, _, _⟩ := hRw.2 (show 0 < fs.length by omega)
          have g1 := iκ_cells hRw hlt
          have hgt : (fs.map Int.ofNat)[j]! = (fs[j]! : Int) := by
            rw [getElem!_pos (fs.map Int.ofNat) j (by simpa using hlt), getElem!_pos fs j hlt]; simp
          rw [hgt] at g1
          have HCT := Lib.hid (come_take b.p fs hlt)
          have hfm : fs[j]! < b.p.m := HO.out _ (by rw [getElem!_pos fs j hlt]; exact List.getElem_mem hlt)
          clear hgt hRw
          generalize fs[j]! = f at *
          have hF := HX.out.flows.below HBw.out (Nat.le_refl _)
          obtain ⟨b3, off3, rfl, _, _⟩ := hF.2 (show 0 < b.p.m by omega)
          obtain ⟨t0, t1, t2⟩ := fl_at hF hfm
          have hf0 : (0 : Int) ≤ (f : Int) := by omega
          have hfI : (f : Int) < (b.p.m : Int) := by omega
          generalize b.p.flows[f]!.til = til at *
          obtain ⟨⟨z0, z1, z2, z3, z4, z5⟩, _⟩ := six_facts (HBq.out.below HBR.out (Nat.le_refl _))
          have hba : Below wr.heap.size wr (wr.alloc (.cells #[.int .i64 0, .int .i64 til, .int .i64 f, .bool false] 35)) := (Below.refl _ _).alloc (Nat.le_refl _) _
          have HOa := Lib.hid (HOW.out.below hba (Nat.le_refl _))
          have HBa := Lib.hid (HBR.out.trans (hba.mono HBR.out.size))
          have HR : Hid (KRow Tk.κ (wr.alloc (.cells #[.int .i64 0, .int .i64 til, .int .i64 f, .bool false] 35)) (wr.heap.size + 1) (some ⟨wr.heap.size, 0, none⟩) 1 [⟨0, til, f, false⟩]) := Lib.hid (KRow.lit (κ := Tk.κ) wr 35 [⟨0, til, f, false⟩] #[.int .i64 0, .int .i64 til, .int .i64 f, .bool false] rfl)
          have hbase : wq.heap.size ≤ (wr.alloc (.cells #[.int .i64 0, .int .i64 til, .int .i64 f, .bool false] 35)).heap.size := HBa.out.size
          have hjl : j ≤ 1000000 := by omega
          clear hF hba
          go_wp2_with (at_builtin; refine append_k (κ := Tk.κ) rfl (.tmp 40) (.tmp 50) 36 35 i0 _ 32 Tryz.underlying36 hi0 hz0 hz1 hz2 rfl rfl _ wq.heap.size _ Z j cz _ ⟨wr.heap.size, 0, none⟩ ⟨0, til, f, false⟩ rfl HOa.out rfl HR.out hjl (by decide) hbase ?_; intro Z' cz' w3 ho hg; have HO3 := Lib.hid ho; have HB3 := Lib.hid (HBa.out.trans ((hg.below HOa.out.2 hbase).mono (Nat.le_refl _))); clear ho hg)
          go_roundw
          case measure => simp [intOf]; omega
          case rel => exact ⟨j + 1, Z', cz', by omega, by go_num, rfl, by rw [HCT.out]; exact HO3.out, HB3.out⟩
        · obtain rfl : j = fs.length := by omega
          have hI : ¬ ((fs.length : Int) < (fs.length : Int)) := by omega
          have hfull : fs.take fs.length = fs := List.take_length
          have how := HOW.out
          rw [hfull] at how
          have hin : BdIn wr wr.heap.size ⟨s, A, b.p.n, c, F, b.p.m, d, V, nv, cv, Y, L.length, cc, k⟩ { b with toks := L } :=
            ⟨HX.out.s, HX.out.k, (HX.out.on HBw.out).nodes, (HX.out.on HBw.out).flows, (HX.out.on HBw.out).vars, (HOq.out.row.below HBR.out (Nat.le_refl _)).mono HBR.out.size, HX.out.nA, HX.out.nF, HX.out.nV, HOq.out.nn⟩
          have hfew : Bd.Few { b with toks := L } := ⟨HF.out.n, HF.out.m, HF.out.v, by show L.length ≤ 100000; omega, HF.out.k0, HF.out.k1⟩
          have HPUT := Lib.hid (put_any _ _ Z fs.length cz (come b.p fs) wr hin hfew how.row (by omega))
          unfold BdV.val at HPUT
          dsimp only at HPUT
          rw [← HMV.out] at HPUT
          obtain ⟨⟨z0, z1, z2, z3, z4, z5⟩, _⟩ := six_facts (HCq.out.below HBR.out (Nat.le_refl _))
          have HZr := Lib.hid (HZq.out.below HBR.out (Nat.le_refl _))
          clear hin hfew how hfull
          go_upto_region 15 with (fail)
          go_wp2_with (go_at_call 42; refine HPUT.out.mono ?_; rintro e w5 ⟨⟨y, rfl, hO⟩, hb5⟩; have HO5 := Lib.hid hO; have HZ5 := Lib.hid (HZr.out.below hb5 (Nat.le_refl _)); have HB5 := Lib.hid (HBw.out.trans (hb5.mono HBw.out.size)); have hzl := HZ5.out.lt; obtain ⟨⟨g0, g1, g2, g3, g4, g5⟩, y0, y1, y2, y3, y4, y5⟩ := six_facts HZ5.out; clear hO hb5)
          have HOF := Lib.hid ((HO5.out.grown (by have := HBw.out.size; have := HZr.out.lt; omega) (six_grown w5 (w.heap.size + 1) y)).lower (B' := w.heap.size) HBw.out.size)
          have HBF := Lib.hid (six_below HB5.out (by omega) (z := w.heap.size + 1) y)
          have HCF := Lib.hid (six_cel HZ5.out y)
          clear z0 z1 z2 z3 z4 z5 g0 g1 g2 g3 g4 g5 y0 y1 y2 y3 y4 y5
          change bodyPost _ _ _ _ _ (six w5 (w.heap.size + 1) y)
          generalize six w5 _ _ = wf at *
          obtain ⟨⟨j0, j1, j2, j3, j4, j5⟩, _⟩ := six_facts HCF.out
          exact bodyPost_ret (v := y.val) (by simp [results, Tryz.results54, go_sem, j0, j1, j2, j3, j4, j5, BdV.val]) rfl ⟨⟨y, rfl, HOF.out⟩, HBF.out⟩
end Pr
end Go.Proofs.YtkffnfgdmcebdaaGreatDoor
