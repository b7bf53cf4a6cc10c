/- Package token: going. -/
import Derived.Test.YtkffnfgdmcebdaaGreatDoorYJoint25
import Derived.Test.YtkffnfgdmcebdaaGreatDoorYJoint24
import Derived.Test.YtkffnfgdmcebdaaGreatDoorYJoint22
import Derived.Deep.QuietTactic
import Derived.BigQuiet
import Derived.Deep.RegionLaw
namespace Go.Proofs.YtkffnfgdmcebdaaGreatDoor
open Go.RowKit

namespace Pr
set_option maxHeartbeats 1600000 in
theorem indexI_any (v : Int) (A : Option Addr) (n c : Nat) (l : List Int) (w : World) (hr : KRow iκ w w.heap.size A n l) (hn : n ≤ 100000) :
    Calls Tryz.prog 105 #[.slice A n c, .int .i64 v] w fun e w' => (∃ r : Int, e = .returned (.int .i64 r) ∧ (0 ≤ r ↔ v ∈ l)) ∧ w = w' := by
  obtain rfl : l.length = n := hr.len (by decide)
  go_enter Tryz.func105, Tryz.ntmps105
  go_wp2
  go_loopw [8] (fun i wr => ∃ k : Nat, k ≤ l.length ∧ i = .int .i64 k ∧ w = wr ∧ Hid (∀ j, j < k → l[j]! ≠ v)) (fun i _ => l.length - (intOf i).toNat)
  case atStart => exact ⟨0, Nat.zero_le _, rfl, rfl, fun j h => absurd h (Nat.not_lt_zero j)⟩
  case round =>
    obtain ⟨k, hk, rfl, rfl, hall⟩ := hrel
    by_cases hkn : k < l.length
    · obtain ⟨b, off, rfl, _, _⟩ := hr.2 (by omega)
      have g1 := iκ_cells hr hkn
      have HME : Hid (l[k]! ∈ l) := Lib.hid (by rw [getElem!_pos l k hkn]; exact List.getElem_mem hkn)
      obtain ⟨z, hz⟩ : ∃ z, z = l[k]! := ⟨_, rfl⟩
      have HZ := Lib.hid hz
      rw [← hz] at g1
      clear hz
      by_cases hq : v = z
      · have HQ := Lib.hid hq
        have hqB : (v == z) = true := by rw [beq_iff_eq]; exact hq
        clear hq
        obtain rfl := HQ.out
        go_wp2
        go_ret
        exact ⟨⟨_, rfl, ⟨fun _ => by rw [HZ.out]; exact HME.out, fun _ => by omega⟩⟩, rfl⟩
      · have HQ := Lib.hid hq
        have hqB : (v == z) = false := by rw [beq_eq_false_iff_ne]; exact hq
        clear hq
        go_wp2
        go_roundw
        case measure => simp [intOf]; omega
        case rel =>
          refine ⟨k + 1, by omega, by go_num, by first | rfl | trivial, fun j hj => ?_⟩
          by_cases e : j = k
          · subst e; rw [← HZ.out]; exact fun h => HQ.out h.symm
          · exact hall.out j (by omega)
    · have : k = l.length := by omega
      subst this
      have HNO : Hid (v ∉ l) := Lib.hid (fun h => by
        obtain ⟨j, hj, e⟩ := List.mem_iff_getElem.1 h
        exact hall.out j hj (by rw [getElem!_pos l j hj]; exact e))
      go_wp2
      go_ret
      exact ⟨⟨-1, rfl, ⟨fun h => absurd h (by decide), fun h => absurd h HNO.out⟩⟩, rfl⟩
theorem containsI_any (v : Int) (A : Option Addr) (n c : Nat) (l : List Int) (w : World) (hr : KRow iκ w w.heap.size A n l) (hn : n ≤ 100000) :
    Calls Tryz.prog 74 #[.slice A n c, .int .i64 v] w fun e w' => e = .returned (.bool (l.contains v)) ∧ w = w' := by
  have HI := Lib.hid (indexI_any v A n c l w hr hn)
  clear hr hn
  go_enter Tryz.func74, Tryz.ntmps74
  go_wp2_with (go_at_call 105; refine HI.out.mono ?_; rintro e w' ⟨⟨r, rfl, hr⟩, rfl⟩; have HR := Lib.hid hr; clear hr)
  go_ret
  refine ⟨?_, rfl⟩
  have : l.contains v = decide (0 ≤ r) := by
    rw [Bool.eq_iff_iff, decide_eq_true_eq, HR.out, List.contains_iff_mem]
  rw [this]
  rfl
theorem grown_low {a w w' : World} {row : Option Nat} {B : Nat} (h : a.grownBy w row) (k : Below B w w') (hB : a.heap.size ≤ B) : a.grownBy w' row :=
  ⟨k.os.trans h.os, k.tape.trans h.tape, k.output.trans h.output, Nat.le_trans h.size k.size, fun b hb hne => (k.block b (Nat.lt_of_lt_of_le hb hB)).trans (h.block b hb hne)⟩
def GoesOut (b : Bd) (i u : Nat) (w : World) (e : Ending) (w' : World) : Prop :=
  (∃ (g : Nat) (lb : Array Value), e = .returned (.func (.func g) #[] lb) ∧ (∀ args W, (callFunc g args).run Tryz.prog W = .ok (.enter g args) W) ∧
    ∀ (W : World) (k : Nat), k < b.toks.length → Below w'.heap.size w' W → Calls Tryz.prog g (#[.int .i64 (k : Int)] ++ lb) W fun e w2 => e = .returned (.bool (goes b i u k)) ∧ Below W.heap.size W w2) ∧ Below w.heap.size w w'
theorem goAll_any (k : Int) (W : World) : Calls Tryz.prog 113 (#[.int .i64 k] ++ #[]) W fun e w2 => e = .returned (.bool true) ∧ Below W.heap.size W w2 := by
  show Calls Tryz.prog 113 #[_] W _
  go_enter Tryz.func113, Tryz.ntmps113
  go_wp2
  go_ret
  exact ⟨rfl, Below.refl _ _⟩
theorem goAlone_any (i B : Nat) (w : World) (hB : B < w.heap.size) (hc : w.cell? ⟨B, 0, none⟩ = some (.int .i64 (i : Int))) (W : World) (k : Nat) (hb : Below w.heap.size w W) :
    Calls Tryz.prog 94 (#[.int .i64 (k : Int)] ++ #[.pointer (some ⟨B, 0, none⟩)]) W fun e w2 => e = .returned (.bool (decide (k = i))) ∧ Below W.heap.size W w2 := by
  have hc' : W.cell? ⟨B, 0, none⟩ = some (.int .i64 (i : Int)) := (hb.cell (p := ⟨B, 0, none⟩) hB).trans hc
  show Calls Tryz.prog 94 #[_, _] W _
  have HE : Hid ((((k : Nat) : Int) == (i : Int)) = decide (k = i)) := Lib.hid (by rw [Bool.eq_iff_iff, beq_iff_eq, decide_eq_true_eq]; omega)
  go_enter Tryz.func94, Tryz.ntmps94
  go_wp2
  go_ret
  refine ⟨?_, Below.refl _ _⟩
  rw [← HE.out]
  rfl
theorem alone_any (i : Nat) (w : World) : Calls Tryz.prog 55 #[.int .i64 (i : Int)] w fun e w' => e = .returned (.func (.func 94) #[] #[.pointer (some ⟨w.heap.size, 0, none⟩)]) ∧ w' = w.alloc (.cells #[.int .i64 (i : Int)] 3) := by
  go_enter Tryz.func55, Tryz.ntmps55
  go_wp2
  go_ret
  refine ⟨?_, ?_⟩
  · rfl
  · rfl
theorem goIn_any (l : List Int) (B : Nat) (A : Option Addr) (n c : Nat) (w : World) (hB : B < w.heap.size) (hc : w.cell? ⟨B, 0, none⟩ = some (.slice A n c)) (hr : KRow iκ w w.heap.size A n l) (hn : n ≤ 100000) (W : World) (k : Nat) (hb : Below w.heap.size w W) :
    Calls Tryz.prog 114 (#[.int .i64 (k : Int)] ++ #[.pointer (some ⟨B, 0, none⟩)]) W fun e w2 => e = .returned (.bool (l.contains (k : Int))) ∧ Below W.heap.size W w2 := by
  have hc' : W.cell? ⟨B, 0, none⟩ = some (.slice A n c) := (hb.cell (p := ⟨B, 0, none⟩) hB).trans hc
  have HI := Lib.hid (containsI_any (k : Int) A n c l W ((hr.below hb (Nat.le_refl _)).mono hb.size) hn)
  clear hr hb hn
  generalize l.contains (k : Int) = r at *
  show Calls Tryz.prog 114 #[_, _] W _
  go_enter Tryz.func114, Tryz.ntmps114
  go_wp2_with (go_at_call 74; refine HI.out.mono ?_; rintro e w' ⟨rfl, rfl⟩)
  go_ret
  exact ⟨rfl, Below.refl _ _⟩
set_option maxHeartbeats 800000 in
theorem goNode_any (l : List Tk) (u B B2 : Nat) (s : ByteArray) (a1 a2 a3 a5 : Value) (T : Option Addr) (nt ct : Nat) (w : World) (hB : Cel w B [.string s, a1, a2, a3, .slice T nt ct, a5]) (hB2 : B2 < w.heap.size) (hc2 : w.cell? ⟨B2, 0, none⟩ = some (.int .i64 (u : Int))) (hr : KRow Tk.κ w w.heap.size T nt l) (W : World) (k : Nat) (hk : k < l.length) (hb : Below w.heap.size w W) :
    Calls Tryz.prog 115 (#[.int .i64 (k : Int)] ++ #[.pointer (some ⟨B, 0, none⟩), .pointer (some ⟨B2, 0, none⟩)]) W fun e w2 => e = .returned (.bool (l[k]!.node == (u : Int))) ∧ Below W.heap.size W w2 := by
  obtain rfl : l.length = nt := hr.len (by decide)
  have hc' : W.cell? ⟨B2, 0, none⟩ = some (.int .i64 (u : Int)) := (hb.cell (p := ⟨B2, 0, none⟩) hB2).trans hc2
  have hrW := hr.below hb (Nat.le_refl _)
  obtain ⟨b0, off, rfl, _, _⟩ := hrW.2 (show 0 < l.length by omega)
  obtain ⟨t0, t1, t2, t3⟩ := tk_at hrW hk
  obtain ⟨⟨z0, z1, z2, z3, z4, z5⟩, _⟩ := six_facts (hB.below hb (Nat.le_refl _))
  have hk0 : (0 : Int) ≤ (k : Int) := by omega
  have hkI : (k : Int) < (l.length : Int) := by omega
  clear hr hb hrW hB
  generalize l[k]! = tk at *
  show Calls Tryz.prog 115 #[_, _, _] W _
  go_enter Tryz.func115, Tryz.ntmps115
  go_upto_region 1 with (fail)
  go_quiet (fail)
  go_wp2
  go_ret
  exact ⟨rfl, below_drewN (Below.refl _ _) _⟩
theorem GoesOut.mk' {b : Bd} {i u : Nat} {w w' : World} {g : Nat} {lb : Array Value} {G : Nat → Bool} (hG : ∀ k, k < b.toks.length → goes b i u k = G k) (eg : ∀ args W, (callFunc g args).run Tryz.prog W = .ok (.enter g args) W)
    (h : ∀ (W : World) (k : Nat), k < b.toks.length → Below w'.heap.size w' W → Calls Tryz.prog g (#[.int .i64 (k : Int)] ++ lb) W fun e w2 => e = .returned (.bool (G k)) ∧ Below W.heap.size W w2) (hb : Below w.heap.size w w') : GoesOut b i u w (.returned (.func (.func g) #[] lb)) w' :=
  ⟨⟨g, lb, rfl, eg, fun W k hk hW => by rw [hG k hk]; exact h W k hk hW⟩, hb⟩
set_option maxHeartbeats 6400000 in
set_option maxRecDepth 10000 in
theorem going_any (i u : Nat) (x : BdV) (b : Bd) (w : World) (hx : BdIn w w.heap.size x b) (hi : i < b.toks.length) (hiu : b.toks[i]!.node = (u : Int)) (hu : u < b.p.n) (hf : b.Few) (ha : Asc b.toks) :
    Calls Tryz.prog 98 #[x.val, .int .i64 (i : Int)] w (GoesOut b i u w) := by
  obtain ⟨i0, hi0, hz0, hz1, hz2⟩ := info_parts info_int
  have HC := Lib.hid (Cel.lit w x.list.toArray 38)
  have HX := Lib.hid hx
  have HB := Lib.hid ((Below.refl w.heap.size w).alloc (Nat.le_refl _) (.cells x.list.toArray 38))
  have HFB := Lib.hid (fun (W : World) (hb : Below w.heap.size w W) (f : Int) => firstBy_any (u : Int) f x b W (hx.on hb) ha hf.t)
  have hn := hx.hn
  have hm := hx.hm
  have ht := hx.ht
  have hf1 := hf.n
  have hf2 := hf.m
  have hf4 := hf.t
  clear hx hf ha
  obtain ⟨s, A, n, c, F, m, d, V, nv, cv, T, nt, ct, k⟩ := x
  unfold BdV.val at *
  unfold BdV.list at *
  dsimp only at *
  subst hn hm ht
  have HIN := Lib.hid (fun (W : World) (hb : Below w.heap.size w W) => ins_any A b.p.n c F b.p.m d b.p (u : Int) W ((HX.out.on hb).nodes) ((HX.out.on hb).flows) hf1 hf2)
  have hsn : b.p.name = s := HX.out.s.symm
  rw [hsn] at HIN
  clear hsn
  have hT := HX.out.toks.below HB.out (Nat.le_refl _)
  obtain ⟨b0, off, rfl, _, _⟩ := hT.2 (show 0 < b.toks.length by omega)
  obtain ⟨t0, t1, t2, t3⟩ := tk_at hT hi
  rw [hiu] at t1
  have hN := HX.out.nodes.below HB.out (Nat.le_refl _)
  obtain ⟨b1, off1, rfl, _, _⟩ := hN.2 (show 0 < b.p.n by omega)
  obtain ⟨n0, n1, n2, n3, n4, n5, n6, n7⟩ := nd_at hN hu
  have hi0' : (0 : Int) ≤ (i : Int) := by omega
  have hiI : (i : Int) < (b.toks.length : Int) := by omega
  have hu0 : (0 : Int) ≤ (u : Int) := by omega
  have huI : (u : Int) < (b.p.n : Int) := by omega
  have HT1 : Hid (∀ k, goes b i u k = if b.p.nodes[u]!.kind = 3 then true else if b.p.nodes[u]!.kind = 6 then ((insB b.p u).map fun (f : Nat) => fst (atB (u : Int) (f : Int)) b.toks).contains (k : Int) else if b.p.nodes[u]!.kind = 7 then b.toks[k]!.node == (u : Int) else decide (k = i)) := fun k => rfl
  clear hT hN n1 n2 n3 n4 n5 n6 n7 hiu
  generalize b.p.nodes[u]!.kind = kd at *
  go_enter Tryz.func98, Tryz.ntmps98
  go_upto_region 1 with (fail)
  generalize hwa : w.alloc _ = wa at *
  have hsz : wa.heap.size = w.heap.size + 1 := by rw [← hwa]; simp
  obtain ⟨⟨z0, z1, z2, z3, z4, z5⟩, _⟩ := six_facts HC.out
  have hbv : Below wa.heap.size wa (wa.alloc (.cells #[.int .i64 (u : Int)] 3)) := (Below.refl _ _).alloc (Nat.le_refl _) _
  have HV := Lib.hid (Cel.lit wa #[.int .i64 (u : Int)] 3)
  have HCv := Lib.hid (HC.out.below hbv (Nat.le_refl _))
  have HBv := Lib.hid (HB.out.trans (hbv.mono HB.out.size))
  have n0' := below_cells hbv n0
  clear hbv hwa hsz HC HB
  go_upto_region 2 with (fail)
  generalize hq : wa.heap.size = qv at *
  generalize wa.alloc _ = wv at *
  clear z0 z1 z2 z3 z4 z5 t0 t1 t2 t3 n0 hq
  obtain ⟨⟨z0, z1, z2, z3, z4, z5⟩, _⟩ := six_facts HCv.out
  have v0 := HV.out.cell 0 _ rfl
  have hvl := HV.out.lt
  by_cases h3 : kd = 3
  · subst h3
    have hG : ∀ k, k < b.toks.length → goes b i u k = true := fun k _ => by rw [HT1.out, if_pos rfl]
    have HG := Lib.hid hG
    clear hG
    go_wp2
    go_ret
    exact GoesOut.mk' HG.out (enters_of Tryz.func113 (by kernel_rfl) rfl) (fun W k _ _ => goAll_any k W) HBv.out
  have h3B : (kd == 3) = false := by rw [beq_eq_false_iff_ne]; exact h3
  by_cases h6 : kd = 6
  · subst h6
    have hG : ∀ k, k < b.toks.length → goes b i u k = ((insB b.p u).map fun (f : Nat) => fst (atB (u : Int) (f : Int)) b.toks).contains (k : Int) := fun k _ => by rw [HT1.out, if_neg (by decide), if_pos rfl]
    have HG := Lib.hid hG
    have hbf : Below wv.heap.size wv (wv.alloc (.cells #[.slice none 0 0] 22)) := (Below.refl _ _).alloc (Nat.le_refl _) _
    have HFC := Lib.hid (Cel.lit wv #[.slice none 0 0] 22)
    have HCf := Lib.hid (HCv.out.below hbf (Nat.le_refl _))
    have HVf := Lib.hid (HV.out.below hbf (Nat.le_refl _))
    have HBf := Lib.hid (HBv.out.trans (hbf.mono HBv.out.size))
    have HI6 := Lib.hid (HIN.out _ HBf.out)
    clear hG h3 HIN hbf
    go_upto_region 7 with (fail)
    generalize hqf : wv.heap.size = qf at *
    generalize wv.alloc _ = wf at *
    clear z0 z1 z2 z3 z4 z5 v0 n0'
    obtain ⟨⟨z0, z1, z2, z3, z4, z5⟩, _⟩ := six_facts HCf.out
    have v0 := HVf.out.cell 0 _ rfl
    go_wp2_with (go_at_call 50; refine HI6.out.mono ?_; rintro e w5 ⟨⟨X, ki, ci, rfl, hoy⟩, hb5⟩)
    obtain rfl : (insB b.p u).length = ki := by simpa using hoy.len
    have hil : (insB b.p u).length ≤ 100000 := Nat.le_trans (by unfold insB; exact Nat.le_trans (List.length_filter_le _ _) (by simp)) hf2
    have HOY := Lib.hid hoy.row
    have HXB := Lib.hid (fun a ha => (hoy.block (a := a) ha).1)
    have hwf : w.heap.size < qf := by have := HCv.out.lt; omega
    have hff : qf < wf.heap.size := HFC.out.lt
    have HB5 := Lib.hid (HBf.out.trans (hb5.mono HBf.out.size))
    have HF5 := Lib.hid (HFC.out.below hb5 (Nat.le_refl _))
    have HC5 := Lib.hid (HCf.out.below hb5 (Nat.le_refl _))
    have HV5 := Lib.hid (HVf.out.below hb5 (Nat.le_refl _))
    have hql : qf < w5.heap.size := HF5.out.lt
    have hwq : w.heap.size ≤ qf := by have := HBv.out.size; omega
    clear hoy hb5 z0 z1 z2 z3 z4 z5 v0 HI6
    generalize insB b.p u = ins at *
    go_loopw [31] (fun i wr => ∃ (j : Nat) (Y : Option Addr) (cc : Nat), j ≤ ins.length ∧ i = .int .i64 j ∧ Cel wr qf [.slice Y j cc] ∧ OwnK iκ wr w5.heap.size 3 Y j cc ((ins.take j).map fun (f : Nat) => fst (atB (u : Int) (f : Int)) b.toks) ∧ w5.grownBy wr (some qf) ∧ Below w.heap.size w wr) (fun i _ => ins.length - (intOf i).toNat)
    case atStart => exact ⟨0, none, 0, Nat.zero_le _, rfl, HF5.out, ⟨by decide, World.ownsRow_nil _ _ _ _⟩, World.grownBy.refl _ _, HB5.out⟩
    case round =>
      obtain ⟨j, Y, cc, hj, rfl, hc, how, hgr, hbr⟩ := hrel
      have hj0 : (0 : Int) ≤ (j : Int) := by omega
      by_cases hlt : j < ins.length
      · have hI : (j : Int) < (ins.length : Int) := by omega
        have hRw : KRow iκ wr wr.heap.size X ins.length (ins.map Int.ofNat) := rowS_kept HOY.out hgr (fun _ a ha e => by have h1 := HXB.out a ha; have h2 : qf = a.block := Option.some.inj e; omega)
        obtain ⟨b2, off2, rfl, _, _⟩ := hRw.2 (show 0 < ins.length by omega)
        have g1 := iκ_cells hRw hlt
        have hgt : (ins.map Int.ofNat)[j]! = (ins[j]! : Int) := by
          rw [getElem!_pos (ins.map Int.ofNat) j (by simpa using hlt), getElem!_pos ins j hlt]; simp
        rw [hgt] at g1
        have HTK : Hid (ins.take (j + 1) = ins.take j ++ [ins[j]!]) := Lib.hid (by rw [List.take_add_one, List.getElem?_eq_getElem hlt, getElem!_pos ins j hlt]; rfl)
        clear hgt hRw
        generalize ins[j]! = f at *
        have hbd : Below wr.heap.size wr wr.drew := (Below.refl _ _).drew
        have HGR := Lib.hid hgr
        have HBR := Lib.hid hbr
        have HOW := Lib.hid how
        have HCr := Lib.hid hc
        have HBo := Lib.hid (HC5.out.kept hgr (fun e => by have h2 : qf = w.heap.size := Option.some.inj e; omega))
        have HVo := Lib.hid (HV5.out.kept hgr (fun e => by have h2 : qf = qv := Option.some.inj e; omega))
        have HFB1 := Lib.hid (HFB.out wr.drew (hbr.trans (hbd.mono hbr.size)) (f : Int))
        obtain ⟨⟨z0, z1, z2, z3, z4, z5⟩, _⟩ := six_facts HBo.out
        obtain ⟨⟨d0, d1, d2, d3, d4, d5⟩, _⟩ := six_facts (HBo.out.below hbd (Nat.le_refl _))
        have v0 := HVo.out.cell 0 _ rfl
        have v1 := (HVo.out.below hbd (Nat.le_refl _)).cell 0 _ rfl
        have c0 := hc.cell 0 _ rfl
        have c1 := (hc.below hbd (Nat.le_refl _)).cell 0 _ rfl
        have hjl : j ≤ 1000000 := by omega
        clear hgr hbr how hc hbd
        generalize hyy : fst (atB (u : Int) (f : Int)) b.toks = y at *
        have HYY := Lib.hid hyy
        clear hyy
        go_upto_region 10 with (fail)
        go_region_law (first
          | (refine step_append_k (κ := iκ) rfl (.tmp 35) (.tmp 40) 22 3 i0 _ 8 Tryz.underlying22 hi0 hz0 hz1 hz2 rfl rfl _ w5.heap.size _ Y j cc _ ⟨wC.heap.size, 0, none⟩ y rfl HOC.out rfl HRC.out hjl (by decide) hbaseC ?_; intro Y' cc' w' ho hg; have hcw := HQC.out _ _ hg; have m0 := hcw.cell 0 _ rfl; have m1 := hcw.froz 0 (by simp); clear hcw)
          | (go_simp; go_at_call 90; refine HFB1.out.mono ?_; rintro e wC ⟨rfl, hbC⟩; have hbCw : Below wr.heap.size wr wC := ((Below.refl wr.heap.size wr).drew).trans hbC; have hbl : Below wC.heap.size wC (wC.alloc (.cells #[.int .i64 y] 3)) := (Below.refl _ _).alloc (Nat.le_refl _) _; have HBC := Lib.hid (hbCw.trans (hbl.mono hbCw.size)); have HOC := Lib.hid (HOW.out.below HBC.out (Nat.le_refl _)); have HRC : Hid (KRow iκ (wC.alloc (.cells #[.int .i64 y] 3)) (wC.heap.size + 1) (some ⟨wC.heap.size, 0, none⟩) 1 [y]) := Lib.hid (KRow.lit (κ := iκ) wC 3 [y] #[.int .i64 y] rfl); have hbaseC : w5.heap.size ≤ (wC.alloc (.cells #[.int .i64 y] 3)).heap.size := Nat.le_trans HGR.out.size HBC.out.size; have HQC := Lib.hid (fun (v : Value) (w' : World) (hg : Grew (wC.alloc (.cells #[.int .i64 y] 3)) w' (.slice Y j cc) v) => (HCr.out.below HBC.out (Nat.le_refl _)).kept hg.grown (fun e => by obtain ⟨a', h1, h2⟩ := blk_of e; have := (HOC.out.block h1).1; omega)); have cC := (HCr.out.below hbCw (Nat.le_refl _)).cell 0 _ rfl; have qC : qf < wC.heap.size := Nat.lt_of_lt_of_le HCr.out.lt hbCw.size; have qC' : ¬ qf = wC.heap.size := (by omega); clear hbC hbCw hbl))
        all_goals
          have hsl : (w'.setCell ⟨qf, 0, none⟩ (.slice Y' (j + 1) cc')).heap.size = w'.heap.size := by simp
          have HS1 := Lib.hid ((HQC.out _ _ hg).set (i := 0) (by simp) (.slice Y' (j + 1) cc'))
          have HS2 := Lib.hid (own_set (i := 0) ho hql (.slice Y' (j + 1) cc'))
          have HS3 := Lib.hid (set_grown (grown_low (grown_low HGR.out HBC.out HGR.out.size) (hg.below HOC.out.2 hbaseC) (Nat.le_refl _)) 0 (.slice Y' (j + 1) cc'))
          have HS4 := Lib.hid (((HBR.out.trans (HBC.out.mono HBR.out.size)).trans ((hg.below HOC.out.2 hbaseC).mono HB5.out.size)).setCell (p := ⟨qf, 0, none⟩) hwq (.slice Y' (j + 1) cc'))
          clear hg ho m0 m1 cC qC qC' hsl hbaseC z0 z1 z2 z3 z4 z5 d0 d1 d2 d3 d4 d5 v0 v1 c0 c1
          go_wp2_with fail
          go_roundw
          case measure => simp [intOf]; omega
          case rel => exact ⟨j + 1, Y', cc', by omega, by go_num, HS1.out, by rw [HTK.out, List.map_append, List.map_cons, List.map_nil, HYY.out]; exact HS2.out, HS3.out, HS4.out⟩
      · obtain rfl : j = ins.length := by omega
        have hI : ¬ ((ins.length : Int) < (ins.length : Int)) := by omega
        rw [List.take_length] at how
        have HOW := Lib.hid how
        have HCW := Lib.hid hc
        have HBR := Lib.hid hbr
        clear how hc hbr hgr
        go_wp2
        go_ret
        exact GoesOut.mk' HG.out (enters_of Tryz.func114 (by kernel_rfl) rfl) (fun W k _ hW => goIn_any _ qf Y ins.length cc wr HCW.out.lt (HCW.out.cell 0 _ rfl) HOW.out.row hil W k hW) HBR.out
  have h6B : (kd == 6) = false := by rw [beq_eq_false_iff_ne]; exact h6
  by_cases h7 : kd = 7
  · subst h7
    have hG : ∀ k, k < b.toks.length → goes b i u k = (b.toks[k]!.node == (u : Int)) := fun k _ => by rw [HT1.out, if_neg h3, if_neg h6, if_pos rfl]
    have HG := Lib.hid hG
    clear hG h3 h6
    go_wp2
    go_ret
    exact GoesOut.mk' HG.out (enters_of Tryz.func115 (by kernel_rfl) rfl) (fun W k hk hW => goNode_any b.toks u _ qv s _ _ _ _ _ _ ct wv HCv.out hvl v0 ((HX.out.toks.below HBv.out (Nat.le_refl _)).mono HBv.out.size) W k hk hW) HBv.out
  have h7B : (kd == 7) = false := by rw [beq_eq_false_iff_ne]; exact h7
  have hG : ∀ k, k < b.toks.length → goes b i u k = decide (k = i) := fun k _ => by rw [HT1.out, if_neg h3, if_neg h6, if_neg h7]
  have HG := Lib.hid hG
  have HAL := Lib.hid (alone_any i wv)
  clear hG h3 h6 h7
  go_wp2_with (go_at_call 55; refine HAL.out.mono ?_; rintro e w' ⟨rfl, rfl⟩)
  go_ret
  have hbA : Below wv.heap.size wv (wv.alloc (.cells #[.int .i64 (i : Int)] 3)) := (Below.refl _ _).alloc (Nat.le_refl _) _
  exact GoesOut.mk' HG.out (enters_of Tryz.func94 (by kernel_rfl) rfl) (fun W k hk hW => goAlone_any i wv.heap.size _ (by simp) (by simp [go_sem]) W k hW) (HBv.out.trans (hbA.mono HBv.out.size))
end Pr
end Go.Proofs.YtkffnfgdmcebdaaGreatDoor
