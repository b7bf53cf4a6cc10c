/- Package token: Along. Package slices: IndexFunc over tokens. Package flow: the token of an ID goes along a flow. -/
import Derived.Test.YtkffnfgdmcebdaaGreatDoorYJoint18
import Derived.Deep.RegionLaw
import Derived.Deep.LoopGhost
import Derived.Test.YtkffnfgdmcebdaaGreatDoorZjY
namespace Go.Proofs.YtkffnfgdmcebdaaGreatDoor
open Go.RowKit

namespace Pr
theorem moved_alone (at_ f : Nat) (x : BdV) (b : Bd) (w : World) (hx : BdIn w w.heap.size x b) (hf : b.Few) (ho : f < b.p.m) (W : World) (hb : Below w.heap.size w W) (B : Nat) (hB : B < W.heap.size) (hc : W.cell? ⟨B, 0, none⟩ = some (.int .i64 (at_ : Int))) (X : Nat) (hr : KRow iκ W W.heap.size (some ⟨X, 0, none⟩) 1 [(f : Int)]) :
    Calls Tryz.prog 54 #[x.val, .func (.func 94) #[] #[.pointer (some ⟨B, 0, none⟩)], .slice (some ⟨X, 0, none⟩) 1 1] W fun e w' => (∃ y, e = .returned y.val ∧ BdOwn w' W.heap.size y (along b at_ f)) ∧ Below W.heap.size W w' :=
  moved_any 94 #[.pointer (some ⟨B, 0, none⟩)] (fun k => decide (k = at_)) x b W (enters_of Tryz.func94 (by kernel_rfl) rfl) (hx.on hb) hf (fun W' k _ hW => goAlone_any at_ B W hB hc W' k hW) (some ⟨X, 0, none⟩) 1 1 [f] hr (fun g hg => by obtain rfl := List.mem_singleton.1 hg; exact ho) (by decide)
set_option maxHeartbeats 400000 in
set_option maxRecDepth 10000 in
theorem along_any (at_ f : Nat) (x : BdV) (b : Bd) (w : World) (hx : BdIn w w.heap.size x b) (hf : b.Few) (ha : at_ < b.toks.length) (ho : f < b.p.m) :
    Calls Tryz.prog 17 #[x.val, .int .i64 (at_ : Int), .int .i64 (f : Int)] w fun e w' => (∃ y : BdV, e = .returned (.tuple #[y.val, .nilIface]) ∧ BdOwn w' w.heap.size y (along b at_ f)) ∧ Below w.heap.size w w' := by
  have HP := Lib.hid (Cp.lit w x.list 38)
  have HMV := Lib.hid (moved_alone at_ f x b w hx hf ho)
  have hm := hx.hm
  have ht := hx.ht
  clear hx hf
  obtain ⟨s, A, n, c, F, m, d, V, nv, cv, T, nt, ct, k⟩ := x
  unfold BdV.val at *
  unfold BdV.list at *
  dsimp only at *
  subst hm ht
  have d0 : (decide ((0 : Int) ≤ (at_ : Int)) && decide ((at_ : Int) < (b.toks.length : Int))) = true := by simp; omega
  have d1 : (decide ((0 : Int) ≤ (f : Int)) && decide ((f : Int) < (b.p.m : Int))) = true := by simp; omega
  clear ha ho
  go_enter Tryz.func17, Tryz.ntmps17
  go_upto_region 1 with (fail)
  unfold zeroB at HP
  generalize (w.alloc _).alloc _ = wa at *
  obtain ⟨⟨z0, z1, z2, z3, z4, z5⟩, _⟩ := six_facts HP.out.box
  go_upto_region 3 with (go_at_call 49; refine (tplace_any _ _ _).mono ?_; rintro e w' ⟨rfl, rfl⟩; first | rw [d0] | rw [d1])
  have hA := HP.out.bel
  have ha1 : Below wa.heap.size wa ((wa.alloc (.cells #[.int .i64 (at_ : Int)] 3)).alloc (.cells #[.int .i64 (f : Int)] 3)).drew := (((Below.refl wa.heap.size wa).alloc (Nat.le_refl _) _).alloc (by simp) _).drew
  have ha2 : Below wa.heap.size wa ((wa.alloc (.cells #[.int .i64 (f : Int)] 3)).alloc (.cells #[.int .i64 (at_ : Int)] 3)).drew := (((Below.refl wa.heap.size wa).alloc (Nat.le_refl _) _).alloc (by simp) _).drew
  have s1 : (wa.alloc (.cells #[.int .i64 (at_ : Int)] 3)).heap.size = wa.heap.size + 1 := by simp
  have s2 : (wa.alloc (.cells #[.int .i64 (f : Int)] 3)).heap.size = wa.heap.size + 1 := by simp
  have c1 := ((Cel.lit wa #[.int .i64 (at_ : Int)] 3).alloc (.cells #[.int .i64 (f : Int)] 3)).below (Below.refl _ _).drew (Nat.le_refl _)
  have c2 := (Cel.lit (wa.alloc (.cells #[.int .i64 (f : Int)] 3)) #[.int .i64 (at_ : Int)] 3).below (Below.refl _ _).drew (Nat.le_refl _)
  rw [s2] at c2
  have r1 := KRow.lit (κ := iκ) (wa.alloc (.cells #[.int .i64 (at_ : Int)] 3)) 3 [(f : Int)] #[.int .i64 (f : Int)] rfl
  rw [s1] at r1
  have r1' : KRow iκ ((wa.alloc (.cells #[.int .i64 (at_ : Int)] 3)).alloc (.cells #[.int .i64 (f : Int)] 3)).drew (wa.heap.size + 1 + 1) (some ⟨wa.heap.size + 1, 0, none⟩) 1 [(f : Int)] := r1
  have r2 := (KRow.lit (κ := iκ) wa 3 [(f : Int)] #[.int .i64 (f : Int)] rfl).below (b0 := (wa.alloc (.cells #[.int .i64 (f : Int)] 3)).heap.size) ((Below.refl _ _).alloc (Nat.le_refl _) (.cells #[.int .i64 (at_ : Int)] 3)) (by rw [s2]; exact Nat.le_refl _)
  have r2' : KRow iκ ((wa.alloc (.cells #[.int .i64 (f : Int)] 3)).alloc (.cells #[.int .i64 (at_ : Int)] 3)).drew (wa.heap.size + 1) (some ⟨wa.heap.size, 0, none⟩) 1 [(f : Int)] := r2
  have H1 := Lib.hid (HMV.out _ (hA.trans (ha1.mono hA.size)) wa.heap.size c1.lt (c1.cell 0 _ rfl) (wa.heap.size + 1) (r1'.mono (by simp)))
  have H2 := Lib.hid (HMV.out _ (hA.trans (ha2.mono hA.size)) (wa.heap.size + 1) c2.lt (c2.cell 0 _ rfl) wa.heap.size (r2'.mono (by simp)))
  have HA1 := Lib.hid ha1
  have HA2 := Lib.hid ha2
  have ha3 : Below wa.heap.size wa (wa.alloc (.cells #[.int .i64 (at_ : Int)] 3)).drew := ((Below.refl wa.heap.size wa).alloc (Nat.le_refl _) _).drew
  have ha4 : Below wa.heap.size wa (wa.alloc (.cells #[.int .i64 (f : Int)] 3)).drew := ((Below.refl wa.heap.size wa).alloc (Nat.le_refl _) _).drew
  obtain ⟨⟨y0, y1, y2, y3, y4, y5⟩, _⟩ := six_facts (HP.out.box.below ha1 (Nat.le_refl _))
  obtain ⟨⟨x0, x1, x2, x3, x4, x5⟩, _⟩ := six_facts (HP.out.box.below ha2 (Nat.le_refl _))
  obtain ⟨⟨v0, v1, v2, v3, v4, v5⟩, _⟩ := six_facts (HP.out.box.below ha3 (Nat.le_refl _))
  obtain ⟨⟨q0, q1, q2, q3, q4, q5⟩, _⟩ := six_facts (HP.out.box.below ha4 (Nat.le_refl _))
  obtain ⟨⟨p0, p1, p2, p3, p4, p5⟩, _⟩ := six_facts (HP.out.box.below ((Below.refl wa.heap.size wa).drew) (Nat.le_refl _))
  clear d0 d1 hA ha1 ha2 ha3 ha4 s1 s2 c1 c2 r1 r2 r1' r2'
  go_region_law (first
    | (go_simp; go_at_call 55; refine (alone_any _ _).mono ?_; rintro e w4 ⟨rfl, rfl⟩)
    | (go_simp; go_at_call 54; first
        | (with_reducible refine H1.out.mono ?_; rintro e w5 ⟨⟨y, rfl, hO⟩, hb5⟩; have HB5 := Lib.hid (HA1.out.trans (hb5.mono HA1.out.size)); have HO5 := Lib.hid (hO.lower (B' := wa.heap.size) HA1.out.size); have HZ5 := Lib.hid (HP.out.res.below HB5.out (Nat.le_refl _)); have hzl := HZ5.out.lt; obtain ⟨⟨g0, g1, g2, g3, g4, g5⟩, u0, u1, u2, u3, u4, u5⟩ := six_facts HZ5.out; clear hO hb5)
        | (with_reducible refine H2.out.mono ?_; rintro e w5 ⟨⟨y, rfl, hO⟩, hb5⟩; have HB5 := Lib.hid (HA2.out.trans (hb5.mono HA2.out.size)); have HO5 := Lib.hid (hO.lower (B' := wa.heap.size) HA2.out.size); have HZ5 := Lib.hid (HP.out.res.below HB5.out (Nat.le_refl _)); have hzl := HZ5.out.lt; obtain ⟨⟨g0, g1, g2, g3, g4, g5⟩, u0, u1, u2, u3, u4, u5⟩ := six_facts HZ5.out; clear hO hb5)))
  all_goals
    have HOF := Lib.hid ((HO5.out.grown (by have := HP.out.zB; have := HP.out.B1; omega) (six_grown w5 (w.heap.size + 1) y)).lower (B' := w.heap.size) HP.out.bel.size)
    have HBF := Lib.hid (six_below (HP.out.bel.trans (HB5.out.mono HP.out.bel.size)) (by omega) (z := w.heap.size + 1) y)
    have HCF := Lib.hid (six_cel HZ5.out y)
    clear g0 g1 g2 g3 g4 g5 u0 u1 u2 u3 u4 u5 z0 z1 z2 z3 z4 z5 y0 y1 y2 y3 y4 y5 x0 x1 x2 x3 x4 x5 v0 v1 v2 v3 v4 v5 q0 q1 q2 q3 q4 q5 p0 p1 p2 p3 p4 p5
    go_wp2
    change bodyPost _ _ _ _ _ (six w5 (w.heap.size + 1) y)
    generalize six w5 _ _ = wf at *
    obtain ⟨⟨j0, j1, j2, j3, j4, j5⟩, _⟩ := six_facts HCF.out
    exact bodyPost_ret (v := .tuple #[y.val, .nilIface]) (by simp [results, Tryz.results17, go_sem, j0, j1, j2, j3, j4, j5, BdV.val]) rfl ⟨⟨y, rfl, HOF.out⟩, HBF.out⟩
end Pr
end Go.Proofs.YtkffnfgdmcebdaaGreatDoor
namespace Go.Proofs.YtkffnfgdmcebdaaGreatDoor
open Go.RowKit

namespace Pr
/-- The place of the first token that is so; -1: there is none. -/
def tidx (p : Tk → Bool) (l : List Tk) : Int := match l.findIdx? p with
  | some k => k
  | none => -1
theorem tidx_eq (p : Tk → Bool) (l : List Tk) : tidx p l = fst p l := rfl
set_option maxHeartbeats 1600000 in
theorem tkidx_any (g : Nat) (lb : Array Value) (p : Tk → Bool) (w : World) (eg : ∀ args w, (callFunc g args).run Tryz.prog w = .ok (.enter g args) w) (A : Option Addr) (n c : Nat) (l : List Tk)
    (hp : ∀ (W : World) (t : Tk), Below w.heap.size w W → Calls Tryz.prog g (#[t.val] ++ lb) W fun e w' => e = .returned (.bool (p t)) ∧ Below W.heap.size W w') (hr : KRow Tk.κ w w.heap.size A n l) (hn : n ≤ 100000) :
    Calls Tryz.prog 71 #[.slice A n c, .func (.func g) #[] lb] w fun e w' => e = .returned (.int .i64 (fst p l)) ∧ Below w.heap.size w w' := by
  have HL := Lib.hid (hr.len (by decide))
  have HR := Lib.hid hr
  have HP := Lib.hid hp
  clear hr hp
  go_enter Tryz.func71, Tryz.ntmps71
  go_wp2
  go_loopw [8] (fun i wr => ∃ k : Nat, k ≤ n ∧ i = .int .i64 k ∧ Below w.heap.size w wr ∧ Hid (∀ j, j < k → p l[j]! = false)) (fun i _ => n - (intOf i).toNat)
  case atStart => exact ⟨0, Nat.zero_le _, rfl, Below.refl _ _, Lib.hid fun j h => absurd h (Nat.not_lt_zero j)⟩
  case round =>
    obtain ⟨k, hk, rfl, hbw, hall⟩ := hrel
    have HBW := Lib.hid hbw
    by_cases hkn : k < n
    · have hkI : (k : Int) < (n : Int) := by omega
      have hT := HR.out.below hbw (Nat.le_refl _)
      obtain ⟨b, off, rfl, _, _⟩ := hT.2 (show 0 < n by omega)
      obtain ⟨c0, c1, c2, c3⟩ := tk_at hT hkn
      have hcall := HP.out wr l[k]! hbw
      have HH := Lib.hid (@fst_hit p l k (by rw [HL.out]; exact hkn))
      have hwk : IntKind.i64.wrap ((k : Int) + 1) = (k : Int) + 1 := by rw [IntKind.wrap_i64]; omega
      obtain ⟨z, hz⟩ : ∃ z, z = l[k]! := ⟨_, rfl⟩
      have HPE := Lib.hid (congrArg p hz.symm)
      rw [← hz] at hcall c0 c1 c2 c3 HH
      clear hz hT hbw
      obtain ⟨tid, tnode, tinn, tst⟩ := z
      unfold Tk.val at hcall
      dsimp only at *
      have HC := Lib.hid hcall
      clear hcall
      cases hq : p ⟨tid, tnode, tinn, tst⟩ with
      | true =>
        rw [hq] at HC
        have HQ := Lib.hid hq
        clear hq HPE
        go_wp2_with (go_at_fn g; refine HC.out.mono ?_; rintro e w' ⟨rfl, hb'⟩; have HB' := Lib.hid hb'; clear hb')
        go_ret
        refine ⟨?_, HBW.out.trans (HB'.out.mono HBW.out.size)⟩
        rw [HH.out HQ.out hall.out]
        rfl
      | false =>
        rw [hq] at HC
        have HQ : Hid (p l[k]! = false) := Lib.hid (HPE.out.trans hq)
        clear hq HPE
        go_wp2_with (go_at_fn g; refine HC.out.mono ?_; rintro e w' ⟨rfl, hb'⟩; have HB' := Lib.hid hb'; clear hb')
        go_roundw
        case measure => simp [intOf]; omega
        case rel =>
          refine ⟨k + 1, by omega, by go_num, HBW.out.trans (HB'.out.mono HBW.out.size), Lib.hid fun j hj => ?_⟩
          by_cases e : j = k
          · subst e; exact HQ.out
          · exact hall.out j (by omega)
    · have hkI : ¬ (k : Int) < (n : Int) := by omega
      have : k = n := by omega
      subst this
      go_wp2
      go_ret
      refine ⟨?_, HBW.out⟩
      rw [fst_miss (by rw [HL.out]; exact hall.out)]
      rfl
set_option maxHeartbeats 800000 in
theorem goFn_any (id : Int) (B : Nat) (w : World) (hB : B < w.heap.size) (hc : w.cell? ⟨B, 0, none⟩ = some (.int .i64 id)) (W : World) (t : Tk) (hb : Below w.heap.size w W) :
    Calls Tryz.prog 72 (#[t.val] ++ #[.pointer (some ⟨B, 0, none⟩)]) W fun e w2 => e = .returned (.bool (t.id == id)) ∧ Below W.heap.size W w2 := by
  have hc' : W.cell? ⟨B, 0, none⟩ = some (.int .i64 id) := (hb.cell (p := ⟨B, 0, none⟩) hB).trans hc
  have hne : B ≠ W.heap.size := by have := hb.size; omega
  obtain ⟨tid, tnode, tinn, tst⟩ := t
  have hba : Below W.heap.size W (W.alloc (.cells #[.int .i64 tid, .int .i64 tnode, .int .i64 tinn, .bool tst] 35)) := (Below.refl _ _).alloc (Nat.le_refl _) _
  have HBX := Lib.hid (Cel.lit W #[.int .i64 tid, .int .i64 tnode, .int .i64 tinn, .bool tst] 35)
  have HBA := Lib.hid hba
  have hc2 := below_cells hba hc'
  unfold Tk.val
  dsimp only at *
  clear hc hb hba hc'
  show Calls Tryz.prog 72 #[_, _] W _
  go_enter Tryz.func72, Tryz.ntmps72
  go_upto_region 1 with (fail)
  generalize W.alloc _ = W1 at *
  obtain ⟨t0, t1, t2, t3⟩ := qd_facts HBX.out
  go_wp2
  go_ret
  exact ⟨rfl, HBA.out⟩
end Pr
end Go.Proofs.YtkffnfgdmcebdaaGreatDoor
