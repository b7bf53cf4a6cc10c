/- Package flow: which tokens wait, which are stuck. -/
import Derived.Test.YtkffnfgdmcebdaaGreatDoorYJoint15
import Derived.BigQuiet
namespace Go.Proofs.YtkffnfgdmcebdaaGreatDoor
open Go.RowKit

namespace Pr
set_option maxHeartbeats 3200000 in
set_option maxRecDepth 10000 in
theorem atwork_any (q : Nat) (x : BdV) (r : Rn) (t : Tk) (w : World) (h : RnC w q x r) :
    Calls Tryz.prog 73 #[.pointer (some ⟨q, 0, none⟩), t.val] w fun e w' => e = .returned (.bool (atW r.b.p t)) ∧ Below w.heap.size w w' := by
  obtain ⟨b, mv, fl⟩ := r
  obtain ⟨tid, tnode, tinn, tst⟩ := t
  dsimp only at *
  have en := h.inn.hn
  have HC := Lib.hid h.cel
  have HIN := Lib.hid h.inn
  clear h
  obtain ⟨s, A, n, c, F, m, d, V, nv, cv, T, nt, ct, kx⟩ := x
  unfold Tk.val
  dsimp only [rnL] at *
  subst en
  have HBX := Lib.hid (Cel.lit w #[.int .i64 tid, .int .i64 tnode, .int .i64 tinn, .bool tst] 35)
  have hba : Below w.heap.size w (w.alloc (.cells #[.int .i64 tid, .int .i64 tnode, .int .i64 tinn, .bool tst] 35)) := (Below.refl _ _).alloc (Nat.le_refl _) _
  have HBA := Lib.hid hba
  have HC1 : Hid (Cel (w.alloc (.cells #[.int .i64 tid, .int .i64 tnode, .int .i64 tinn, .bool tst] 35)) q [.string s, .slice A b.p.n c, .slice F m d, .slice V nv cv, .slice T nt ct, .int .i64 kx, .int .i64 (mv : Int), .string fl]) := Lib.hid (HC.out.below hba (Nat.le_refl _))
  have HN1 := Lib.hid (HIN.out.nodes.below hba (Nat.le_refl _))
  clear hba HC HIN
  go_enter Tryz.func73, Tryz.ntmps73
  go_upto_region 1 with (fail)
  generalize w.alloc _ = w1 at *
  obtain ⟨⟨z0, z1, z2, z3, z4, z5, z6, z7⟩, _⟩ := eight_facts HC1.out
  obtain ⟨t0, t1, t2, t3⟩ := qd_facts HBX.out
  by_cases h0 : 0 ≤ tnode
  · have d0 : decide (0 ≤ tnode) = true := decide_eq_true h0
    by_cases h1 : tnode < (b.p.n : Int)
    · have d1 : decide (tnode < (b.p.n : Int)) = true := decide_eq_true h1
      obtain ⟨u, rfl⟩ : ∃ u : Nat, tnode = (u : Int) := ⟨tnode.toNat, by omega⟩
      have hu : u < b.p.n := by omega
      obtain ⟨b1, off1, rfl, _, _⟩ := HN1.out.2 (show 0 < b.p.n by omega)
      obtain ⟨n0, n1, n2, n3, n4, n5, n6, n7⟩ := nd_at HN1.out hu
      have HW : Hid (atW b.p ⟨tid, (u : Int), tinn, tst⟩ = (b.p.nodes[u]!.kind == 4)) := Lib.hid (by unfold atW; dsimp only; rw [d0, d1, Int.toNat_natCast]; rfl)
      generalize b.p.nodes[u]! = nd at *
      obtain ⟨kd, tp, pr, rt, df, co, ca, tg⟩ := nd
      dsimp only at *
      go_quiet (fail)
      go_wp2_with fail
      go_ret
      refine ⟨?_, below_drewN HBA.out _⟩
      rw [HW.out]
      rfl
    · have d1 : decide (tnode < (b.p.n : Int)) = false := decide_eq_false h1
      have HW : Hid (atW b.p ⟨tid, tnode, tinn, tst⟩ = false) := Lib.hid (by unfold atW; dsimp only; rw [d0, d1]; rfl)
      clear h1
      go_quiet (fail)
      go_wp2_with fail
      go_ret
      refine ⟨?_, below_drewN HBA.out _⟩
      rw [HW.out]
      rfl
  · have d0 : decide (0 ≤ tnode) = false := decide_eq_false h0
    have HW : Hid (atW b.p ⟨tid, tnode, tinn, tst⟩ = false) := Lib.hid (by unfold atW; dsimp only; rw [d0]; rfl)
    clear h0
    go_quiet (fail)
    go_wp2_with fail
    go_ret
    refine ⟨?_, below_drewN HBA.out _⟩
    rw [HW.out]
    rfl
theorem filter_take {l : List Tk} {j : Nat} (P : Tk → Bool) (hj : j < l.length) : (l.take (j + 1)).filter P = (l.take j).filter P ++ (if P l[j]! = true then [l[j]!] else []) := by
  rw [List.take_add_one, List.getElem?_eq_getElem hj, getElem!_pos l j hj, List.filter_append]
  show _ ++ List.filter P [l[j]] = _
  rw [List.filter_cons, List.filter_nil]
set_option maxHeartbeats 6400000 in
set_option maxRecDepth 10000 in
theorem fthose_any (g : Nat) (lb : Array Value) (P : Tk → Bool) (q : Nat) (x : BdV) (r : Rn) (w : World) (eg : ∀ args w, (callFunc g args).run Tryz.prog w = .ok (.enter g args) w) (h : RnC w q x r) (hn : r.b.toks.length ≤ 100000)
    (hp : ∀ (W : World) (t : Tk), Below w.heap.size w W → Calls Tryz.prog g (#[t.val] ++ lb) W fun e w2 => e = .returned (.bool (P t)) ∧ Below W.heap.size W w2) :
    Calls Tryz.prog 81 #[.pointer (some ⟨q, 0, none⟩), .func (.func g) #[] lb] w fun e w' => (∃ (Y : Option Addr) (cc : Nat), e = .returned (.slice Y (r.b.toks.filter P).length cc) ∧ OwnK Tk.κ w' w.heap.size 35 Y (r.b.toks.filter P).length cc (r.b.toks.filter P)) ∧ Below w.heap.size w w' := by
  obtain ⟨i0, hi0, hz0, hz1, hz2⟩ := info_parts info_tok
  obtain ⟨b, mv, fl⟩ := r
  dsimp only at *
  have et := h.inn.ht
  have HX := Lib.hid h.inn
  have HG := Lib.hid hp
  have HHN := Lib.hid hn
  obtain ⟨⟨z0, z1, z2, z3, z4, z5, z6, z7⟩, _⟩ := eight_facts h.cel
  clear h hp hn
  obtain ⟨s, A, n, c, F, m, d, V, nv, cv, T, nt, ct, kx⟩ := x
  dsimp only at *
  subst et
  go_enter Tryz.func81, Tryz.ntmps81
  go_wp2_with fail
  clear z0 z1 z2 z3 z4 z5 z6 z7
  go_loopw [5, 14] (fun a i wr => ∃ (j : Nat) (Y : Option Addr) (cc : Nat), j ≤ b.toks.length ∧ i = .int .i64 j ∧ a = .slice Y ((b.toks.take j).filter P).length cc ∧ OwnK Tk.κ wr w.heap.size 35 Y ((b.toks.take j).filter P).length cc ((b.toks.take j).filter P) ∧ Below w.heap.size w wr) (fun _ i _ => b.toks.length - (intOf i).toNat)
  case atStart => exact ⟨0, none, 0, Nat.zero_le _, rfl, rfl, ⟨by decide, World.ownsRow_nil _ _ _ _⟩, Below.refl _ _⟩
  case round =>
    obtain ⟨j, Y, cc, hj, rfl, rfl, how, hbr⟩ := hrel
    have hj0 : (0 : Int) ≤ (j : Int) := by omega
    by_cases hlt : j < b.toks.length
    · have hI : (j : Int) < (b.toks.length : Int) := by omega
      have hwj : IntKind.i64.wrap ((j : Int) + 1) = (j : Int) + 1 := by have := HHN.out; rw [IntKind.wrap_i64]; omega
      have hT := HX.out.toks.below hbr (Nat.le_refl _)
      dsimp only at hT
      obtain ⟨b0, off, rfl, _, _⟩ := hT.2 (show 0 < b.toks.length by omega)
      obtain ⟨t0, t1, t2, t3⟩ := tk_at hT hlt
      have hft := filter_take P hlt
      have hfl : ((b.toks.take j).filter P).length ≤ j := Nat.le_trans (List.length_filter_le _ _) (by rw [List.length_take]; omega)
      generalize (b.toks.take j).filter P = L at *
      generalize b.toks[j]! = tk at *
      obtain ⟨tid, tnode, tinn, tst⟩ := tk
      dsimp only at t0 t1 t2 t3
      have hbt : Below wr.heap.size wr (wr.alloc (.cells #[.int .i64 tid, .int .i64 tnode, .int .i64 tinn, .bool tst] 35)) := (Below.refl _ _).alloc (Nat.le_refl _) _
      have HVt := Lib.hid (Cel.lit wr #[.int .i64 tid, .int .i64 tnode, .int .i64 tinn, .bool tst] 35)
      have HBt := Lib.hid (hbr.trans (hbt.mono hbr.size))
      have HCL := Lib.hid (HG.out _ ⟨tid, tnode, tinn, tst⟩ HBt.out)
      have HO1 := Lib.hid (how.below hbt (Nat.le_refl _))
      have HFT := Lib.hid hft
      unfold Tk.val at HCL
      dsimp only at HCL
      clear hT how hbr hbt hft
      go_upto_region 5 with (fail)
      generalize hp9 : wr.heap.size = p9 at *
      generalize wr.alloc _ = wt at *
      clear t0 t1 t2 t3
      obtain ⟨t0, t1, t2, t3⟩ := qd_facts HVt.out
      cases hg : P ⟨tid, tnode, tinn, tst⟩ with
      | false =>
        rw [hg] at HCL HFT
        rw [if_neg (by simp), List.append_nil] at HFT
        clear hg
        go_wp2_with (go_at_fn g; refine HCL.out.mono ?_; rintro e w' ⟨rfl, hb'⟩; have HB' := Lib.hid hb'; clear hb')
        go_roundw
        case measure => simp [intOf]; omega
        case rel => exact ⟨j + 1, Y, cc, by omega, by go_num, by rw [HFT.out], by rw [HFT.out]; exact HO1.out.below HB'.out (Nat.le_refl _), HBt.out.trans (HB'.out.mono HBt.out.size)⟩
      | true =>
        rw [hg] at HCL HFT
        rw [if_pos rfl] at HFT
        clear hg
        go_upto_region 6 with (go_at_fn g; refine HCL.out.mono ?_; rintro e w' ⟨rfl, hb'⟩; have HB' := Lib.hid hb'; clear hb')
        have hba : Below w'.heap.size w' (w'.alloc (.cells #[.int .i64 tid, .int .i64 tnode, .int .i64 tinn, .bool tst] 35)) := (Below.refl _ _).alloc (Nat.le_refl _) _
        have hbb := HB'.out.trans (hba.mono HB'.out.size)
        have HOa := Lib.hid (HO1.out.below hbb (Nat.le_refl _))
        have HWa := Lib.hid (HBt.out.trans (hbb.mono HBt.out.size))
        have HR : Hid (KRow Tk.κ (w'.alloc (.cells #[.int .i64 tid, .int .i64 tnode, .int .i64 tinn, .bool tst] 35)) (w'.heap.size + 1) (some ⟨w'.heap.size, 0, none⟩) 1 [⟨tid, tnode, tinn, tst⟩]) := Lib.hid (KRow.lit (κ := Tk.κ) w' 35 [⟨tid, tnode, tinn, tst⟩] #[.int .i64 tid, .int .i64 tnode, .int .i64 tinn, .bool tst] rfl)
        clear t0 t1 t2 t3
        obtain ⟨t0, t1, t2, t3⟩ := qd_facts (HVt.out.below HB'.out (Nat.le_refl _))
        have hll2 : L.length ≤ 1000000 := by have := HHN.out; omega
        have hbase : w.heap.size ≤ (w'.alloc (.cells #[.int .i64 tid, .int .i64 tnode, .int .i64 tinn, .bool tst] 35)).heap.size := HWa.out.size
        clear hba hbb
        go_wp2_with (at_builtin; refine append_k (κ := Tk.κ) rfl (.tmp 21) (.tmp 23) 36 35 i0 _ 32 Tryz.underlying36 hi0 hz0 hz1 hz2 rfl rfl _ w.heap.size _ Y L.length cc L ⟨w'.heap.size, 0, none⟩ ⟨tid, tnode, tinn, tst⟩ rfl HOa.out rfl HR.out hll2 (by decide) hbase ?_; intro Y' cc' w3 ho hg; have HOF := Lib.hid ho; have HWF := Lib.hid (HWa.out.trans ((hg.below HOa.out.2 hbase).mono (by omega))); clear ho hg)
        go_roundw
        case measure => simp [intOf]; omega
        case rel =>
          have hlen : (L ++ [(⟨tid, tnode, tinn, tst⟩ : Tk)]).length = L.length + 1 := by simp
          exact ⟨j + 1, Y', cc', by omega, by go_num, by rw [HFT.out, hlen], by rw [HFT.out, hlen]; exact HOF.out, HWF.out⟩
    · have hI : ¬ (j : Int) < (b.toks.length : Int) := by omega
      obtain rfl : j = b.toks.length := by omega
      rw [List.take_of_length_le (Nat.le_refl _)] at *
      have HOW := Lib.hid how
      have HBR := Lib.hid hbr
      clear how hbr
      go_wp2
      go_ret
      exact ⟨⟨Y, cc, rfl, HOW.out⟩, HBR.out⟩
end Pr
end Go.Proofs.YtkffnfgdmcebdaaGreatDoor
