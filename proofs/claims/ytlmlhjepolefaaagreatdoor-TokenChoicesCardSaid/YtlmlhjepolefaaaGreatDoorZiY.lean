/- Package token: ways. -/
import Derived.Test.YtlmlhjepolefaaaGreatDoorZhY
namespace Go.Proofs.YtlmlhjepolefaaaGreatDoor
open Go.RowKit

namespace Pr
theorem outsB_lt {p : P} {i : Int} {f : Nat} (h : f ∈ outsB p i) : f < p.m := by
  unfold outsB at h
  exact List.mem_range.1 (List.mem_filter.1 h).1
theorem outsB_len (p : P) (i : Int) : (outsB p i).length ≤ p.m := by
  unfold outsB
  exact Nat.le_trans (List.length_filter_le _ _) (by simp)
theorem WaysOut.after {E : Int → Option Addr} {w w1 w' : World} {R : Int × List Nat} {e : Ending} (hb : Below w.heap.size w w1) (h : WaysOut E w1 R e w') : WaysOut E w R e w' := by
  obtain ⟨⟨Y, k, cc, ev, h1, h2, h3⟩, h4⟩ := h
  exact ⟨⟨Y, k, cc, ev, h1, h2, h3.lower hb.size⟩, hb.trans (h4.mono hb.size)⟩
set_option maxHeartbeats 3200000 in
set_option maxRecDepth 10000 in
theorem ways_any (E : Int → Option Addr) (u : Nat) (x : BdV) (b : Bd) (w : World) (hx : BdIn w w.heap.size x b) (hu : u < b.p.n) (hf : b.Few)
    (hc : ∀ f ∈ outsB b.p u, CondOk E w x.V x.nv x.cv b.vars b.p.flows[f]!.cond) (hE : ErrIn w E 116 2) :
    Calls Tryz.prog 26 #[x.val, .int .i64 (u : Int)] w (WaysOut E w (outWays b u)) := by
  have HC := Lib.hid (Cel.lit w x.list.toArray 38)
  have HX := Lib.hid hx
  have HB := Lib.hid ((Below.refl w.heap.size w).alloc (Nat.le_refl _) (.cells x.list.toArray 38))
  have HCH := Lib.hid (fun (W : World) (hb : Below w.heap.size w W) (most : Nat) (X : Option Addr) (kx cx : Nat) (hi : KRow iκ W W.heap.size X kx ((outsB b.p u).map Int.ofNat)) (hk : kx ≤ 100000) =>
    chosen_any E u most x b W (hx.on hb) hu hf X kx cx (outsB b.p u) hi (fun f h => outsB_lt h) (fun f h => (hc f h).on hb) (hE.below hb) hk)
  have hn := hx.hn
  have hm := hx.hm
  have hf1 := hf.n
  have hf2 := hf.m
  have hol := outsB_len b.p u
  clear hx hf hc hE
  obtain ⟨s, A, n, c, F, m, d, V, nv, cv, T, nt, ct, k⟩ := x
  unfold BdV.val at *
  unfold BdV.list at *
  dsimp only at *
  subst hn hm
  have HOT := Lib.hid (fun (W : World) (hb : Below w.heap.size w W) => outs_any A b.p.n c F b.p.m d b.p (u : Int) W ((HX.out.on hb).nodes) ((HX.out.on hb).flows) hf1 hf2)
  have hsn : b.p.name = s := HX.out.s.symm
  rw [hsn] at HOT
  clear hsn
  have hN := HX.out.nodes.below HB.out (Nat.le_refl _)
  obtain ⟨b1, off1, rfl, _, _⟩ := hN.2 (show 0 < b.p.n by omega)
  have hu0 : (0 : Int) ≤ (u : Int) := by omega
  have huI : (u : Int) < (b.p.n : Int) := by omega
  have hR : outWays b u = if b.p.nodes[u]!.kind = 2 ∨ b.p.nodes[u]!.kind = 3 then (0, []) else if b.p.nodes[u]!.kind = 5 then (if (outsB b.p u).length = 1 then (0, outsB b.p u) else choose b b.p.nodes[u]!.dflt 1 (outsB b.p u) []) else if b.p.nodes[u]!.kind = 7 then choose b b.p.nodes[u]!.dflt (outsB b.p u).length (outsB b.p u) [] else (0, outsB b.p u) := rfl
  go_enter Tryz.func26, Tryz.ntmps26
  go_upto_region 1 with (fail)
  generalize w.alloc _ = wa at *
  obtain ⟨⟨z0, z1, z2, z3, z4, z5⟩, _⟩ := six_facts HC.out
  go_upto_region 2 with (go_at_call 39; refine (HOT.out wa HB.out).mono ?_; rintro e w5 ⟨⟨X, ki, ci, rfl, hoy⟩, hb5⟩)
  obtain rfl : (outsB b.p u).length = ki := by simpa using hoy.len
  have HOY := Lib.hid hoy
  have HB5 := Lib.hid hb5
  have HB5w := Lib.hid (HB.out.trans (hb5.mono HB.out.size))
  have hN := HX.out.nodes.below HB5w.out (Nat.le_refl _)
  obtain ⟨n0, n1, n2, n3, n4, n5, n6, n7⟩ := nd_at hN hu
  clear hN hoy hb5 z0 z1 z2 z3 z4 z5 HOT
  obtain ⟨⟨z0, z1, z2, z3, z4, z5⟩, _⟩ := six_facts (HC.out.below HB5.out (Nat.le_refl _))
  have HCC := Lib.hid (fun most => HCH.out w5 HB5w.out most X (outsB b.p u).length ci HOY.out.row (by omega))
  clear HCH n1 n2 n3 n4 n5 n6 n7
  generalize b.p.nodes[u]!.dflt = other at *
  generalize b.p.nodes[u]!.kind = kd at *
  by_cases h2 : kd = 2
  · subst h2
    rw [if_pos (.inl rfl)] at hR
    have HR := Lib.hid hR
    clear hR
    go_wp2
    go_ret2
    refine ⟨⟨none, 0, 0, .nilIface, rfl, ?_, ?_⟩, HB5w.out⟩
    · rw [HR.out]; exact .nil
    · rw [HR.out]; exact ⟨by decide, World.ownsRow_nil _ _ _ _⟩
  have h2B : (kd == 2) = false := by rw [beq_eq_false_iff_ne]; exact h2
  by_cases h3 : kd = 3
  · subst h3
    rw [if_pos (.inr rfl)] at hR
    have HR := Lib.hid hR
    clear hR h2
    go_wp2
    go_ret2
    refine ⟨⟨none, 0, 0, .nilIface, rfl, ?_, ?_⟩, HB5w.out⟩
    · rw [HR.out]; exact .nil
    · rw [HR.out]; exact ⟨by decide, World.ownsRow_nil _ _ _ _⟩
  have h3B : (kd == 3) = false := by rw [beq_eq_false_iff_ne]; exact h3
  rw [if_neg (by rintro (h | h); exact h2 h; exact h3 h)] at hR
  by_cases h5 : kd = 5
  · subst h5
    rw [if_pos rfl] at hR
    clear h2 h3
    by_cases h1 : (outsB b.p u).length = 1
    · rw [if_pos h1] at hR
      have HR := Lib.hid hR
      have h1B : (((outsB b.p u).length : Int) == 1) = true := by rw [beq_iff_eq]; omega
      have H1 := Lib.hid h1
      clear hR h1
      go_wp2
      go_ret2
      refine ⟨⟨X, _, ci, .nilIface, rfl, ?_, ?_⟩, HB5w.out⟩
      · rw [HR.out]; exact .nil
      · rw [HR.out]; exact HOY.out.lower HB.out.size
    · rw [if_neg h1] at hR
      have HR := Lib.hid hR
      have h1B : (((outsB b.p u).length : Int) == 1) = false := by rw [beq_eq_false_iff_ne]; omega
      clear hR h1
      go_wp2_with (go_at_call 40; refine (HCC.out 1).mono ?_; rintro e w7 ⟨⟨Y, kk, cc, ev, rfl, hs, ho⟩, hb7⟩; have HW := Lib.hid (WaysOut.after HB5w.out ⟨⟨Y, kk, cc, ev, rfl, hs, ho⟩, hb7⟩); clear hs ho hb7)
      go_ret2
      rw [HR.out]
      exact HW.out
  have h5B : (kd == 5) = false := by rw [beq_eq_false_iff_ne]; exact h5
  rw [if_neg h5] at hR
  by_cases h7 : kd = 7
  · subst h7
    rw [if_pos rfl] at hR
    have HR := Lib.hid hR
    clear h2 h3 h5 hR
    go_wp2_with (go_at_call 40; refine (HCC.out _).mono ?_; rintro e w7 ⟨⟨Y, kk, cc, ev, rfl, hs, ho⟩, hb7⟩; have HW := Lib.hid (WaysOut.after HB5w.out ⟨⟨Y, kk, cc, ev, rfl, hs, ho⟩, hb7⟩); clear hs ho hb7)
    go_ret2
    rw [HR.out]
    exact HW.out
  · have h7B : (kd == 7) = false := by rw [beq_eq_false_iff_ne]; exact h7
    rw [if_neg h7] at hR
    have HR := Lib.hid hR
    clear h2 h3 h5 h7 hR
    go_wp2
    go_ret2
    refine ⟨⟨X, _, ci, .nilIface, rfl, ?_, ?_⟩, HB5w.out⟩
    · rw [HR.out]; exact .nil
    · rw [HR.out]; exact HOY.out.lower HB.out.size
end Pr
end Go.Proofs.YtlmlhjepolefaaaGreatDoor
