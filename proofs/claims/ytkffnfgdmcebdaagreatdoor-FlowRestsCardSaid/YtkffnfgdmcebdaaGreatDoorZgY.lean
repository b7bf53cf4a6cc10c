/- Package token: Ready. -/
import Derived.Test.YtkffnfgdmcebdaaGreatDoorZfY
import Derived.Test.YtkffnfgdmcebdaaGreatDoorUaY
namespace Go.Proofs.YtkffnfgdmcebdaaGreatDoor
open Go.RowKit

namespace Pr
def ReadyOut (b : Bd) (i : Int) (w : World) (e : Ending) (w' : World) : Prop := (∃ r : Bool, e = .returned (.bool r) ∧ (r = true ↔ Rdy b i)) ∧ Below w.heap.size w w'
theorem rdy_at {b : Bd} {k : Nat} (hk : k < b.toks.length) : Rdy b k ↔ b.toks[k]!.stuck = false ∧ ∃ u : Nat, b.toks[k]!.node = (u : Int) ∧ u < b.p.n ∧ b.p.nodes[u]!.kind ≠ 4 ∧
  (b.p.nodes[u]!.kind = 6 → 2 ≤ (insB b.p u).length → fst (atN u) b.toks = k ∧ ∀ f ∈ insB b.p u, fst (atB u f) b.toks ≠ -1) ∧
  (b.p.nodes[u]!.kind = 7 → 2 ≤ (insB b.p u).length → fst (atN u) b.toks = k ∧ ¬ More b u) := by
  unfold Rdy
  constructor
  · rintro ⟨k', h1, h2, h3, h4⟩
    obtain rfl : k = k' := by omega
    exact ⟨h3, h4⟩
  · rintro ⟨h3, h4⟩
    exact ⟨k, rfl, hk, h3, h4⟩
theorem rdy_u {b : Bd} {k u : Nat} (hk : k < b.toks.length) (hs : b.toks[k]!.stuck = false) (hu : b.toks[k]!.node = (u : Int)) (hn : u < b.p.n) : Rdy b k ↔ b.p.nodes[u]!.kind ≠ 4 ∧
  (b.p.nodes[u]!.kind = 6 → 2 ≤ (insB b.p u).length → fst (atN u) b.toks = k ∧ ∀ f ∈ insB b.p u, fst (atB u f) b.toks ≠ -1) ∧
  (b.p.nodes[u]!.kind = 7 → 2 ≤ (insB b.p u).length → fst (atN u) b.toks = k ∧ ¬ More b u) := by
  rw [rdy_at hk]
  constructor
  · rintro ⟨_, u', h1, h2⟩
    obtain rfl : u = u' := by omega
    exact h2.2
  · intro h
    exact ⟨hs, u, hu, hn, h⟩
set_option maxHeartbeats 6400000 in
theorem ready_any (i : Int) (x : BdV) (b : Bd) (w : World) (hx : BdIn w w.heap.size x b) (hf : b.Few) (ha : Asc b.toks) : Calls Tryz.prog 14 #[x.val, .int .i64 i] w (ReadyOut b i w) := by
  have HC := Lib.hid (Cel.lit w x.list.toArray 38)
  have HX := Lib.hid hx
  have HF := Lib.hid hf
  have HA := Lib.hid ha
  have HB := Lib.hid ((Below.refl w.heap.size w).alloc (Nat.le_refl _) (.cells x.list.toArray 38))
  have en := hx.hn
  have em := hx.hm
  have et := hx.ht
  have HFI := Lib.hid (fun (W : World) (hb : Below w.heap.size w W) (v : Int) => first_any v x b W (hx.on hb) ha hf.t)
  have HEA := Lib.hid (fun (W : World) (hb : Below w.heap.size w W) (v : Int) => onEach_any v x b W (hx.on hb) ha hf.t)
  have HMO := Lib.hid (fun (W : World) (hb : Below w.heap.size w W) (v : Nat) => moreCome_any v x b W (hx.on hb) hf)
  clear hx hf ha
  obtain ⟨s, A, n, c, F, m, d, V, nv, cv, T, nt, ct, k⟩ := x
  unfold BdV.val at *
  unfold BdV.list at *
  dsimp only at *
  subst en em et
  have HIN := Lib.hid (fun (W : World) (hb : Below w.heap.size w W) (v : Int) => ins_any A b.p.n c F b.p.m d b.p v W ((HX.out.on hb).nodes) ((HX.out.on hb).flows) HF.out.n HF.out.m)
  have hsn : b.p.name = s := HX.out.s.symm
  rw [hsn] at HIN
  clear hsn
  have HPL := Lib.hid (tplace_any i b.toks.length)
  go_enter Tryz.func14, Tryz.ntmps14
  go_upto_region 1 with (fail)
  generalize w.alloc _ = wa at *
  obtain ⟨⟨z0, z1, z2, z3, z4, z5⟩, _⟩ := six_facts HC.out
  by_cases hp : 0 ≤ i ∧ i < (b.toks.length : Int)
  · obtain ⟨kk, rfl⟩ : ∃ kk : Nat, i = kk := ⟨i.toNat, by omega⟩
    have hkl : kk < b.toks.length := by omega
    have hk0 : (0 : Int) ≤ (kk : Int) := by omega
    have hkI : (kk : Int) < (b.toks.length : Int) := by omega
    rw [decide_eq_true hp.1, decide_eq_true hp.2] at HPL
    have hT := HX.out.toks.below HB.out (Nat.le_refl _)
    obtain ⟨b0, off, rfl, _, _⟩ := hT.2 (show 0 < b.toks.length by omega)
    obtain ⟨t0, t1, t2, t3⟩ := tk_at hT hkl
    have hbt : Below wa.heap.size wa (wa.alloc (.cells #[.int .i64 b.toks[kk]!.id, .int .i64 b.toks[kk]!.node, .int .i64 b.toks[kk]!.inn, .bool b.toks[kk]!.stuck] 35)) := (Below.refl _ _).alloc (Nat.le_refl _) _
    have HT := Lib.hid (Cel.lit wa #[.int .i64 b.toks[kk]!.id, .int .i64 b.toks[kk]!.node, .int .i64 b.toks[kk]!.inn, .bool b.toks[kk]!.stuck] 35)
    have HCt := Lib.hid (HC.out.below hbt (Nat.le_refl _))
    have HBt := Lib.hid (HB.out.trans (hbt.mono HB.out.size))
    have HR := Lib.hid (rdy_at hkl)
    have HRU := Lib.hid (fun u => rdy_u (u := u) hkl)
    have HKL := Lib.hid hkl
    clear hT hbt hp hkl
    generalize b.toks[kk]! = tk at *
    obtain ⟨tid, tnode, tinn, tst⟩ := tk
    dsimp only at *
    go_upto_region 4 with (go_at_call 49; refine (HPL.out _).mono ?_; rintro e w' ⟨rfl, rfl⟩)
    generalize hq : wa.heap.size = qt at *
    generalize wa.alloc _ = wt at *
    clear z0 z1 z2 z3 z4 z5 t0 t1 t2 t3 hq HC HB HPL
    obtain ⟨⟨z0, z1, z2, z3, z4, z5⟩, _⟩ := six_facts HCt.out
    obtain ⟨t0, t1, t2, t3⟩ := qd_facts HT.out
    cases tst with
    | true =>
      have HNR : Hid ¬ Rdy b kk := Lib.hid (fun h => by have := (HR.out.1 h).1; cases this)
      go_wp2
      go_ret
      exact ⟨⟨false, rfl, (fun h => by cases h), fun h => absurd h HNR.out⟩, HBt.out⟩
    | false =>
      by_cases hn : 0 ≤ tnode ∧ tnode < (b.p.n : Int)
      · obtain ⟨u, rfl⟩ : ∃ u : Nat, tnode = u := ⟨tnode.toNat, by omega⟩
        have hun : u < b.p.n := by omega
        have hu0 : (0 : Int) ≤ (u : Int) := by omega
        have huI : (u : Int) < (b.p.n : Int) := by omega
        have HRV := Lib.hid (HRU.out u rfl rfl hun)
        have HPL := Lib.hid (tplace_any u b.p.n)
        rw [decide_eq_true hn.1, decide_eq_true hn.2] at HPL
        have hN := HX.out.nodes.below HBt.out (Nat.le_refl _)
        obtain ⟨b1, off1, rfl, _, _⟩ := hN.2 (show 0 < b.p.n by omega)
        obtain ⟨n0, n1, n2, n3, n4, n5, n6, n7⟩ := nd_at hN hun
        clear hn hN HR HRU
        generalize b.p.nodes[u]!.kind = kd at *
        go_upto_region 7 with (go_at_call 49; refine (HPL.out _).mono ?_; rintro e w' ⟨rfl, rfl⟩)
        have HSF := Lib.hid (fun W (hb : Below wt.heap.size wt W) => And.intro (six_facts (HCt.out.below hb (Nat.le_refl _))).1 (qd_facts (HT.out.below hb (Nat.le_refl _))))
        clear n0 n1 n2 n3 n4 n5 n6 n7
        by_cases h4 : kd = 4
        · subst h4
          have HNR : Hid ¬ Rdy b kk := Lib.hid (fun h => (HRV.out.1 h).1 rfl)
          clear HRV
          go_wp2
          go_ret
          exact ⟨⟨false, rfl, (fun h => by cases h), fun h => absurd h HNR.out⟩, HBt.out⟩
        · have h4B : (kd == 4) = false := by rw [beq_eq_false_iff_ne]; exact h4
          by_cases h6 : kd = 6
          · subst h6
            have HV : Hid (Rdy b kk ↔ (2 ≤ (insB b.p u).length → fst (atN u) b.toks = kk ∧ ∀ f ∈ insB b.p u, fst (atB u f) b.toks ≠ -1)) := Lib.hid (HRV.out.trans ⟨fun h => h.2.1 rfl, fun h => ⟨by decide, fun _ => h, fun h7 => absurd h7 (by decide)⟩⟩)
            clear HRV h4 h4B
            go_upto_region 11 with (go_at_call 50; refine (HIN.out wt HBt.out u).mono ?_; rintro e w5 ⟨⟨X, ki, ci, rfl, hoy⟩, hb5⟩)
            obtain rfl : (insB b.p u).length = ki := by simpa using hoy.len
            have HOY := Lib.hid hoy
            have HB5 := Lib.hid hb5
            have HB5w := Lib.hid (HBt.out.trans (hb5.mono HBt.out.size))
            clear hoy hb5 z0 z1 z2 z3 z4 z5 t0 t1 t2 t3
            have hm5 : (insB b.p u).length ≤ 100000 := Nat.le_trans (by unfold insB; exact Nat.le_trans (List.length_filter_le _ _) (by simp)) HF.out.m
            by_cases h2 : (insB b.p u).length < 2
            · have h2I : ((insB b.p u).length : Int) < 2 := by omega
              go_wp2
              go_ret
              exact ⟨⟨true, rfl, (fun _ => HV.out.2 (fun h => by omega)), fun _ => rfl⟩, HB5w.out⟩
            · have h2I : ¬ ((insB b.p u).length : Int) < 2 := by omega
              have HG2 : Hid (2 ≤ (insB b.p u).length) := Lib.hid (by omega)
              have HFC := Lib.hid (HFI.out w5 HB5w.out u)
              generalize hyy : fst (atN (u : Int)) b.toks = y at *
              by_cases hy : y = (kk : Int)
              · subst hy
                obtain ⟨⟨z0, z1, z2, z3, z4, z5⟩, t0, t1, t2, t3⟩ := HSF.out _ HB5.out
                have hall : (Rdy b kk ↔ ((insB b.p u).all fun (f : Nat) => !(fst (atB (u : Int) (f : Int)) b.toks == -1)) = true) := by
                  rw [HV.out]
                  constructor
                  · intro h
                    rw [List.all_eq_true]
                    intro f hf
                    have := (h HG2.out).2 f hf
                    simpa using this
                  · intro h _
                    refine ⟨rfl, fun f hf => ?_⟩
                    have := List.all_eq_true.1 h f hf
                    simpa using this
                have HALL := Lib.hid hall
                have HEC := Lib.hid (fun W (hb : Below w5.heap.size w5 W) => HEA.out W (HB5w.out.trans (hb.mono HB5w.out.size)) u X (insB b.p u).length ci (insB b.p u) ((HOY.out.row.below hb (Nat.le_refl _)).mono hb.size) hm5)
                clear hall hyy
                generalize ((insB b.p u).all fun (f : Nat) => !(fst (atB (u : Int) (f : Int)) b.toks == -1)) = r at *
                go_wp2_with (first
                  | (go_at_call 51; refine HFC.out.mono ?_; rintro e w6 ⟨rfl, hb6⟩; have HB6 := Lib.hid hb6; clear z0 z1 z2 z3 z4 z5 t0 t1 t2 t3 hb6; obtain ⟨⟨z0, z1, z2, z3, z4, z5⟩, t0, t1, t2, t3⟩ := HSF.out _ (HB5.out.trans (HB6.out.mono HB5.out.size)))
                  | (go_at_call 52; refine (HEC.out _ HB6.out).mono ?_; rintro e w7 ⟨rfl, hb7⟩))
                go_ret
                exact ⟨⟨r, rfl, HALL.out.symm⟩, (HB5w.out.trans (HB6.out.mono HB5w.out.size)).trans (hb7.mono (Nat.le_trans HB5w.out.size HB6.out.size))⟩
              · have hyB : ((kk : Int) == y) = false := by rw [beq_eq_false_iff_ne]; exact fun h => hy h.symm
                have HNR : Hid ¬ Rdy b kk := Lib.hid (fun h => hy (HV.out.1 h HG2.out).1)
                obtain ⟨⟨z0, z1, z2, z3, z4, z5⟩, t0, t1, t2, t3⟩ := HSF.out _ HB5.out
                clear hyy hy
                go_wp2_with (go_at_call 51; refine HFC.out.mono ?_; rintro e w6 ⟨rfl, hb6⟩)
                go_ret
                exact ⟨⟨false, rfl, (fun h => by cases h), fun h => absurd h HNR.out⟩, HB5w.out.trans (hb6.mono HB5w.out.size)⟩
          · have h6B : (kd == 6) = false := by rw [beq_eq_false_iff_ne]; exact h6
            by_cases h7 : kd = 7
            · subst h7
              have HV : Hid (Rdy b kk ↔ (2 ≤ (insB b.p u).length → fst (atN u) b.toks = kk ∧ ¬ More b u)) := Lib.hid (HRV.out.trans ⟨fun h => h.2.2 rfl, fun h => ⟨by decide, fun h6 => absurd h6 (by decide), fun _ => h⟩⟩)
              clear HRV h4 h4B h6 h6B
              go_upto_region 14 with (go_at_call 50; refine (HIN.out wt HBt.out u).mono ?_; rintro e w5 ⟨⟨X, ki, ci, rfl, hoy⟩, hb5⟩)
              obtain rfl : (insB b.p u).length = ki := by simpa using hoy.len
              have HOY := Lib.hid hoy
              have HB5 := Lib.hid hb5
              have HB5w := Lib.hid (HBt.out.trans (hb5.mono HBt.out.size))
              clear hoy hb5 z0 z1 z2 z3 z4 z5 t0 t1 t2 t3
              have hm5 : (insB b.p u).length ≤ 100000 := Nat.le_trans (by unfold insB; exact Nat.le_trans (List.length_filter_le _ _) (by simp)) HF.out.m
              by_cases h2 : (insB b.p u).length < 2
              · have h2I : ((insB b.p u).length : Int) < 2 := by omega
                go_wp2
                go_ret
                exact ⟨⟨true, rfl, (fun _ => HV.out.2 (fun h => by omega)), fun _ => rfl⟩, HB5w.out⟩
              · have h2I : ¬ ((insB b.p u).length : Int) < 2 := by omega
                have HG2 : Hid (2 ≤ (insB b.p u).length) := Lib.hid (by omega)
                have HFC := Lib.hid (HFI.out w5 HB5w.out u)
                generalize hyy : fst (atN (u : Int)) b.toks = y at *
                by_cases hy : y = (kk : Int)
                · subst hy
                  obtain ⟨⟨z0, z1, z2, z3, z4, z5⟩, t0, t1, t2, t3⟩ := HSF.out _ HB5.out
                  have HALL : Hid (Rdy b kk ↔ ¬ More b u) := Lib.hid (HV.out.trans ⟨fun h => (h HG2.out).2, fun h _ => ⟨rfl, h⟩⟩)
                  clear hyy
                  go_wp2_with (first
                    | (go_at_call 51; refine HFC.out.mono ?_; rintro e w6 ⟨rfl, hb6⟩; have HB6 := Lib.hid hb6; clear z0 z1 z2 z3 z4 z5 t0 t1 t2 t3 hb6; obtain ⟨⟨z0, z1, z2, z3, z4, z5⟩, t0, t1, t2, t3⟩ := HSF.out _ (HB5.out.trans (HB6.out.mono HB5.out.size)))
                    | (go_at_call 53; refine (HMO.out _ (HB5w.out.trans (HB6.out.mono HB5w.out.size)) u).mono ?_; rintro e w7 ⟨⟨r, rfl, hr⟩, hb7⟩; have HRR := Lib.hid hr; clear hr))
                  go_ret
                  refine ⟨⟨!r, rfl, ?_⟩, (HB5w.out.trans (HB6.out.mono HB5w.out.size)).trans (hb7.mono (Nat.le_trans HB5w.out.size HB6.out.size))⟩
                  rw [HALL.out, ← HRR.out]
                  cases r <;> simp
                · have hyB : ((kk : Int) == y) = false := by rw [beq_eq_false_iff_ne]; exact fun h => hy h.symm
                  have HNR : Hid ¬ Rdy b kk := Lib.hid (fun h => hy (HV.out.1 h HG2.out).1)
                  obtain ⟨⟨z0, z1, z2, z3, z4, z5⟩, t0, t1, t2, t3⟩ := HSF.out _ HB5.out
                  clear hyy hy
                  go_wp2_with (go_at_call 51; refine HFC.out.mono ?_; rintro e w6 ⟨rfl, hb6⟩)
                  go_ret
                  exact ⟨⟨false, rfl, (fun h => by cases h), fun h => absurd h HNR.out⟩, HB5w.out.trans (hb6.mono HB5w.out.size)⟩
            · have h7B : (kd == 7) = false := by rw [beq_eq_false_iff_ne]; exact h7
              have HNR : Hid (Rdy b kk) := Lib.hid (HRV.out.2 ⟨h4, fun h => absurd h h6, fun h => absurd h h7⟩)
              clear HRV h4 h6 h7
              go_wp2
              go_ret
              exact ⟨⟨true, rfl, (fun _ => HNR.out), fun _ => rfl⟩, HBt.out⟩
      · have HNR : Hid ¬ Rdy b kk := Lib.hid (fun h => by obtain ⟨_, u, h1, h2, _⟩ := HR.out.1 h; exact hn ⟨by omega, by omega⟩)
        have HPL := Lib.hid (tplace_any tnode b.p.n)
        have hnb : (decide (0 ≤ tnode) && decide (tnode < (b.p.n : Int))) = false := by
          rw [Bool.eq_false_iff]; intro h; simp only [Bool.and_eq_true, decide_eq_true_eq] at h; exact hn h
        rw [hnb] at HPL
        clear hn hnb HR HRU
        go_wp2_with (go_at_call 49; refine (HPL.out _).mono ?_; rintro e w' ⟨rfl, rfl⟩)
        go_ret
        exact ⟨⟨false, rfl, (fun h => by cases h), fun h => absurd h HNR.out⟩, HBt.out⟩
  · have HNR : Hid ¬ Rdy b i := Lib.hid (fun h => by obtain ⟨k', h1, h2, _⟩ := h; exact hp ⟨by omega, by omega⟩)
    have hnb : (decide (0 ≤ i) && decide (i < (b.toks.length : Int))) = false := by
      rw [Bool.eq_false_iff]; intro h; simp only [Bool.and_eq_true, decide_eq_true_eq] at h; exact hp h
    rw [hnb] at HPL
    clear hp hnb
    go_wp2_with (go_at_call 49; refine (HPL.out _).mono ?_; rintro e w' ⟨rfl, rfl⟩)
    go_ret
    exact ⟨⟨false, rfl, (fun h => by cases h), fun h => absurd h HNR.out⟩, HB.out⟩
end Pr
end Go.Proofs.YtkffnfgdmcebdaaGreatDoor
