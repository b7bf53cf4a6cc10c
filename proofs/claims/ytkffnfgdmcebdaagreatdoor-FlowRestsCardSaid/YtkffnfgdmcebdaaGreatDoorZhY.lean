/- Package token: open, chosen, ways. -/
import Derived.Test.YtkffnfgdmcebdaaGreatDoorZgY
import Derived.Test.YtkffnfgdmcebdaaGreatDoorYJoint22
namespace Go.Proofs.YtkffnfgdmcebdaaGreatDoor
open Go.RowKit

namespace Pr
/-- What Holds answers of a condition. -/
def CondOk (E : Int → Option Addr) (w : World) (V : Option Addr) (nv cv : Nat) (vars : List Vr.V) (c : ByteArray) : Prop :=
  c.size = 0 ∨ ∀ W, Below w.heap.size w W → Calls Tryz.prog 135 #[.string c, .slice V nv cv] W fun e w' => (∃ ev, e = .returned (.tuple #[.bool (opens vars c).2, ev]) ∧ SeenBy E ev (opens vars c).1) ∧ Below W.heap.size W w'
theorem CondOk.on {E : Int → Option Addr} {w w' : World} {V : Option Addr} {nv cv : Nat} {vars : List Vr.V} {c : ByteArray} (h : CondOk E w V nv cv vars c) (hb : Below w.heap.size w w') : CondOk E w' V nv cv vars c :=
  h.imp id fun h W hW => h W (hb.trans (hW.mono hb.size))
theorem empB (s : ByteArray) : s.toList.isEmpty = (s.size == 0) := by
  rw [ByteArray.toList_eq, Bool.eq_iff_iff, List.isEmpty_iff_length_eq_zero, beq_iff_eq]
  simp
theorem opens_none {vars : List Vr.V} {c : ByteArray} (h : c.size = 0) : opens vars c = (0, true) := by
  unfold opens
  rw [if_pos h]
set_option maxHeartbeats 1600000 in
theorem topen_any (E : Int → Option Addr) (f : Nat) (x : BdV) (b : Bd) (w : World) (hx : BdIn w w.heap.size x b) (hf : f < b.p.m) (hc : CondOk E w x.V x.nv x.cv b.vars b.p.flows[f]!.cond) :
    Calls Tryz.prog 124 #[x.val, .int .i64 (f : Int)] w fun e w' => (∃ ev, e = .returned (.tuple #[.bool (opens b.vars b.p.flows[f]!.cond).2, ev]) ∧ SeenBy E ev (opens b.vars b.p.flows[f]!.cond).1) ∧ Below w.heap.size w w' := by
  have HC := Lib.hid (Cel.lit w x.list.toArray 38)
  have HX := Lib.hid hx
  have HB := Lib.hid ((Below.refl w.heap.size w).alloc (Nat.le_refl _) (.cells x.list.toArray 38))
  have HK := Lib.hid hc
  have em := hx.hm
  clear hx hc
  obtain ⟨s, A, n, c, F, m, d, V, nv, cv, T, nt, ct, k⟩ := x
  unfold BdV.val at *
  unfold BdV.list at *
  dsimp only at *
  subst em
  have hF := HX.out.flows.below HB.out (Nat.le_refl _)
  obtain ⟨b0, off, rfl, _, _⟩ := hF.2 (show 0 < b.p.m by omega)
  obtain ⟨t0, t1, t2⟩ := fl_at hF hf
  have hf0 : (0 : Int) ≤ (f : Int) := by omega
  have hfI : (f : Int) < (b.p.m : Int) := by omega
  clear hF
  generalize b.p.flows[f]! = fl at *
  obtain ⟨frm, til, cd⟩ := fl
  dsimp only at *
  by_cases h0 : cd.size = 0
  · obtain rfl : cd = ⟨#[]⟩ := by
      obtain ⟨⟨l⟩⟩ := cd
      simp [ByteArray.size] at h0
      simp [h0]
    rw [opens_none h0]
    clear HK h0
    go_enter Tryz.func124, Tryz.ntmps124
    go_upto_region 1 with (fail)
    generalize w.alloc _ = wa at *
    obtain ⟨⟨z0, z1, z2, z3, z4, z5⟩, _⟩ := six_facts HC.out
    go_wp2
    go_ret2
    exact ⟨⟨_, rfl, .nil⟩, HB.out⟩
  · have hce : cd.toList.isEmpty = false := by rw [empB]; simpa using h0
    have HH := Lib.hid (fun W hW => (HK.out.resolve_left h0) W hW)
    generalize opens b.vars cd = R at *
    clear HK
    go_enter Tryz.func124, Tryz.ntmps124
    go_upto_region 1 with (fail)
    generalize w.alloc _ = wa at *
    obtain ⟨⟨z0, z1, z2, z3, z4, z5⟩, _⟩ := six_facts HC.out
    go_wp2_with (go_at_call 135; refine (HH.out _ HB.out).mono ?_; rintro e w' ⟨⟨ev, rfl, hs⟩, hb'⟩; have HS := Lib.hid hs; clear hs)
    go_ret2
    exact ⟨⟨_, rfl, HS.out⟩, HB.out.trans (hb'.mono HB.out.size)⟩
/-- The flows that are told, with an error's number. -/
def WaysOut (E : Int → Option Addr) (w : World) (R : Int × List Nat) (e : Ending) (w' : World) : Prop :=
  (∃ (Y : Option Addr) (k cc : Nat) (ev : Value), e = .returned (.tuple #[.slice Y k cc, ev]) ∧ SeenBy E ev R.1 ∧ OwnK iκ w' w.heap.size 3 Y k cc (R.2.map Int.ofNat)) ∧ Below w.heap.size w w'
theorem choose_nil (b : Bd) (other : Int) (most : Nat) (acc : List Nat) : choose b other most [] acc = finish other b.p.m acc := rfl
theorem choose_full (b : Bd) (other : Int) (most : Nat) (l acc : List Nat) (h : acc.length = most) : choose b other most l acc = finish other b.p.m acc := by
  cases l with
  | nil => rfl
  | cons f l => rw [choose, if_pos h]
set_option maxHeartbeats 6400000 in
set_option maxRecDepth 10000 in
theorem chosen_any (E : Int → Option Addr) (u most : Nat) (x : BdV) (b : Bd) (w : World) (hx : BdIn w w.heap.size x b) (hu : u < b.p.n) (hf : b.Few) (X : Option Addr) (kx cx : Nat) (outs : List Nat) (hi : KRow iκ w w.heap.size X kx (outs.map Int.ofNat)) (ho : ∀ f ∈ outs, f < b.p.m)
    (hc : ∀ f ∈ outs, CondOk E w x.V x.nv x.cv b.vars b.p.flows[f]!.cond) (hE : ErrIn w E 116 2) (hk : kx ≤ 100000) :
    Calls Tryz.prog 112 #[x.val, .int .i64 (u : Int), .slice X kx cx, .int .i64 (most : Int)] w (WaysOut E w (choose b b.p.nodes[u]!.dflt most outs [])) := by
  obtain rfl : outs.length = kx := by have := hi.len (by decide); simpa using this
  obtain ⟨i0, hi0, hz0, hz1, hz2⟩ := info_parts info_int
  have HC := Lib.hid (Cel.lit w x.list.toArray 38)
  have HX := Lib.hid hx
  have HI := Lib.hid hi
  have HE := Lib.hid hE
  have HO := Lib.hid ho
  have HB := Lib.hid ((Below.refl w.heap.size w).alloc (Nat.le_refl _) (.cells x.list.toArray 38))
  have HOP := Lib.hid (fun (W : World) (hb : Below w.heap.size w W) (f : Nat) (hf : f ∈ outs) => topen_any E f x b W (hx.on hb) (ho f hf) ((hc f hf).on hb))
  have hn := hx.hn
  have hm := hx.hm
  have hmm := hf.m
  clear hx hi hE ho hc hf
  obtain ⟨s, A, n, c, F, m, d, V, nv, cv, T, nt, ct, k⟩ := x
  unfold BdV.val at *
  unfold BdV.list at *
  dsimp only at *
  subst hn hm
  have hN := HX.out.nodes.below HB.out (Nat.le_refl _)
  obtain ⟨b1, off1, rfl, _, _⟩ := hN.2 (show 0 < b.p.n by omega)
  obtain ⟨n0, n1, n2, n3, n4, n5, n6, n7⟩ := nd_at hN hu
  have hu0 : (0 : Int) ≤ (u : Int) := by omega
  have huI : (u : Int) < (b.p.n : Int) := by omega
  clear hN
  generalize b.p.nodes[u]!.dflt = other at *
  generalize hR : choose b other most outs [] = R
  go_enter Tryz.func112, Tryz.ntmps112
  go_upto_region 1 with (fail)
  generalize w.alloc _ = wa at *
  obtain ⟨⟨z0, z1, z2, z3, z4, z5⟩, _⟩ := six_facts HC.out
  go_wp2_with fail
  clear z0 z1 z2 z3 z4 z5 n0 n1 n2 n3 n4 n5 n6 n7
  have HPL := Lib.hid (fun W => tplace_any other b.p.m W)
  go_loopw [11, 25] (fun l i wr => ∃ (j : Nat) (Y : Option Addr) (cc : Nat) (acc : List Nat), j ≤ outs.length ∧ i = .int .i64 j ∧ l = .slice Y acc.length cc ∧ OwnK iκ wr wa.heap.size 3 Y acc.length cc (acc.map Int.ofNat) ∧ acc.length ≤ j ∧ choose b other most (outs.drop j) acc = R ∧ Below wa.heap.size wa wr) (fun _ i _ => outs.length - (intOf i).toNat)
  case atStart => exact ⟨0, none, 0, [], Nat.zero_le _, rfl, rfl, ⟨by decide, World.ownsRow_nil _ _ _ _⟩, Nat.le_refl _, hR, Below.refl _ _⟩
  case round =>
    obtain ⟨j, Y, cc, acc, hj, rfl, rfl, how, hal, hch, hbr⟩ := hrel
    have hj0 : (0 : Int) ≤ (j : Int) := by omega
    have HOW := Lib.hid how
    have HCH := Lib.hid hch
    have HBF := Lib.hid (HB.out.trans (hbr.mono HB.out.size))
    have HBR := Lib.hid hbr
    clear how hch hR
    by_cases hlt : j < outs.length
    · have hI : (j : Int) < (outs.length : Int) := by omega
      have hRw := HI.out.below HBF.out (Nat.le_refl _)
      obtain ⟨b0, off, rfl, _, _⟩ := hRw.2 (by simpa using (by omega : 0 < outs.length))
      have g1 := iκ_cells hRw hlt
      have hgt : (outs.map Int.ofNat)[j]! = (outs[j]! : Int) := by
        rw [getElem!_pos (outs.map Int.ofNat) j (by simpa using hlt), getElem!_pos outs j hlt]; simp
      rw [hgt] at g1
      have hdr : outs.drop j = outs[j]! :: outs.drop (j + 1) := by rw [getElem!_pos outs j hlt]; exact List.drop_eq_getElem_cons hlt
      have HME : Hid (outs[j]! ∈ outs) := Lib.hid (by rw [getElem!_pos outs j hlt]; exact List.getElem_mem hlt)
      have HCH2 := HCH
      rw [hdr] at HCH2
      clear hgt hRw hbr hdr
      generalize outs[j]! = f at *
      by_cases hfull : acc.length = most
      · have hfB : ((acc.length : Int) == (most : Int)) = true := by rw [beq_iff_eq]; omega
        have HFN : Hid (finish other b.p.m acc = R) := Lib.hid (by rw [← choose_full b other most _ acc hfull]; exact HCH.out)
        clear HCH2 hfB
        subst hfull
        have hb0 : w.heap.size ≤ wr.heap.size := HBF.out.size
        by_cases ha : acc.length = 0
        · obtain rfl : acc = [] := List.eq_nil_of_length_eq_zero ha
          by_cases hp : 0 ≤ other ∧ other < (b.p.m : Int)
          · have hRR : R = (0, [other.toNat]) := by rw [← HFN.out]; unfold finish; rw [if_neg (by simp), if_pos hp]
            have HP1 := Lib.hid (HPL.out wr)
            rw [decide_eq_true hp.1, decide_eq_true hp.2] at HP1
            have HLIT : Hid (OwnK iκ (wr.alloc (.cells #[.int .i64 other] 3)) wr.heap.size 3 (some ⟨wr.heap.size, 0, none⟩) 1 1 ([other.toNat].map Int.ofNat)) := Lib.hid ⟨by decide, by
              have e : (Int.ofNat other.toNat) = other := by simp; omega
              have h := World.ownsRow_lit (e := 3) (size := 1) (base := wr.heap.size) wr #[.int .i64 other] 1 (Nat.le_refl _) (by decide) rfl
              simp only [List.map_cons, List.map_nil, e]
              exact h⟩
            have hRR2 := Lib.hid hRR
            obtain ⟨⟨z0, z1, z2, z3, z4, z5⟩, _⟩ := six_facts (HC.out.below HBR.out (Nat.le_refl _))
            clear HPL HFN HCH hRR hp ha
            go_wp2_with (go_at_call 49; refine HP1.out.mono ?_; rintro e w' ⟨rfl, rfl⟩)
            go_ret2
            refine ⟨⟨_, 1, 1, .nilIface, rfl, ?_, ?_⟩, HBF.out.trans (((Below.refl _ _).alloc (Nat.le_refl _) _).mono hb0)⟩
            · rw [hRR2.out]; exact .nil
            · rw [hRR2.out]; exact HLIT.out.lower hb0
          · have hRR : R = (116, []) := by rw [← HFN.out]; unfold finish; rw [if_neg (by simp), if_neg hp]
            have HP1 := Lib.hid (HPL.out wr)
            have hnb : (decide (0 ≤ other) && decide (other < (b.p.m : Int))) = false := by
              rw [Bool.eq_false_iff]; intro h; simp only [Bool.and_eq_true, decide_eq_true_eq] at h; exact hp h
            rw [hnb] at HP1
            obtain ⟨ad, hE1, hE2⟩ := HE.out.below HBF.out
            have HE1 := Lib.hid hE1
            have hRR2 := Lib.hid hRR
            obtain ⟨⟨z0, z1, z2, z3, z4, z5⟩, _⟩ := six_facts (HC.out.below HBR.out (Nat.le_refl _))
            unfold errV at hE2
            clear HPL HFN HCH hRR hp ha hnb hE1
            go_upto_region 18 with (go_at_call 49; refine HP1.out.mono ?_; rintro e w' ⟨rfl, rfl⟩)
            go_quiet (fail)
            go_wp2
            go_ret2
            refine ⟨⟨none, 0, 0, errV ad, rfl, ?_, ?_⟩, below_drewN HBF.out _⟩
            · rw [hRR2.out]; exact .err 116 ad HE1.out (by decide)
            · rw [hRR2.out]; exact ⟨by decide, World.ownsRow_nil _ _ _ _⟩
        · have hRR : R = (0, acc) := by rw [← HFN.out]; unfold finish; rw [if_pos (fun h => ha (by rw [h]; rfl))]
          have hRR2 := Lib.hid hRR
          have hgt : (0 : Int) < (acc.length : Int) := by omega
          clear HPL HFN HCH hRR ha
          go_wp2
          go_ret2
          refine ⟨⟨Y, acc.length, cc, .nilIface, rfl, ?_, ?_⟩, HBF.out⟩
          · rw [hRR2.out]; exact .nil
          · rw [hRR2.out]; exact HOW.out.lower HB.out.size
      · have hfB : ((acc.length : Int) == (most : Int)) = false := by rw [beq_eq_false_iff_ne]; omega
        by_cases hot : (f : Int) = other
        · subst hot
          have HN : Hid (choose b f most (outs.drop (j + 1)) acc = R) := Lib.hid (by have := HCH2.out; rwa [choose, if_neg hfull, if_pos rfl] at this)
          clear HCH2
          go_wp2_with fail
          go_roundw
          case measure => simp [intOf]; omega
          case rel => exact ⟨j + 1, Y, cc, acc, by omega, by go_num, rfl, HOW.out, by omega, HN.out, HBR.out⟩
        · have hoB : ((f : Int) == other) = false := by rw [beq_eq_false_iff_ne]; exact hot
          have hn := HCH2.out
          rw [choose, if_neg hfull, if_neg hot] at hn
          have HCL := Lib.hid (HOP.out wr HBF.out f HME.out)
          generalize opens b.vars b.p.flows[f]!.cond = r at *
          obtain ⟨cd, is⟩ := r
          obtain ⟨⟨z0, z1, z2, z3, z4, z5⟩, _⟩ := six_facts (HC.out.below HBR.out (Nat.le_refl _))
          by_cases he : cd = 0
          · subst he
            dsimp only at *
            rw [if_neg (by simp)] at hn
            cases is with
            | false =>
              rw [if_neg (by simp)] at hn
              have HN := Lib.hid hn
              clear hn HCH2
              go_wp2_with (go_at_call 124; refine HCL.out.mono ?_; rintro e w' ⟨⟨ev, rfl, hs⟩, hb'⟩; obtain rfl := seen_nil hs; have HB2 := Lib.hid hb'; clear hs hb')
              go_roundw
              case measure => simp [intOf]; omega
              case rel => exact ⟨j + 1, Y, cc, acc, by omega, by go_num, rfl, HOW.out.below HB2.out (Nat.le_refl _), by omega, HN.out, HBR.out.trans (HB2.out.mono HBR.out.size)⟩
            | true =>
              rw [if_pos rfl] at hn
              have HN := Lib.hid hn
              clear hn HCH2
              go_upto_region 12 with (go_at_call 124; refine HCL.out.mono ?_; rintro e w' ⟨⟨ev, rfl, hs⟩, hb'⟩; obtain rfl := seen_nil hs; have HB2 := Lib.hid hb'; clear hs hb')
              have hba : Below w'.heap.size w' (w'.alloc (.cells #[.int .i64 (f : Int)] 3)) := (Below.refl _ _).alloc (Nat.le_refl _) _
              have hbb := HB2.out.trans (hba.mono HB2.out.size)
              have HOa := Lib.hid (HOW.out.below hbb (Nat.le_refl _))
              have HBa := Lib.hid (HBR.out.trans (hbb.mono HBR.out.size))
              have HR : Hid (KRow iκ (w'.alloc (.cells #[.int .i64 (f : Int)] 3)) (w'.heap.size + 1) (some ⟨w'.heap.size, 0, none⟩) 1 [(f : Int)]) := Lib.hid (KRow.lit (κ := iκ) w' 3 [(f : Int)] #[.int .i64 f] rfl)
              have hbase : wa.heap.size ≤ (w'.alloc (.cells #[.int .i64 (f : Int)] 3)).heap.size := HBa.out.size
              have hal2 : acc.length ≤ 1000000 := by omega
              clear z0 z1 z2 z3 z4 z5 hba hbb
              go_wp2_with (at_builtin; refine append_k (κ := iκ) rfl (.tmp 46) (.tmp 48) 22 3 i0 _ 8 Tryz.underlying22 hi0 hz0 hz1 hz2 rfl rfl _ wa.heap.size _ Y acc.length cc _ ⟨w'.heap.size, 0, none⟩ (f : Int) rfl HOa.out rfl HR.out hal2 (by decide) hbase ?_; intro Y' cc' w2 ho' hg'; have HO' := Lib.hid ho'; have HG' := Lib.hid (HBa.out.trans ((hg'.below HOa.out.2 hbase).mono (Nat.le_refl _))); clear ho' hg')
              go_roundw
              case measure => simp [intOf]; omega
              case rel => exact ⟨j + 1, Y', cc', acc ++ [f], by omega, by go_num, by rw [List.length_append]; rfl, by rw [List.length_append, List.map_append]; exact HO'.out, by rw [List.length_append]; simp; omega, HN.out, HG'.out⟩
          · rw [if_pos he] at hn
            have HN := Lib.hid hn
            have HE0 := Lib.hid he
            clear hn HCH2 he
            dsimp only at HCL HN
            go_wp2_with (go_at_call 124; refine HCL.out.mono ?_; rintro e w' ⟨⟨ev, rfl, hs⟩, hb'⟩; obtain ⟨ae, rfl, hka⟩ := seen_err hs HE0.out; have HKA := Lib.hid hka; have HB2 := Lib.hid hb'; clear hs hb' hka; unfold errV)
            go_ret2
            refine ⟨⟨none, 0, 0, errV ae, rfl, ?_, ?_⟩, HBF.out.trans (HB2.out.mono HBF.out.size)⟩
            · rw [← HN.out]; exact .err cd ae HKA.out HE0.out
            · rw [← HN.out]; exact ⟨by decide, World.ownsRow_nil _ _ _ _⟩
    · obtain rfl : j = outs.length := by omega
      have hI : ¬ ((outs.length : Int) < (outs.length : Int)) := by omega
      have HFN : Hid (finish other b.p.m acc = R) := Lib.hid (by have := HCH.out; rwa [List.drop_length, choose_nil] at this)
      clear hbr
      have hb0 : w.heap.size ≤ wr.heap.size := HBF.out.size
      by_cases ha : acc.length = 0
      · obtain rfl : acc = [] := List.eq_nil_of_length_eq_zero ha
        by_cases hp : 0 ≤ other ∧ other < (b.p.m : Int)
        · have hRR : R = (0, [other.toNat]) := by rw [← HFN.out]; unfold finish; rw [if_neg (by simp), if_pos hp]
          have HP1 := Lib.hid (HPL.out wr)
          rw [decide_eq_true hp.1, decide_eq_true hp.2] at HP1
          have HLIT : Hid (OwnK iκ (wr.alloc (.cells #[.int .i64 other] 3)) wr.heap.size 3 (some ⟨wr.heap.size, 0, none⟩) 1 1 ([other.toNat].map Int.ofNat)) := Lib.hid ⟨by decide, by
            have e : (Int.ofNat other.toNat) = other := by simp; omega
            have h := World.ownsRow_lit (e := 3) (size := 1) (base := wr.heap.size) wr #[.int .i64 other] 1 (Nat.le_refl _) (by decide) rfl
            simp only [List.map_cons, List.map_nil, e]
            exact h⟩
          have hRR2 := Lib.hid hRR
          obtain ⟨⟨z0, z1, z2, z3, z4, z5⟩, _⟩ := six_facts (HC.out.below HBR.out (Nat.le_refl _))
          clear HPL HFN HCH hRR hp ha
          go_wp2_with (go_at_call 49; refine HP1.out.mono ?_; rintro e w' ⟨rfl, rfl⟩)
          go_ret2
          refine ⟨⟨_, 1, 1, .nilIface, rfl, ?_, ?_⟩, HBF.out.trans (((Below.refl _ _).alloc (Nat.le_refl _) _).mono hb0)⟩
          · rw [hRR2.out]; exact .nil
          · rw [hRR2.out]; exact HLIT.out.lower hb0
        · have hRR : R = (116, []) := by rw [← HFN.out]; unfold finish; rw [if_neg (by simp), if_neg hp]
          have HP1 := Lib.hid (HPL.out wr)
          have hnb : (decide (0 ≤ other) && decide (other < (b.p.m : Int))) = false := by
            rw [Bool.eq_false_iff]; intro h; simp only [Bool.and_eq_true, decide_eq_true_eq] at h; exact hp h
          rw [hnb] at HP1
          obtain ⟨ad, hE1, hE2⟩ := HE.out.below HBF.out
          have HE1 := Lib.hid hE1
          have hRR2 := Lib.hid hRR
          obtain ⟨⟨z0, z1, z2, z3, z4, z5⟩, _⟩ := six_facts (HC.out.below HBR.out (Nat.le_refl _))
          unfold errV at hE2
          clear HPL HFN HCH hRR hp ha hnb hE1
          go_upto_region 18 with (go_at_call 49; refine HP1.out.mono ?_; rintro e w' ⟨rfl, rfl⟩)
          go_quiet (fail)
          go_wp2
          go_ret2
          refine ⟨⟨none, 0, 0, errV ad, rfl, ?_, ?_⟩, below_drewN HBF.out _⟩
          · rw [hRR2.out]; exact .err 116 ad HE1.out (by decide)
          · rw [hRR2.out]; exact ⟨by decide, World.ownsRow_nil _ _ _ _⟩
      · have hRR : R = (0, acc) := by rw [← HFN.out]; unfold finish; rw [if_pos (fun h => ha (by rw [h]; rfl))]
        have hRR2 := Lib.hid hRR
        have hgt : (0 : Int) < (acc.length : Int) := by omega
        clear HPL HFN HCH hRR ha
        go_wp2
        go_ret2
        refine ⟨⟨Y, acc.length, cc, .nilIface, rfl, ?_, ?_⟩, HBF.out⟩
        · rw [hRR2.out]; exact .nil
        · rw [hRR2.out]; exact HOW.out.lower HB.out.size
end Pr
end Go.Proofs.YtkffnfgdmcebdaaGreatDoor
