/- Package flow: all that are ready are Stuck. Package flow: New; Done. -/
import Derived.Test.YtkffnfgdmcebdaaGreatDoorYJoint14
namespace Go.Proofs.YtkffnfgdmcebdaaGreatDoor
open Go.RowKit

namespace Pr
open Classical in
theorem stops_toks {b : Bd} {l : List Tk} (hl : l.length = b.toks.length) (h : ∀ k, k < b.toks.length → l[k]! = if k < b.toks.length ∧ Rdy b (k : Int) then { b.toks[k]! with stuck := true } else b.toks[k]!) : l = (stops b).toks := by
  apply List.ext_getElem
  · rw [stops_len, hl]
  · intro k h1 h2
    have hk : k < b.toks.length := by omega
    have e := h k hk
    rw [getElem!_pos l k h1] at e
    have e2 := stops_at b hk
    rw [getElem!_pos (stops b).toks k h2] at e2
    rw [e, e2]
    by_cases hr : Rdy b (k : Int)
    · rw [if_pos ⟨hk, hr⟩, if_pos hr]
    · rw [if_neg (fun h => hr h.2), if_neg hr]
open Classical in
set_option maxHeartbeats 6400000 in
set_option maxRecDepth 10000 in
theorem fstop_any (q : Nat) (x : BdV) (r : Rn) (w : World) (h : RnC w q x r) (hf : r.b.Few) (ha : Asc r.b.toks) :
    Calls Tryz.prog 69 #[.pointer (some ⟨q, 0, none⟩)] w fun e w' => e = .returned (.tuple #[]) ∧ (∃ x', RnC w' q x' { r with b := stops r.b }) ∧ w.grownBy w' (some q) := by
  obtain ⟨b, mv, fl⟩ := r
  dsimp only at *
  have et := h.inn.ht
  have HT := Lib.hid hf.t
  have HRY := Lib.hid (fun (k : Nat) (W : World) (hb : Below w.heap.size w W) => ready_any (k : Int) x b W (h.inn.on hb) hf ha)
  have HC := Lib.hid h.cel
  have HIN := Lib.hid h.inn
  have HOF := Lib.hid h.off
  have hql := h.cel.lt
  clear h hf ha
  obtain ⟨s, A, n, c, F, m, d, V, nv, cv, T, nt, ct, kx⟩ := x
  unfold BdV.val at HRY
  dsimp only [rnL] at *
  subst et
  have HCL := Lib.hid (tclone_any T b.toks.length ct b.toks w HIN.out.toks HIN.out.nT (by have := HT.out; omega))
  obtain ⟨⟨z0, z1, z2, z3, z4, z5, z6, z7⟩, _⟩ := eight_facts HC.out
  go_enter Tryz.func69, Tryz.ntmps69
  go_upto_region 1 with (go_at_call 78; refine HCL.out.mono ?_; rintro e w1 ⟨⟨A', c', rfl, hO⟩, hb1⟩)
  clear z0 z1 z2 z3 z4 z5 z6 z7 HCL
  have HO := Lib.hid hO
  have HB1 := Lib.hid hb1
  clear hO hb1
  go_wp2
  go_loopw [12] (fun i wr => ∃ (j : Nat) (l : List Tk), j ≤ b.toks.length ∧ i = .int .i64 j ∧ l.length = b.toks.length ∧ (∀ k, k < b.toks.length → l[k]! = if k < j ∧ Rdy b (k : Int) then { b.toks[k]! with stuck := true } else b.toks[k]!) ∧ OwnK Tk.κ wr w.heap.size 35 A' b.toks.length c' l ∧ Below w.heap.size w wr) (fun i _ => b.toks.length - (intOf i).toNat)
  case atStart => exact ⟨0, b.toks, Nat.zero_le _, rfl, rfl, fun k _ => by rw [if_neg (fun h => Nat.not_lt_zero k h.1)], HO.out, HB1.out⟩
  case round =>
    obtain ⟨j, l, hj, rfl, hll, hat, hor, hbr⟩ := hrel
    by_cases hlt : j < b.toks.length
    · have hI : (j : Int) < (b.toks.length : Int) := by omega
      have hj0 : (0 : Int) ≤ (j : Int) := by omega
      have hwj : IntKind.i64.wrap ((j : Int) + 1) = (j : Int) + 1 := by have := HT.out; rw [IntKind.wrap_i64]; omega
      have HBR := Lib.hid hbr
      have HOR := Lib.hid hor
      have HAT := Lib.hid hat
      obtain ⟨⟨z0, z1, z2, z3, z4, z5, z6, z7⟩, _⟩ := eight_facts (HC.out.below hbr (Nat.le_refl _))
      have HRD := Lib.hid (HRY.out j wr hbr)
      obtain ⟨g, hg, hgb, hgl⟩ := hor.some_of (by omega)
      subst hg
      clear hbr hor hat
      go_upto_region 5 with (go_at_call 14; refine HRD.out.mono ?_; rintro e w2 ⟨⟨rr, rfl, hr⟩, hb2⟩; have HB2 := Lib.hid (HBR.out.trans (hb2.mono HBR.out.size)); have HO2 := Lib.hid (HOR.out.below hb2 (Nat.le_refl _)); have HR := Lib.hid hr; clear hr hb2; cases rr)
      · go_roundw
        case measure => simp [intOf]; omega
        case rel =>
          refine ⟨j + 1, l, by omega, by go_num, hll, fun k hk => ?_, HO2.out, HB2.out⟩
          rw [HAT.out k hk]
          by_cases e : k = j
          · subst e
            have hn : ¬ Rdy b (k : Int) := fun h => by have := HR.out.2 h; cases this
            rw [if_neg (fun h => hn h.2), if_neg (fun h => hn h.2)]
          · by_cases hk2 : k < j
            · by_cases hr : Rdy b (k : Int)
              · rw [if_pos ⟨hk2, hr⟩, if_pos ⟨by omega, hr⟩]
              · rw [if_neg (fun h => hr h.2), if_neg (fun h => hr h.2)]
            · rw [if_neg (fun h => hk2 h.1), if_neg (fun h => by omega)]
      · have hst : w2.cell? ⟨g, j * 4 + 3, none⟩ = some (.bool l[j]!.stuck) := by
          have h := (tk_at HO2.out.row hlt).2.2.2
          rwa [Nat.zero_add] at h
        have hfz : w2.frozen? ⟨g, j * 4 + 3, none⟩ = false := HO2.out.frozen _
        have HS := Lib.hid (HO2.out.set (fun t : Tk => { t with stuck := true }) 3 (.bool true) (by decide) (fun t => rfl) (j := j) (by omega))
        have HBS := Lib.hid (HB2.out.setCell (p := ⟨g, j * 4 + 3, none⟩) (by show w.heap.size ≤ g; omega) (.bool true))
        clear z0 z1 z2 z3 z4 z5 z6 z7
        go_wp2
        go_roundw
        case measure => simp [intOf]; omega
        case rel =>
          refine ⟨j + 1, l.modify j (fun t => { t with stuck := true }), by omega, by go_num, by rw [List.length_modify]; exact hll, fun k hk => ?_, HS.out, HBS.out⟩
          have hk1 : k < l.length := by omega
          rw [getElem!_pos _ k (by rw [List.length_modify]; exact hk1), List.getElem_modify, ← getElem!_pos l k hk1, HAT.out k hk]
          by_cases e : j = k
          · subst e
            rw [if_pos rfl, if_neg (fun h => Nat.lt_irrefl _ h.1), if_pos ⟨by omega, HR.out.1 trivial⟩]
          · rw [if_neg e]
            by_cases hk2 : k < j
            · by_cases hr : Rdy b (k : Int)
              · rw [if_pos ⟨hk2, hr⟩, if_pos ⟨by omega, hr⟩]
              · rw [if_neg (fun h => hr h.2), if_neg (fun h => hr h.2)]
            · rw [if_neg (fun h => hk2 h.1), if_neg (fun h => by omega)]
    · have hI : ¬ (j : Int) < (b.toks.length : Int) := by omega
      obtain rfl : j = b.toks.length := by omega
      have hls := stops_toks hll hat
      have HBR := Lib.hid hbr
      have HOR := Lib.hid hor
      have HLS := Lib.hid hls
      have HCR : Hid (Cel wr q [.string s, .slice A n c, .slice F m d, .slice V nv cv, .slice T b.toks.length ct, .int .i64 kx, .int .i64 (mv : Int), .string fl]) := Lib.hid (HC.out.below hbr (Nat.le_refl _))
      obtain ⟨⟨z0, z1, z2, z3, z4, z5, z6, z7⟩, f0, f1, f2, f3, f4, f5, f6, f7⟩ := eight_facts HCR.out
      clear hbr hor hat hls
      go_wp2
      go_end0
      have hsg : wr.grownBy (wr.setCell ⟨q, 4, none⟩ (.slice A' b.toks.length c')) (some q) := grown_setCell wr ⟨q, 4, none⟩ _
      have hk := HOR.out.kept hsg (fun a ha e => by have h1 := (HOR.out.block ha).1; have h2 : q = a.block := Option.some.inj e; omega)
      refine ⟨rfl, ⟨⟨s, A, n, c, F, m, d, V, nv, cv, A', b.toks.length, c', kx⟩, ⟨HCR.out.set (i := 4) (by simp) _, ?_, ?_⟩⟩, grown_trans (grown_below (q := q) HBR.out) hsg⟩
      · have hi := (HIN.out.on HBR.out).kept (Nat.le_refl _) hsg HOF.out
        have := (hi.mono (B' := (wr.setCell ⟨q, 4, none⟩ (.slice A' b.toks.length c')).heap.size) (by simp)).toks_of (l := l) (nx := b.next) hk.row hk.nn hi.k
        rw [HLS.out] at this
        exact this
      · rintro a (ha | ha | ha | ha)
        · exact HOF.out a (.inl ha)
        · exact HOF.out a (.inr (.inl ha))
        · exact HOF.out a (.inr (.inr (.inl ha)))
        · have := (HOR.out.block ha).1; omega
end Pr
end Go.Proofs.YtkffnfgdmcebdaaGreatDoor
namespace Go.Proofs.YtkffnfgdmcebdaaGreatDoor
open Go.RowKit

namespace Pr
/-- A new runner. -/
def rn0 (p : P) (vars : List Vr.V) : Rn := ⟨⟨p, vars, [⟨1, 0, -1, false⟩], 2⟩, 0, no⟩
/-- A process that came in, or was made: where its rows lie. -/
structure PrV where
  A : Option Addr
  n : Nat
  c : Nat
  F : Option Addr
  m : Nat
  d : Nat
structure PrIn (w : World) (B : Nat) (y : PrV) (p : P) : Prop where
  nodes : KRow Nd.κ w B y.A y.n p.nodes
  flows : KRow Fl.κ w B y.F y.m p.flows
  nA : nilOk y.A y.n y.c
  nF : nilOk y.F y.m y.d
set_option maxHeartbeats 3200000 in
set_option maxRecDepth 10000 in
theorem fnew_any (y : PrV) (p : P) (V : Option Addr) (nv cv : Nat) (vars : List Vr.V) (w : World) (hp : PrIn w w.heap.size y p) (hv : KRow Vκ w w.heap.size V nv vars) (hV : nilOk V nv cv) (hn : p.n ≤ 100000) (hm : p.m ≤ 90000) (hl : vars.length ≤ 100000) :
    Calls Tryz.prog 24 #[.agg #[.string p.name, .slice y.A y.n y.c, .slice y.F y.m y.d], .slice V nv cv] w fun e w' => (∃ (q : Nat) (x : BdV), e = .returned (.pointer (some ⟨q, 0, none⟩)) ∧ w.heap.size ≤ q ∧ RnC w' q x (rn0 p vars)) ∧ Below w.heap.size w w' := by
  obtain ⟨A, n, c, F, m, d⟩ := y
  obtain ⟨hN, hF, hnA, hnF⟩ := hp
  dsimp only at *
  have hb1 : Below w.heap.size w (w.alloc (.cells #[.string p.name, .slice A n c, .slice F m d] 30)) := (Below.refl _ _).alloc (Nat.le_refl _) _
  have hb2 := hb1.alloc hb1.size (.cells #[.string p.name, .slice A n c, .slice F m d, .slice V nv cv, .slice none 0 0, .int .i64 1] 38)
  have hb3 := hb2.alloc hb2.size (.cells #[.int .i64 0, .int .i64 0, .int .i64 (-1), .bool false] 35)
  have HB3 := Lib.hid hb3
  have HR := Lib.hid (KRow.lit (κ := Tk.κ) ((w.alloc (.cells #[.string p.name, .slice A n c, .slice F m d] 30)).alloc (.cells #[.string p.name, .slice A n c, .slice F m d, .slice V nv cv, .slice none 0 0, .int .i64 1] 38)) 35 [⟨0, 0, -1, false⟩] #[.int .i64 0, .int .i64 0, .int .i64 (-1), .bool false] rfl)
  have esz : ((w.alloc (.cells #[.string p.name, .slice A n c, .slice F m d] 30)).alloc (.cells #[.string p.name, .slice A n c, .slice F m d, .slice V nv cv, .slice none 0 0, .int .i64 1] 38)).heap.size = w.heap.size + 1 + 1 := by simp
  rw [esz] at HR
  have hin : BdIn w w.heap.size ⟨p.name, A, n, c, F, m, d, V, nv, cv, none, 0, 0, 1⟩ ⟨p, vars, [], 1⟩ := ⟨rfl, rfl, hN, hF, hv, KRow.nil _ _ _, hnA, hnF, hV, fun _ => ⟨rfl, rfl⟩⟩
  have HPT := Lib.hid (put_any ⟨p.name, A, n, c, F, m, d, V, nv, cv, none, 0, 0, 1⟩ ⟨p, vars, [], 1⟩ (some ⟨w.heap.size + 1 + 1, 0, none⟩) 1 1 [⟨0, 0, -1, false⟩] _ (hin.on HB3.out) ⟨hn, by show p.m ≤ 100000; omega, hl, by show 0 ≤ 100000; decide, by show (-1000000000 : Int) ≤ 1; decide, by show (1 : Int) ≤ 1000000000; decide⟩ (HR.out.mono (by simp)) (by decide))
  have hput : (⟨p, vars, [], 1⟩ : Bd).put [⟨0, 0, -1, false⟩] = ⟨p, vars, [⟨1, 0, -1, false⟩], 2⟩ := rfl
  rw [hput] at HPT
  unfold BdV.val at HPT
  dsimp only at HPT
  unfold rn0
  clear hb1 hb2 hb3 hput hin hN hF hv hnA hnF hV HR esz
  go_enter Tryz.func24, Tryz.ntmps24
  go_wp2_with (go_at_call 42; refine HPT.out.mono ?_; rintro e w1 ⟨⟨⟨ys, yA, yn, yc, yF, ym, yd, yV, ynv, ycv, yT, ynt, yct, yk⟩, rfl, hO⟩, hb4⟩; have HO := Lib.hid hO; have HB4 := Lib.hid (HB3.out.trans (hb4.mono HB3.out.size)); clear hO hb4; dsimp only)
  go_ret
  have hba : Below w1.heap.size w1 (w1.alloc (.cells #[.string ys, .slice yA yn yc, .slice yF ym yd, .slice yV ynv ycv, .slice yT ynt yct, .int .i64 yk, .int .i64 0, .string ⟨#[]⟩] 76)) := (Below.refl _ _).alloc (Nat.le_refl _) _
  refine ⟨⟨w1.heap.size, ⟨ys, yA, yn, yc, yF, ym, yd, yV, ynv, ycv, yT, ynt, yct, yk⟩, rfl, HB4.out.size, ⟨Cel.lit w1 #[.string ys, .slice yA yn yc, .slice yF ym yd, .slice yV ynv ycv, .slice yT ynt yct, .int .i64 yk, .int .i64 0, .string ⟨#[]⟩] 76, HO.out.inn.on hba, ?_⟩⟩, HB4.out.trans (hba.mono HB4.out.size)⟩
  rintro a (ha | ha | ha | ha)
  · have := (HO.out.nodes.block ha).2; omega
  · have := (HO.out.flows.block ha).2; omega
  · have := (HO.out.vars.block ha).2; omega
  · have := (HO.out.toks.block ha).2; omega
theorem fdone_any (q : Nat) (x : BdV) (r : Rn) (w : World) (h : RnC w q x r) :
    Calls Tryz.prog 40 #[.pointer (some ⟨q, 0, none⟩)] w fun e w' => e = .returned (.bool (decide (r.b.toks.length = 0))) ∧ w' = w := by
  have et := h.inn.ht
  obtain ⟨⟨z0, z1, z2, z3, z4, z5, z6, z7⟩, _⟩ := eight_facts h.cel
  rw [et] at z4
  have HE : Hid (((r.b.toks.length : Int) == 0) = decide (r.b.toks.length = 0)) := Lib.hid (by rw [Bool.eq_iff_iff, beq_iff_eq, decide_eq_true_eq]; omega)
  clear h et
  go_enter Tryz.func40, Tryz.ntmps40
  go_wp2
  go_ret
  refine ⟨?_, rfl⟩
  rw [← HE.out]
  rfl
set_option maxHeartbeats 1600000 in
theorem ffirst_any (w : World) : Calls Tryz.prog 23 #[] w fun e w' => e = .returned (.bool true) ∧ Below w.heap.size w w' := by
  have HN := Lib.hid (fnew_any ⟨none, 0, 0, none, 0, 0⟩ ⟨no, [], []⟩ none 0 0 [] w ⟨KRow.nil _ _ _, KRow.nil _ _ _, fun _ => ⟨rfl, rfl⟩, fun _ => ⟨rfl, rfl⟩⟩ (KRow.nil _ _ _) (fun _ => ⟨rfl, rfl⟩) (by decide) (by decide) (by decide))
  go_enter Tryz.func23, Tryz.ntmps23
  go_upto_region 2 with (go_at_call 24; refine HN.out.mono ?_; rintro e w1 ⟨⟨q, x, rfl, hq, hr⟩, hb1⟩)
  have et : x.nt = 1 := hr.inn.ht
  have ek : x.k = 2 := hr.inn.k
  have HB1 := Lib.hid hb1
  obtain ⟨⟨z0, z1, z2, z3, z4, z5, z6, z7⟩, _⟩ := eight_facts hr.cel
  rw [et] at z4
  rw [ek] at z5
  clear hr hb1
  go_wp2
  go_ret
  exact ⟨rfl, HB1.out⟩
end Pr
end Go.Proofs.YtkffnfgdmcebdaaGreatDoor
