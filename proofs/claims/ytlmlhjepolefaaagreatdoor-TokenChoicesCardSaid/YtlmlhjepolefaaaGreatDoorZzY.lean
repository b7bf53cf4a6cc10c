/- TokenChoices: the walk. -/
import Derived.Test.YtlmlhjepolefaaaGreatDoorZwY
import Derived.Test.YtlmlhjepolefaaaGreatDoorYTokenChoices16
import Derived.Test.YtlmlhjepolefaaaGreatDoorYTokenChoices4
import Derived.Test.YtlmlhjepolefaaaGreatDoorSeeY
import Derived.Deep.CutRange
namespace Go.Proofs.YtlmlhjepolefaaaGreatDoor
open Go.RowKit

namespace Pr
/-- A byte as a text, of a slice that was just laid. -/
theorem one_stringC (xb : UInt8) (W : World) (B : Nat) (h : W.cell? ⟨B, 0, none⟩ = some (.int .u8 (xb.toNat : Int))) : (convert 48 9 (.slice (some ⟨B, 0, none⟩) 1 1)).run Tryz.prog W = .ok (.string ⟨#[xb]⟩) W := by
  have hb : Bytes W W.heap.size (some ⟨B, 0, none⟩) 1 [xb] := ⟨rfl, fun _ => ⟨B, 0, rfl, cell_lt h, fun k v hv => by
    have hk : k < 1 := by simpa using (List.getElem?_eq_some_iff.1 hv).1
    obtain rfl : k = 0 := by omega
    simp at hv
    rw [← hv]
    exact h⟩⟩
  exact Bytes.string (P := Tryz.prog) hb (fun h => by cases h) 1 48 9 5 Tryz.underlying48 Tryz.underlying5 Tryz.underlying9
/-- A process stays where a row of numbers of one's own is appended to. -/
theorem C.other {w w' : World} {base q B : Nat} {p : P} {W : Option Addr} {n c : Nat} {l : List Int} {v : Value} (h : C w base q p) (ho : OwnK iκ w B 3 W n c l) (hB : q < B) (hg : Grew w w' (.slice W n c) v) : C w' base q p := by
  obtain ⟨A, n', c', F, m, d, hc, hn, hf, h1, h2⟩ := h.ex
  have hrw : ∀ b : Nat, (∀ a, W = some a → a.block ≠ b) → (Value.slice W n c).ownBlock ≠ some b := by
    intro b hb he
    cases W with
    | none => cases he
    | some a => exact hb a rfl (Option.some.inj he)
  exact ⟨⟨A, n', c', F, m, d, hc.kept hg.grown (hrw q fun a ha => by have := (ho.block ha).1; omega), hn.kept hg.grown fun a ha => hrw a.block fun a' ha' => ho.apart hn (by decide) ha' ha, hf.kept hg.grown fun a ha => hrw a.block fun a' ha' => ho.apart hf (by decide) ha' ha, h1, h2⟩, h.low⟩
theorem bdIn_C {inc : Bool} {o nn : Nat} {lim : Nat → Nat} {w : World} {A F : Option Addr} {c d qv qt : Nat} (q1 : KRow Nd.κ w w.heap.size A 3 (bC inc o nn lim).p.nodes) (q2 : KRow Fl.κ w w.heap.size F 5 (bC inc o nn lim).p.flows)
    (q3 : KRow Vκ w w.heap.size (some ⟨qv, 0, none⟩) 1 (bC inc o nn lim).vars) (q4 : KRow Tk.κ w w.heap.size (some ⟨qt, 0, none⟩) 1 (bC inc o nn lim).toks) (q5 : A = none → 3 = 0 ∧ c = 0) (q6 : F = none → 5 = 0 ∧ d = 0) :
    BdIn w w.heap.size ⟨⟨#[112]⟩, A, 3, c, F, 5, d, some ⟨qv, 0, none⟩, 1, 1, some ⟨qt, 0, none⟩, 1, 1, 6⟩ (bC inc o nn lim) :=
  ⟨rfl, rfl, q1, q2, q3, q4, q5, q6, (fun h => nomatch h), (fun h => nomatch h)⟩
theorem condOk_C {E : Int → Option Addr} {inc : Bool} {o nn : Nat} {lim : Nat → Nat} {wb : World} {A : Option Addr} (hnn : nn < 9) (hl : ∀ i, lim i < 9) (hE : CoErrsE wb E) (hV : VarsC wb A 1 (vrC nn)) (u : Nat) (hu : (bC inc o nn lim).toks[(0 : Nat)]!.node = (u : Int))
    (f : Nat) (hf : f ∈ outsB (bC inc o nn lim).p u) : CondOk E wb A 1 1 (bC inc o nn lim).vars (bC inc o nn lim).p.flows[f]!.cond := by
  have hu : (1 : Int) = (u : Int) := hu
  obtain rfl : u = 1 := by omega
  have hf : f ∈ [1, 2, 3, 4] := hf
  have hf4 : 1 ≤ f ∧ f ≤ 4 := by
    simp only [List.mem_cons, List.not_mem_nil, or_false] at hf
    omega
  have hc : (bC inc o nn lim).p.flows[f]!.cond = cndC (lim (f - 1)) := by
    have h := condC inc o lim (j := f - 1) (by omega)
    rw [show 1 + (f - 1) = f by omega] at h
    show ((pC inc o lim).flows[f]!).cond = _
    rw [h]
  rw [hc]
  refine .inr fun W hW => ?_
  have h := cholds_any (c := 1) hE hV (txQ (lim (f - 1))) (txQ_fit (hl _)) hW
  rw [holdC _ (hl _) _ hnn] at h
  rw [show opens (bC inc o nn lim).vars (cndC (lim (f - 1))) = (0, decide (lim (f - 1) ≤ nn)) from opensC (hl _) hnn]
  exact h
theorem few_C {inc : Bool} {o nn : Nat} {lim : Nat → Nat} : (bC inc o nn lim).Few :=
  ⟨by show 3 ≤ 100000; decide, by show (pC inc o lim).m ≤ 100000; rw [pC_m]; decide, by show 1 ≤ 100000; decide, by show 1 ≤ 100000; decide, by show (-1000000000 : Int) ≤ 6; decide, by show (6 : Int) ≤ 1000000000; decide⟩
theorem stepC_any {inc : Bool} {o nn : Nat} {lim : Nat → Nat} {wb : World} {x : BdV} (ads : List Addr) (hE : Errs wb 185 sents ads) (hco : CoErrsE wb (errMap pos16 ads)) (hnn : nn < 9) (hl : ∀ i, lim i < 9) (ho : o < 5)
    (hin : BdIn wb wb.heap.size x (bC inc o nn lim)) (hV : VarsC wb x.V 1 (vrC nn)) (hnv : x.nv = 1) (hcv : x.cv = 1) :
    Calls Tryz.prog 9 #[x.val, .int .i64 0] wb (StepOut (if wantF inc o nn lim = [] then (stuckAt (bC inc o nn lim) 0, false, no, 116) else (yC inc o nn lim, true, no, 0)) (errMap pos16 ads) wb) := by
  have h := step_any (errMap pos16 ads) 0 x (bC inc o nn lim) wb hin few_C (by show (pC inc o lim).m ≤ 90000; rw [pC_m]; decide) (List.pairwise_singleton _ _) rdyC (fun u hu f hf => by rw [hnv, hcv]; exact condOk_C hnn hl hco hV u hu f hf) (errIn_of hE 116 15 _ rfl rfl) (errIn_of hE 104 3 _ rfl rfl)
  rw [bstepC hnn hl ho] at h
  exact h
theorem le13 (n : Nat) : n + 1 ≤ n + 1 + 1 + 1 := by omega
theorem le23 (n : Nat) : n + 1 + 1 ≤ n + 1 + 1 + 1 := by omega
set_option maxHeartbeats 6400000 in
set_option maxRecDepth 10000 in
theorem tokenChoices_walk0 (a b c d n : Int) (inc : Bool) (oth : Int) (ads : List Addr) (w : World) (ha1 : -9223372036854775808 ≤ a) (ha2 : a ≤ 9223372036854775807) (hb1 : -9223372036854775808 ≤ b) (hb2 : b ≤ 9223372036854775807)
    (hc1 : -9223372036854775808 ≤ c) (hc2 : c ≤ 9223372036854775807) (hd1 : -9223372036854775808 ≤ d) (hd2 : d ≤ 9223372036854775807) (hn1 : -9223372036854775808 ≤ n) (hn2 : n ≤ 9223372036854775807) (ho1 : -9223372036854775808 ≤ oth) (ho2 : oth ≤ 9223372036854775807)
    (hE : Errs w 185 sents ads) (hW : CoWords w) :
    Calls Tryz.prog 4 #[.int .i64 a, .int .i64 b, .int .i64 c, .int .i64 d, .int .i64 n, .bool inc, .int .i64 oth] w fun e w' => e = .returned (.bool true) ∧ Below w.heap.size w w' := by
  obtain ⟨i0, hi0, hx0, hx1, hx2⟩ := info_parts info_int
  obtain ⟨i1, hi1, hy0, hy1, hy2⟩ := info_parts info_flow
  obtain ⟨l0, hle0, hl0⟩ := nmb_nat a 9 (by omega)
  obtain ⟨l1, hle1, hl1⟩ := nmb_nat b 9 (by omega)
  obtain ⟨l2, hle2, hl2⟩ := nmb_nat c 9 (by omega)
  obtain ⟨l3, hle3, hl3⟩ := nmb_nat d 9 (by omega)
  obtain ⟨nn, hne, hnl⟩ := nmb_nat n 9 (by omega)
  obtain ⟨o, hoe, hol⟩ := nmb_nat oth 5 (by omega)
  have N0 := Lib.hid (fun w => mnumber_any a 9 w (by omega) ha1 ha2 (by omega))
  have N1 := Lib.hid (fun w => mnumber_any b 9 w (by omega) hb1 hb2 (by omega))
  have N2 := Lib.hid (fun w => mnumber_any c 9 w (by omega) hc1 hc2 (by omega))
  have N3 := Lib.hid (fun w => mnumber_any d 9 w (by omega) hd1 hd2 (by omega))
  have N4 := Lib.hid (fun w => mnumber_any n 9 w (by omega) hn1 hn2 (by omega))
  have N5 := Lib.hid (fun w => mnumber_any oth 5 w (by omega) ho1 ho2 (by omega))
  rw [hle0] at N0
  rw [hle1] at N1
  rw [hle2] at N2
  rw [hle3] at N3
  rw [hne] at N4
  rw [hoe] at N5
  have HL := Lib.hid (show l0 < 9 ∧ l1 < 9 ∧ l2 < 9 ∧ l3 < 9 by omega)
  have HNN := Lib.hid (show nn < 9 by omega)
  have HO := Lib.hid (show o < 5 by omega)
  have HSUM : Hid (IntKind.i64.wrap ((o : Int) - 1) = (o : Int) - 1) := Lib.hid (by rw [IntKind.wrap_i64]; omega)
  have HE := Lib.hid hE
  have HWD := Lib.hid hW
  clear hle0 hle1 hle2 hle3 hne hoe ha1 ha2 hb1 hb2 hc1 hc2 hd1 hd2 hn1 hn2 ho1 ho2 hl0 hl1 hl2 hl3 hnl hol hE hW
  go_enter Tryz.func4, Tryz.ntmps4
  go_wp2_with fail
  refine (tfirst_any w).mono ?_
  rintro e w1 ⟨rfl, hb1⟩
  have HB1 := Lib.hid hb1
  clear hb1
  go_wp2_with fail
  refine (N0.out _).mono ?_
  rintro e wy ⟨rfl, rfl⟩
  go_wp2_with fail
  refine (N1.out _).mono ?_
  rintro e wy ⟨rfl, rfl⟩
  go_wp2_with fail
  refine (N2.out _).mono ?_
  rintro e wy ⟨rfl, rfl⟩
  go_wp2_with fail
  refine (N3.out _).mono ?_
  rintro e wy ⟨rfl, rfl⟩
  go_wp2_with fail
  have HLR := Lib.hid (KRow.lit (κ := iκ) w1 3 [(l0 : Int), l1, l2, l3] #[.int .i64 l0, .int .i64 l1, .int .i64 l2, .int .i64 l3] rfl)
  have hbl : Below w1.heap.size w1 (w1.alloc (.cells #[.int .i64 l0, .int .i64 l1, .int .i64 l2, .int .i64 l3] 3)) := (Below.refl _ _).alloc (Nat.le_refl _) _
  have HBL := Lib.hid (HB1.out.trans (hbl.mono HB1.out.size))
  have hsl : (w1.alloc (.cells #[.int .i64 l0, .int .i64 l1, .int .i64 l2, .int .i64 l3] 3)).heap.size = w1.heap.size + 1 := by simp
  clear hbl HB1
  generalize w1.alloc _ = wl at *
  generalize w1.heap.size = lb at *
  refine (N4.out _).mono ?_
  rintro e wy ⟨rfl, rfl⟩
  go_wp2_with fail
  refine (N5.out _).mono ?_
  rintro e wy ⟨rfl, rfl⟩
  have hs := HSUM.out
  go_upto_region 7 with (fail)
  try rw [hs]
  clear hs N0 N1 N2 N3 N4 N5
  go_upto_if 43 with (fail)
  go_cut [17] from 43 (fun s wx => s = .int .i64 (kdC inc) ∧ wx = wl)
  case first =>
    cases inc with
    | true =>
      go_wp2_with fail
      go_meet
      exact ⟨rfl, rfl⟩
    | false =>
      go_wp2_with fail
      go_meet
      exact ⟨rfl, rfl⟩
  case rest =>
    obtain ⟨rfl, rfl⟩ := hcut
    generalize wc = wl at *
    go_upto_region 11 with (fail)
    have hON := own_lit_k (κ := Nd.κ) wl 26 [Nd.plain 1, gateC inc 0, Nd.plain 2] #[.int .i64 1, .string ⟨#[]⟩, .int .i64 0, .int .i64 0, .int .i64 (-1), .string ⟨#[]⟩, .string ⟨#[]⟩, .int .i64 (-1), .int .i64 (kdC inc), .string ⟨#[]⟩, .int .i64 0, .int .i64 0, .int .i64 (-1), .string ⟨#[]⟩, .string ⟨#[]⟩, .int .i64 (-1), .int .i64 2, .string ⟨#[]⟩, .int .i64 0, .int .i64 0, .int .i64 (-1), .string ⟨#[]⟩, .string ⟨#[]⟩, .int .i64 (-1)] (by decide) rfl (show 3 ≤ maxLen by decide)
    have hbn : Below wl.heap.size wl (wl.alloc (.cells #[.int .i64 1, .string ⟨#[]⟩, .int .i64 0, .int .i64 0, .int .i64 (-1), .string ⟨#[]⟩, .string ⟨#[]⟩, .int .i64 (-1), .int .i64 (kdC inc), .string ⟨#[]⟩, .int .i64 0, .int .i64 0, .int .i64 (-1), .string ⟨#[]⟩, .string ⟨#[]⟩, .int .i64 (-1), .int .i64 2, .string ⟨#[]⟩, .int .i64 0, .int .i64 0, .int .i64 (-1), .string ⟨#[]⟩, .string ⟨#[]⟩, .int .i64 (-1)] 26)) := (Below.refl _ _).alloc (Nat.le_refl _) _
    have hsn : (wl.alloc (.cells #[.int .i64 1, .string ⟨#[]⟩, .int .i64 0, .int .i64 0, .int .i64 (-1), .string ⟨#[]⟩, .string ⟨#[]⟩, .int .i64 (-1), .int .i64 (kdC inc), .string ⟨#[]⟩, .int .i64 0, .int .i64 0, .int .i64 (-1), .string ⟨#[]⟩, .string ⟨#[]⟩, .int .i64 (-1), .int .i64 2, .string ⟨#[]⟩, .int .i64 0, .int .i64 0, .int .i64 (-1), .string ⟨#[]⟩, .string ⟨#[]⟩, .int .i64 (-1)] 26)).heap.size = wl.heap.size + 1 := by simp
    generalize wl.alloc (.cells #[.int .i64 1, .string ⟨#[]⟩, .int .i64 0, .int .i64 0, .int .i64 (-1), .string ⟨#[]⟩, .string ⟨#[]⟩, .int .i64 (-1), .int .i64 (kdC inc), .string ⟨#[]⟩, .int .i64 0, .int .i64 0, .int .i64 (-1), .string ⟨#[]⟩, .string ⟨#[]⟩, .int .i64 (-1), .int .i64 2, .string ⟨#[]⟩, .int .i64 0, .int .i64 0, .int .i64 (-1), .string ⟨#[]⟩, .string ⟨#[]⟩, .int .i64 (-1)] 26) = wn at *
    have hOF := own_lit_k (κ := Fl.κ) wn 29 (flowsC (fun _ => 0) 0) #[.int .i64 0, .int .i64 1, .string ⟨#[]⟩] (by decide) rfl (by decide)
    have hbf : Below wn.heap.size wn (wn.alloc (.cells #[.int .i64 0, .int .i64 1, .string ⟨#[]⟩] 29)) := (Below.refl _ _).alloc (Nat.le_refl _) _
    have hsf : (wn.alloc (.cells #[.int .i64 0, .int .i64 1, .string ⟨#[]⟩] 29)).heap.size = wl.heap.size + 2 := by simp; omega
    generalize wn.alloc (.cells #[.int .i64 0, .int .i64 1, .string ⟨#[]⟩] 29) = wf at *
    have hOP := Cel.lit wf #[.string ⟨#[112]⟩, .slice (some ⟨lb + 1, 0, none⟩) 3 3, .slice (some ⟨lb + 1 + 1, 0, none⟩) 1 1] 32
    have hbp : Below wf.heap.size wf (wf.alloc (.cells #[.string ⟨#[112]⟩, .slice (some ⟨lb + 1, 0, none⟩) 3 3, .slice (some ⟨lb + 1 + 1, 0, none⟩) 1 1] 32)) := (Below.refl _ _).alloc (Nat.le_refl _) _
    have hOP : Cel _ (lb + 1 + 1 + 1) _ := (show wf.heap.size = lb + 1 + 1 + 1 by omega) ▸ hOP
    rw [hsn, hsl] at hOF
    rw [hsl] at hON
    obtain ⟨lim, hlim⟩ : ∃ lim : Nat → Nat, lim = fun i => ([l0, l1, l2, l3] : List Nat)[i]! := ⟨_, rfl⟩
    have hl9 : ∀ i, lim i < 9 := by
      intro i
      rw [hlim]
      obtain ⟨q0, q1, q2, q3⟩ := HL.out
      match i with
      | 0 => exact q0
      | 1 => exact q1
      | 2 => exact q2
      | 3 => exact q3
      | i + 4 => exact Nat.succ_pos _
    have HL9 := Lib.hid hl9
    have HLC : Hid (∀ wr, Below wl.heap.size wl wr → ∀ i, i < 4 → wr.cell? ⟨lb, i, none⟩ = some (.int .i64 (lim i : Int))) := Lib.hid (by
      intro wr hb i hi
      have h := iκ_cells HLR.out hi
      rw [Nat.zero_add] at h
      have h2 : ([(l0 : Int), l1, l2, l3])[i]! = (lim i : Int) := by
        rw [hlim]
        rcases (show i = 0 ∨ i = 1 ∨ i = 2 ∨ i = 3 by omega) with rfl | rfl | rfl | rfl <;> rfl
      rw [h2] at h
      exact below_cells hb h)
    have HC0 : Hid (C (wf.alloc (.cells #[.string ⟨#[112]⟩, .slice (some ⟨lb + 1, 0, none⟩) 3 3, .slice (some ⟨lb + 1 + 1, 0, none⟩) 1 1] 32)) (lb + 1) (lb + 1 + 1 + 1) ⟨⟨#[112]⟩, [Nd.plain 1, gateC inc 0, Nd.plain 2], flowsC lim 0⟩) := Lib.hid ⟨⟨_, 3, 3, _, 1, 1, hOP, ((hON.below hbf (by omega)).below hbp (by omega)), ((hOF.below hbp (Nat.le_refl _)).lower (by omega)), (fun a ha e => by obtain rfl := Option.some.inj ha; have e : lb + 1 = lb + 1 + 1 + 1 := e; omega), (fun a ha e => by obtain rfl := Option.some.inj ha; have e : lb + 1 + 1 = lb + 1 + 1 + 1 := e; omega)⟩, by omega⟩
    have HBP := Lib.hid (hbn.trans ((hbf.trans (hbp.mono hbf.size)).mono hbn.size))
    have HQL := Lib.hid HBL.out.size
    clear hON hOF hOP hbp hbn hbf hsn hsf hl9 hlim HLR
    generalize wf.alloc _ = wp at *
    rw [hsl] at HBP HLC HQL
    have HNE := Lib.hid hsl
    clear hsl
    generalize lb + 1 = nb at *
    go_upto_if 53 with (fail)
    go_cut [6] from 52 (fun s wx => s = .int .i64 ((o : Int) - 1) ∧ C wx nb (nb + 1 + 1) ⟨⟨#[112]⟩, [Nd.plain 1, gateC inc o, Nd.plain 2], flowsC lim 0⟩ ∧ Below nb wl wx)
    case first =>
      have ho5 := HO.out
      by_cases hz : o = 0
      · subst hz
        go_wp2_with fail
        go_meet
        exact ⟨rfl, HC0.out, HBP.out⟩
      · have hge : (o : Int) - 1 ≥ 0 := by omega
        have hadd : (1 : Int) + ((o : Int) - 1) = (o : Int) := by omega
        obtain ⟨A, n', c', F, m, d', hc, _⟩ := HC0.out.ex
        obtain ⟨g, cc, r1, hgb, hgl, hgq, rc, rf, rset⟩ := HC0.out.row (k := 1) (show 1 < 3 by decide)
        obtain ⟨⟨c0, c1, c2⟩, _⟩ := tri_facts hc
        replace r1 : wp.cell? ⟨nb + 1 + 1, 1, none⟩ = some (.slice (some ⟨g, 0, none⟩) 3 cc) := r1
        have r4 : wp.frozen? ⟨g, 12, none⟩ = false := rf 12
        have r5 : wp.cell? ⟨g, 12, none⟩ = some (.int .i64 (-1)) := rc 4 _ rfl
        have hge1 : (1 : Int) ≤ (o : Int) := by omega
        have HS : Hid (C (wp.setCell ⟨g, 12, none⟩ (.int .i64 (o : Int))) nb (nb + 1 + 1) _) := Lib.hid (rset 4 (.int .i64 (o : Int)) (fun x => { x with dflt := (o : Int) }) (by decide) (fun x => rfl))
        have HSB := Lib.hid (HBP.out.setCell (p := ⟨g, 12, none⟩) hgb (.int .i64 (o : Int)))
        have HGT : Hid (gateC inc o = { gateC inc 0 with dflt := (o : Int) }) := Lib.hid (by unfold gateC dfC; rw [if_neg hz])
        clear hc rc rf rset c1 hge
        go_wp2_with fail
        go_meet
        exact ⟨rfl, by rw [HGT.out]; exact HS.out, HSB.out⟩
    case rest =>
      obtain ⟨rfl, hC1, hb1⟩ := hcut
      have HC1 := Lib.hid hC1
      have HB2 := Lib.hid hb1
      clear hC1 hb1 HC0 HBP
      generalize wc = w2 at *
      go_wp2_with fail
      go_loopw [19, 20] (fun s i wr => ∃ (j : Nat) (W : Option Addr) (cw : Nat), j ≤ 4 ∧ s = .slice W (wantC inc o nn lim j).length cw ∧ i = .int .i64 j ∧ C wr nb (nb + 1 + 1) ⟨⟨#[112]⟩, [Nd.plain 1, gateC inc o, Nd.plain 2], flowsC lim j⟩ ∧ OwnK iκ wr (nb + 1 + 1 + 1) 3 W (wantC inc o nn lim j).length cw ((wantC inc o nn lim j).map Int.ofNat) ∧ Below nb wl wr) (fun _ i _ => 4 - (intOf i).toNat)
      case atStart => exact ⟨0, none, 0, Nat.zero_le _, rfl, rfl, HC1.out, ⟨by decide, World.ownsRow_nil _ _ _ _⟩, HB2.out⟩
      case round =>
        obtain ⟨j, W, cw, hj, rfl, rfl, hC, hW, hbr⟩ := hrel
        have hj0 : (0 : Int) ≤ (j : Int) := by omega
        by_cases hlt : j < 4
        · have hI : (j : Int) < 4 := by omega
          have lc := HLC.out wr (HNE.out ▸ hbr) j hlt
          have hlj := HL9.out j
          have HCR := Lib.hid hC
          have HWR := Lib.hid hW
          have HBR := Lib.hid hbr
          have HLL := Lib.hid (wantC_len inc o nn lim j)
          obtain ⟨xb, hxb⟩ : ∃ xb : UInt8, xb = UInt8.ofNat (48 + lim j) := ⟨_, rfl⟩
          obtain ⟨lj, hlje⟩ : ∃ lj, lj = lim j := ⟨_, rfl⟩
          have hvn : (⟨#[97, 32, 62, 61, 32]⟩ : ByteArray) ++ ⟨#[xb]⟩ = cndC lj := by
            rw [hxb, hlje]
            apply ByteArray.ext
            rw [ByteArray.data_append]
            rfl
          rw [← hlje] at lc hlj hxb
          have hxn : (48 : Int) + (lj : Int) = (xb.toNat : Int) := by rw [hxb, UInt8.toNat_ofNat']; omega
          have HFS := Lib.hid (flowsC_snoc lim j)
          rw [← hlje] at HFS
          have hxl := xb.toNat_lt
          clear hC hW hbr hxb hlje
          obtain ⟨cn, hcn⟩ : ∃ cn, cn = cndC lj := ⟨_, rfl⟩
          rw [← hcn] at hvn HFS
          clear hcn
          go_upto_region 17 with (fail)
          go_cut [20] from 60 to 102 (fun s wx => s = .int .i64 j ∧ C wx nb (nb + 1 + 1) ⟨⟨#[112]⟩, [Nd.plain 1, gateC inc o, Nd.plain 2], flowsC lim (j + 1)⟩ ∧ OwnK iκ wx (nb + 1 + 1 + 1) 3 W (wantC inc o nn lim j).length cw ((wantC inc o nn lim j).map Int.ofNat) ∧ Below nb wl wx)
          case first =>
            have hw1 : IntKind.i64.wrap (xb.toNat : Int) = (xb.toNat : Int) := by rw [IntKind.wrap_i64]; omega
            have hw2 : IntKind.u8.wrap (xb.toNat : Int) = (xb.toNat : Int) := by rw [IntKind.wrap_u8]; omega
            have hcv := one_stringC xb
            obtain ⟨A, n', c', F, m, d', hc, hn, hf, h1, h2⟩ := HCR.out.ex
            have hlow := HCR.out.low
            obtain rfl : j + 1 = m := (flowsC_len lim j).symm.trans hf.len
            have hbd : Below wr.heap.size wr wr.drew := (Below.refl _ _).drew
            have hbu : Below wr.drew.heap.size wr.drew (wr.drew.alloc (.cells #[.int .u8 (xb.toNat : Int)] 5)) := (Below.refl _ _).alloc (Nat.le_refl _) _
            have hba : Below (wr.drew.alloc (.cells #[.int .u8 (xb.toNat : Int)] 5)).heap.size (wr.drew.alloc (.cells #[.int .u8 (xb.toNat : Int)] 5)) ((wr.drew.alloc (.cells #[.int .u8 (xb.toNat : Int)] 5)).alloc (.cells #[.int .i64 1, .int .i64 2, .string cn] 29)) := (Below.refl _ _).alloc (Nat.le_refl _) _
            have hbda : Below wr.heap.size wr ((wr.drew.alloc (.cells #[.int .u8 (xb.toNat : Int)] 5)).alloc (.cells #[.int .i64 1, .int .i64 2, .string cn] 29)) := hbd.trans (hbu.trans (hba.mono hbu.size))
            have HCa := Lib.hid (hc.below hbda (Nat.le_refl _))
            have HNa := Lib.hid (hn.below hbda (Nat.le_refl _))
            have HFa := Lib.hid (hf.below hbda (Nat.le_refl _))
            have HWa := Lib.hid (HWR.out.below hbda (Nat.le_refl _))
            have hnbr : nb ≤ wr.heap.size := by have := hc.lt; omega
            have HBa := Lib.hid (HBR.out.trans (hbda.mono hnbr))
            have hsu : (wr.drew.alloc (.cells #[.int .u8 (xb.toNat : Int)] 5)).heap.size = wr.heap.size + 1 := by simp
            have HR : Hid (KRow Fl.κ ((wr.drew.alloc (.cells #[.int .u8 (xb.toNat : Int)] 5)).alloc (.cells #[.int .i64 1, .int .i64 2, .string cn] 29)) ((wr.drew.alloc (.cells #[.int .u8 (xb.toNat : Int)] 5)).heap.size + 1) (some ⟨wr.heap.size + 1, 0, none⟩) 1 [⟨1, 2, cn⟩]) := Lib.hid (hsu ▸ KRow.lit (κ := Fl.κ) (wr.drew.alloc (.cells #[.int .u8 (xb.toNat : Int)] 5)) 29 [⟨1, 2, cn⟩] #[.int .i64 1, .int .i64 2, .string cn] rfl)
            have hbw : nb ≤ ((wr.drew.alloc (.cells #[.int .u8 (xb.toNat : Int)] 5)).alloc (.cells #[.int .i64 1, .int .i64 2, .string cn] 29)).heap.size := by have := hbda.size; omega
            have hsm : j + 1 ≤ 1000000 := by omega
            obtain ⟨⟨c0, c1, c2⟩, _⟩ := tri_facts hc
            obtain ⟨⟨c0', c1', c2'⟩, _⟩ := tri_facts (hc.below hbd (Nat.le_refl _))
            have lc' := below_cells hbd lc
            have hl1 : nb + 1 + 1 < wr.heap.size := hc.lt
            have hl2 : ¬ nb + 1 + 1 = wr.heap.size := by omega
            have hl3 : ¬ nb + 1 + 1 = wr.heap.size + 1 := by omega
            have hl4 : lb < wr.heap.size := cell_lt lc
            have hl5 : ¬ lb = wr.heap.size := by omega
            have hl6 : nb + 1 + 1 < wr.heap.size + 1 := by omega
            have hl7 : lb < wr.heap.size + 1 := by omega
            clear hc hn hf hbd hbu hba hbda hsu
            go_region_law (refine step_append_k (κ := Fl.κ) rfl (.tmp 65) (.tmp 76) 30 29 i1 _ 32 Tryz.underlying30 hi1 hy0 hy1 hy2 rfl rfl _ nb _ F (j + 1) d' (flowsC lim j) ⟨wr.heap.size + 1, 0, none⟩ ⟨1, 2, cn⟩ rfl HFa.out rfl HR.out hsm (by decide) hbw ?_; intro F' fd w' ho hg; obtain ⟨⟨x0, x1, x2⟩, y0, y1, y2⟩ := tri_facts (cel_grew HCa.out hg h2))
            all_goals
              have hC9 := C.flows HCa.out HNa.out HFa.out h1 h2 hlow hg ho
              have hgs : w'.grownBy (w'.setCell ⟨nb + 1 + 1, 2, none⟩ (.slice F' (j + 1 + 1) fd)) (some (nb + 1 + 1)) := grown_setCell w' ⟨nb + 1 + 1, 2, none⟩ _
              have hrw : ∀ b : Nat, (∀ a, F = some a → a.block ≠ b) → (Value.slice F (j + 1) d').ownBlock ≠ some b := by
                intro b hb he
                cases F with
                | none => cases he
                | some a => exact hb a rfl (Option.some.inj he)
              have hW9 := (HWa.out.kept hg.grown fun a ha => hrw a.block fun a' ha' => HFa.out.apart HWa.out (by decide) ha' ha).kept hgs fun a ha e => by have := (HWa.out.block ha).1; have h3 : nb + 1 + 1 = a.block := Option.some.inj e; omega
              have hb9 := (HBa.out.trans (hg.below HFa.out.2 hbw)).setCell (p := ⟨nb + 1 + 1, 2, none⟩) (show nb ≤ nb + 1 + 1 by omega) (.slice F' (j + 1 + 1) fd)
              go_wp2_with fail
              go_meet
              exact ⟨rfl, by rw [HFS.out]; exact hC9, hW9, hb9⟩
          case rest =>
            obtain ⟨rfl, hC2, hW2, hb2⟩ := hcut
            have HC3 := Lib.hid hC2
            have HW3 := Lib.hid hW2
            have HB3 := Lib.hid hb2
            clear hC2 hW2 hb2 HCR HWR HBR lc hvn hxn hxl HFS hlj
            generalize wc = w3 at *
            have lc := HLC.out w3 (HNE.out ▸ HB3.out) j hlt
            have hwl := HLL.out
            have hdef : wantC inc o nn lim (j + 1) = if (1 + j ≠ o ∧ lim j ≤ nn) ∧ (inc = true ∨ wantC inc o nn lim j = []) then wantC inc o nn lim j ++ [1 + j] else wantC inc o nn lim j := rfl
            by_cases h1 : 1 + j = o
            · have HBP := Lib.hid h1
              have hBP : (j : Int) = (o : Int) - 1 := by omega
              have hB : ((j : Int) == (o : Int) - 1) = true := by rw [beq_iff_eq]; omega
              have hB2 : ((j : Int) != (o : Int) - 1) = false := by rw [bne, hB]; rfl
              have HEQ := Lib.hid (show wantC inc o nn lim (j + 1) = wantC inc o nn lim j by rw [hdef, if_neg (fun h => h.1.1 h1)])
              clear hdef h1
              go_wp2_with fail
              go_roundw
              case measure =>
                have := HBP.out
                simp only [intOf]
                omega
              case rel => exact ⟨j + 1, W, cw, hlt, by rw [HEQ.out], congrArg (Value.int .i64) (by have := HBP.out; omega), HC3.out, by rw [HEQ.out]; exact HW3.out, HB3.out⟩
            · have hBP : ¬ (j : Int) = (o : Int) - 1 := by omega
              have hB : ((j : Int) == (o : Int) - 1) = false := by rw [beq_eq_false_iff_ne]; omega
              have hB2 : ((j : Int) != (o : Int) - 1) = true := by rw [bne, hB]; rfl
              by_cases h2 : lim j ≤ nn
              · have h2I : (lim j : Int) ≤ (nn : Int) := by omega
                cases inc with
                | true =>
                  have HEQ := Lib.hid (show wantC true o nn lim (j + 1) = wantC true o nn lim j ++ [1 + j] by rw [hdef, if_pos ⟨⟨h1, h2⟩, .inl rfl⟩])
                  clear hdef h1
                  have hbt : Below w3.heap.size w3 (w3.alloc (.cells #[.int .i64 (1 + (j : Int))] 3)) := (Below.refl _ _).alloc (Nat.le_refl _) _
                  have HR : Hid (KRow iκ (w3.alloc (.cells #[.int .i64 (1 + (j : Int))] 3)) (w3.heap.size + 1) (some ⟨w3.heap.size, 0, none⟩) 1 [1 + (j : Int)]) := Lib.hid (KRow.lit (κ := iκ) w3 3 [1 + (j : Int)] #[.int .i64 (1 + (j : Int))] rfl)
                  have HCa := Lib.hid (HC3.out.below hbt (Nat.le_refl _))
                  have HWa := Lib.hid (HW3.out.below hbt (Nat.le_refl _))
                  have hql := HC3.out.lt
                  have HBa := Lib.hid (HB3.out.trans (hbt.mono (by omega)))
                  have hbw : nb + 1 + 1 + 1 ≤ (w3.alloc (.cells #[.int .i64 (1 + (j : Int))] 3)).heap.size := by have := hbt.size; omega
                  have hsm : (wantC true o nn lim j).length ≤ 1000000 := by omega
                  have HMP : Hid ((wantC true o nn lim (j + 1)).map Int.ofNat = (wantC true o nn lim j).map Int.ofNat ++ [1 + (j : Int)]) := Lib.hid (by
                    rw [HEQ.out, List.map_append]
                    have h9 : Int.ofNat (1 + j) = 1 + (j : Int) := by rw [Int.ofNat_eq_natCast]; omega
                    rw [List.map_cons, List.map_nil, h9])
                  have HLN : Hid ((wantC true o nn lim (j + 1)).length = (wantC true o nn lim j).length + 1) := Lib.hid (by rw [HEQ.out, List.length_append]; rfl)
                  clear hbt
                  go_wp2_with (at_builtin; refine append_k (κ := iκ) rfl (.tmp 98) (.tmp 101) 47 3 i0 _ 8 Tryz.underlying47 hi0 hx0 hx1 hx2 rfl rfl _ (nb + 1 + 1 + 1) _ W (wantC true o nn lim j).length cw ((wantC true o nn lim j).map Int.ofNat) ⟨w3.heap.size, 0, none⟩ (1 + (j : Int)) rfl HWa.out rfl HR.out hsm (by decide) hbw ?_; intro W' cw' w' ho hg; have HX1 := Lib.hid ho; have HX2 := Lib.hid hg; clear ho hg)
                  have HC9 := Lib.hid (HCa.out.other HWa.out (by omega) HX2.out)
                  have HB9 := Lib.hid (HBa.out.trans ((HX2.out.below HWa.out.2 hbw).mono (by omega)))
                  go_roundw
                  case measure => exact measK hlt
                  case rel => exact ⟨j + 1, W', cw', hlt, by rw [HLN.out], by go_num, HC9.out, by rw [HMP.out, HLN.out]; exact HX1.out, HB9.out⟩
                | false =>
                  by_cases h3 : wantC false o nn lim j = []
                  · have HEQ := Lib.hid (show wantC false o nn lim (j + 1) = wantC false o nn lim j ++ [1 + j] by rw [hdef, if_pos ⟨⟨h1, h2⟩, .inr h3⟩])
                    have hlB : (((wantC false o nn lim j).length : Int) == 0) = true := by rw [h3]; rfl
                    clear hdef h1 h3
                    have hbt : Below w3.heap.size w3 (w3.alloc (.cells #[.int .i64 (1 + (j : Int))] 3)) := (Below.refl _ _).alloc (Nat.le_refl _) _
                    have HR : Hid (KRow iκ (w3.alloc (.cells #[.int .i64 (1 + (j : Int))] 3)) (w3.heap.size + 1) (some ⟨w3.heap.size, 0, none⟩) 1 [1 + (j : Int)]) := Lib.hid (KRow.lit (κ := iκ) w3 3 [1 + (j : Int)] #[.int .i64 (1 + (j : Int))] rfl)
                    have HCa := Lib.hid (HC3.out.below hbt (Nat.le_refl _))
                    have HWa := Lib.hid (HW3.out.below hbt (Nat.le_refl _))
                    have hql := HC3.out.lt
                    have HBa := Lib.hid (HB3.out.trans (hbt.mono (by omega)))
                    have hbw : nb + 1 + 1 + 1 ≤ (w3.alloc (.cells #[.int .i64 (1 + (j : Int))] 3)).heap.size := by have := hbt.size; omega
                    have hsm : (wantC false o nn lim j).length ≤ 1000000 := by omega
                    have HMP : Hid ((wantC false o nn lim (j + 1)).map Int.ofNat = (wantC false o nn lim j).map Int.ofNat ++ [1 + (j : Int)]) := Lib.hid (by
                      rw [HEQ.out, List.map_append]
                      have h9 : Int.ofNat (1 + j) = 1 + (j : Int) := by rw [Int.ofNat_eq_natCast]; omega
                      rw [List.map_cons, List.map_nil, h9])
                    have HLN : Hid ((wantC false o nn lim (j + 1)).length = (wantC false o nn lim j).length + 1) := Lib.hid (by rw [HEQ.out, List.length_append]; rfl)
                    clear hbt
                    go_wp2_with (at_builtin; refine append_k (κ := iκ) rfl (.tmp 98) (.tmp 101) 47 3 i0 _ 8 Tryz.underlying47 hi0 hx0 hx1 hx2 rfl rfl _ (nb + 1 + 1 + 1) _ W (wantC false o nn lim j).length cw ((wantC false o nn lim j).map Int.ofNat) ⟨w3.heap.size, 0, none⟩ (1 + (j : Int)) rfl HWa.out rfl HR.out hsm (by decide) hbw ?_; intro W' cw' w' ho hg; have HX1 := Lib.hid ho; have HX2 := Lib.hid hg; clear ho hg)
                    have HC9 := Lib.hid (HCa.out.other HWa.out (by omega) HX2.out)
                    have HB9 := Lib.hid (HBa.out.trans ((HX2.out.below HWa.out.2 hbw).mono (by omega)))
                    go_roundw
                    case measure => exact measK hlt
                    case rel => exact ⟨j + 1, W', cw', hlt, by rw [HLN.out], by go_num, HC9.out, by rw [HMP.out, HLN.out]; exact HX1.out, HB9.out⟩
                  · have HEQ := Lib.hid (show wantC false o nn lim (j + 1) = wantC false o nn lim j by rw [hdef, if_neg (fun h => h.2.elim (fun h => nomatch h) h3)])
                    have hlp := List.length_pos_iff.2 h3
                    have hlB : (((wantC false o nn lim j).length : Int) == 0) = false := by rw [beq_eq_false_iff_ne]; omega
                    clear hdef h1 h3
                    go_wp2_with fail
                    go_roundw
                    case measure => exact measK hlt
                    case rel => exact ⟨j + 1, W, cw, hlt, by rw [HEQ.out], by go_num, HC3.out, by rw [HEQ.out]; exact HW3.out, HB3.out⟩
              · have h2I : ¬ ((lim j : Int) ≤ (nn : Int)) := by omega
                have HEQ := Lib.hid (show wantC inc o nn lim (j + 1) = wantC inc o nn lim j by rw [hdef, if_neg (fun h => h2 h.1.2)])
                clear hdef h1
                go_wp2_with fail
                go_roundw
                case measure => exact measK hlt
                case rel => exact ⟨j + 1, W, cw, hlt, by rw [HEQ.out], by go_num, HC3.out, by rw [HEQ.out]; exact HW3.out, HB3.out⟩
        · obtain rfl : j = 4 := by omega
          have HC4 := Lib.hid hC
          have HW4 := Lib.hid hW
          have HB4 := Lib.hid hbr
          have hwl := wantC_len inc o nn lim 4
          have HF5 := Lib.hid (show o < 5 from HO.out)
          clear hC hW hbr HC1 HB2
          generalize wr = w4 at *
          have hj4 : ¬ (((4 : Nat) : Int) < 4) := by decide
          go_upto_region 20 with (fail)
          obtain ⟨B, hBe⟩ : ∃ B : Bool, B = decide (wantC inc o nn lim 4 = [] ∧ o ≠ 0) := ⟨_, rfl⟩
          have HBE := Lib.hid hBe
          clear hBe
          go_cut [109] from 103 (fun s wx => s = .bool B ∧ wx = w4)
          case first =>
            by_cases hw : wantC inc o nn lim 4 = []
            · have hlB : (((wantC inc o nn lim 4).length : Int) == 0) = true := by rw [hw]; rfl
              by_cases hz : o = 0
              · have hge1 : ¬ ((1 : Int) ≤ (o : Int)) := by omega
                have HB0 := Lib.hid (show B = false by rw [HBE.out, decide_eq_false_iff_not]; exact fun h => h.2 hz)
                clear hw hz
                go_wp2_with fail
                go_meet
                exact ⟨by rw [HB0.out], rfl⟩
              · have hge1 : (1 : Int) ≤ (o : Int) := by omega
                have HB0 := Lib.hid (show B = true by rw [HBE.out, decide_eq_true_iff]; exact ⟨hw, hz⟩)
                clear hw
                go_wp2_with fail
                go_meet
                exact ⟨by rw [HB0.out], rfl⟩
            · have hlp := List.length_pos_iff.2 hw
              have hlB : (((wantC inc o nn lim 4).length : Int) == 0) = false := by rw [beq_eq_false_iff_ne]; omega
              have HB0 := Lib.hid (show B = false by rw [HBE.out, decide_eq_false_iff_not]; exact fun h => hw h.1)
              clear hw
              go_wp2_with fail
              go_meet
              exact ⟨by rw [HB0.out], rfl⟩
          case rest =>
          obtain ⟨rfl, rfl⟩ := hcut
          generalize wc = w4 at *
          go_upto_if 109 with (fail)
          go_cut [19] from 110 (fun s wx => ∃ (W : Option Addr) (cw : Nat), s = .slice W (wantF inc o nn lim).length cw ∧ OwnK iκ wx (nb + 1 + 1 + 1) 3 W (wantF inc o nn lim).length cw ((wantF inc o nn lim).map Int.ofNat) ∧ C wx nb (nb + 1 + 1) ⟨⟨#[112]⟩, [Nd.plain 1, gateC inc o, Nd.plain 2], flowsC lim 4⟩ ∧ Below nb wl wx)
          case first =>
            have hbe := HBE.out
            cases B with
            | true =>
              obtain ⟨hw, hz⟩ := of_decide_eq_true hbe.symm
              have hf : wantF inc o nn lim = [o] := by
                unfold wantF
                rw [if_pos ⟨hw, hz⟩]
              have ho5 := HO.out
              have hadd : (1 : Int) + ((o : Int) - 1) = (o : Int) := by omega
              have hql := HC4.out.lt
              have HWF : Hid (OwnK iκ (w4.alloc (.cells #[.int .i64 (o : Int)] 3)) (nb + 1 + 1 + 1) 3 (some ⟨w4.heap.size, 0, none⟩) (wantF inc o nn lim).length 1 ((wantF inc o nn lim).map Int.ofNat)) := Lib.hid (by
                rw [hf]
                exact (own_lit_k (κ := iκ) w4 3 [(o : Int)] #[.int .i64 (o : Int)] (by decide) rfl (show 1 ≤ maxLen by decide)).lower (by omega))
              have hbt : Below w4.heap.size w4 (w4.alloc (.cells #[.int .i64 (o : Int)] 3)) := (Below.refl _ _).alloc (Nat.le_refl _) _
              have HCF := Lib.hid (HC4.out.below hbt (Nat.le_refl _))
              have HBF := Lib.hid (HB4.out.trans (hbt.mono (by omega)))
              have HFL : Hid ((wantF inc o nn lim).length = 1) := Lib.hid (by rw [hf]; rfl)
              clear hf hw hbt hql hbe
              go_wp2_with fail
              go_meet
              exact ⟨some ⟨w4.heap.size, 0, none⟩, 1, by rw [HFL.out], HWF.out, HCF.out, HBF.out⟩
            | false =>
              have hf : wantF inc o nn lim = wantC inc o nn lim 4 := by
                unfold wantF
                rw [if_neg (of_decide_eq_false hbe.symm)]
              have HWF : Hid (OwnK iκ w4 (nb + 1 + 1 + 1) 3 W (wantF inc o nn lim).length cw ((wantF inc o nn lim).map Int.ofNat)) := Lib.hid (by rw [hf]; exact HW4.out)
              have HFL := Lib.hid hf
              clear hf hbe
              go_wp2_with fail
              go_meet
              exact ⟨W, cw, by rw [HFL.out], HWF.out, HC4.out, HB4.out⟩
          case rest =>
            obtain ⟨W, cw, rfl, hW5, hC5, hb5⟩ := hcut
            have HW5 := Lib.hid hW5
            have HC5 := Lib.hid hC5
            have HB5 := Lib.hid hb5
            have hfl := wantF_len inc o nn lim
            clear hW5 hC5 hb5 HC4 HW4 HB4 hwl hj4
            generalize wc = w5 at *
            obtain ⟨A, n', c', F, m, d', hc, hn, hf, _, _⟩ := HC5.out.ex
            obtain rfl : 3 = n' := hn.len
            obtain rfl : 5 = m := (flowsC_len lim 4).symm.trans hf.len
            obtain ⟨⟨c0, c1, c2⟩, _⟩ := tri_facts hc
            have hbv : Below w5.heap.size w5 (w5.alloc (.cells #[.string ⟨#[97]⟩, .int .i64 1, .int .i64 (nn : Int), .string ⟨#[]⟩] 52)) := (Below.refl _ _).alloc (Nat.le_refl _) _
            have hsv : (w5.alloc (.cells #[.string ⟨#[97]⟩, .int .i64 1, .int .i64 (nn : Int), .string ⟨#[]⟩] 52)).heap.size = w5.heap.size + 1 := by simp
            have hbt : Below (w5.alloc (.cells #[.string ⟨#[97]⟩, .int .i64 1, .int .i64 (nn : Int), .string ⟨#[]⟩] 52)).heap.size (w5.alloc (.cells #[.string ⟨#[97]⟩, .int .i64 1, .int .i64 (nn : Int), .string ⟨#[]⟩] 52)) ((w5.alloc (.cells #[.string ⟨#[97]⟩, .int .i64 1, .int .i64 (nn : Int), .string ⟨#[]⟩] 52)).alloc (.cells #[.int .i64 5, .int .i64 1, .int .i64 0, .bool false] 34)) := (Below.refl _ _).alloc (Nat.le_refl _) _
            have hst : ((w5.alloc (.cells #[.string ⟨#[97]⟩, .int .i64 1, .int .i64 (nn : Int), .string ⟨#[]⟩] 52)).alloc (.cells #[.int .i64 5, .int .i64 1, .int .i64 0, .bool false] 34)).heap.size = w5.heap.size + 1 + 1 := by simp
            have hbb : Below ((w5.alloc (.cells #[.string ⟨#[97]⟩, .int .i64 1, .int .i64 (nn : Int), .string ⟨#[]⟩] 52)).alloc (.cells #[.int .i64 5, .int .i64 1, .int .i64 0, .bool false] 34)).heap.size ((w5.alloc (.cells #[.string ⟨#[97]⟩, .int .i64 1, .int .i64 (nn : Int), .string ⟨#[]⟩] 52)).alloc (.cells #[.int .i64 5, .int .i64 1, .int .i64 0, .bool false] 34)) (((w5.alloc (.cells #[.string ⟨#[97]⟩, .int .i64 1, .int .i64 (nn : Int), .string ⟨#[]⟩] 52)).alloc (.cells #[.int .i64 5, .int .i64 1, .int .i64 0, .bool false] 34)).alloc (.cells #[.string ⟨#[112]⟩, .slice A 3 c', .slice F 5 d', .slice (some ⟨w5.heap.size, 0, none⟩) 1 1, .slice (some ⟨w5.heap.size + 1, 0, none⟩) 1 1, .int .i64 6] 38)) := (Below.refl _ _).alloc (Nat.le_refl _) _
            have hbvt := hbv.trans (hbt.mono hbv.size)
            have hbvb := hbvt.trans (hbb.mono hbvt.size)
            have hrv := (KRow.lit (κ := Vκ) w5 52 (vrC nn) #[.string ⟨#[97]⟩, .int .i64 1, .int .i64 (nn : Int), .string ⟨#[]⟩] rfl).below (hbt.trans (hbb.mono hbt.size)) (show w5.heap.size + 1 ≤ (w5.alloc (.cells #[.string ⟨#[97]⟩, .int .i64 1, .int .i64 (nn : Int), .string ⟨#[]⟩] 52)).heap.size by rw [hsv]; exact Nat.le_refl _)
            have hrt := (KRow.lit (κ := Tk.κ) (w5.alloc (.cells #[.string ⟨#[97]⟩, .int .i64 1, .int .i64 (nn : Int), .string ⟨#[]⟩] 52)) 34 [⟨5, 1, 0, false⟩] #[.int .i64 5, .int .i64 1, .int .i64 0, .bool false] rfl).below hbb (show (w5.alloc (.cells #[.string ⟨#[97]⟩, .int .i64 1, .int .i64 (nn : Int), .string ⟨#[]⟩] 52)).heap.size + 1 ≤ ((w5.alloc (.cells #[.string ⟨#[97]⟩, .int .i64 1, .int .i64 (nn : Int), .string ⟨#[]⟩] 52)).alloc (.cells #[.int .i64 5, .int .i64 1, .int .i64 0, .bool false] 34)).heap.size by rw [hst, hsv]; exact Nat.le_refl _)
            rw [hsv] at hrt
            have hsb : (((w5.alloc (.cells #[.string ⟨#[97]⟩, .int .i64 1, .int .i64 (nn : Int), .string ⟨#[]⟩] 52)).alloc (.cells #[.int .i64 5, .int .i64 1, .int .i64 0, .bool false] 34)).alloc (.cells #[.string ⟨#[112]⟩, .slice A 3 c', .slice F 5 d', .slice (some ⟨w5.heap.size, 0, none⟩) 1 1, .slice (some ⟨w5.heap.size + 1, 0, none⟩) 1 1, .int .i64 6] 38)).heap.size = w5.heap.size + 1 + 1 + 1 := by simp
            have hqb := Cel.lit ((w5.alloc (.cells #[.string ⟨#[97]⟩, .int .i64 1, .int .i64 (nn : Int), .string ⟨#[]⟩] 52)).alloc (.cells #[.int .i64 5, .int .i64 1, .int .i64 0, .bool false] 34)) #[.string ⟨#[112]⟩, .slice A 3 c', .slice F 5 d', .slice (some ⟨w5.heap.size, 0, none⟩) 1 1, .slice (some ⟨w5.heap.size + 1, 0, none⟩) 1 1, .int .i64 6] 38
            rw [hst] at hqb
            have HQB := Lib.hid hqb
            clear hqb
            have HN6 := Lib.hid ((hn.row.below hbvb (Nat.le_refl _)).mono hbvb.size)
            have HF6 := Lib.hid ((hf.row.below hbvb (Nat.le_refl _)).mono hbvb.size)
            have HNN6 := Lib.hid hn.nn
            have HFN6 := Lib.hid hf.nn
            have HV6 := Lib.hid (hrv.mono (Nat.le_trans (le13 _) (Nat.le_of_eq hsb.symm)))
            have HT6 := Lib.hid (hrt.mono (Nat.le_trans (le23 _) (Nat.le_of_eq hsb.symm)))
            have HW6 := Lib.hid (HW5.out.below hbvb (Nat.le_refl _))
            have HB6 := Lib.hid (HBL.out.trans ((HB5.out.mono (Nat.le_trans HBL.out.size (Nat.le_of_eq HNE.out))).trans (hbvb.mono (Nat.le_trans HBL.out.size HB5.out.size))))
            have HRT := Lib.hid hrt
            have HQS := Lib.hid hsb
            clear hc hn hf hbv hsv hbt hst hbb hbvt hbvb hrv hrt hsb
            go_upto_region 23 with (fail)
            generalize ((w5.alloc _).alloc _).alloc _ = wb at *
            generalize w5.heap.size = qv at *
            have q1 : KRow Nd.κ wb wb.heap.size A 3 (bC inc o nn lim).p.nodes := HN6.out
            have q2 : KRow Fl.κ wb wb.heap.size F 5 (bC inc o nn lim).p.flows := HF6.out
            have q3 : KRow Vκ wb wb.heap.size (some ⟨qv, 0, none⟩) 1 (bC inc o nn lim).vars := HV6.out
            have q4 : KRow Tk.κ wb wb.heap.size (some ⟨qv + 1, 0, none⟩) 1 (bC inc o nn lim).toks := HT6.out
            have HIN : Hid (BdIn wb wb.heap.size ⟨⟨#[112]⟩, A, 3, c', F, 5, d', some ⟨qv, 0, none⟩, 1, 1, some ⟨qv + 1, 0, none⟩, 1, 1, 6⟩ (bC inc o nn lim)) := Lib.hid (bdIn_C q1 q2 q3 q4 HNN6.out HFN6.out)
            clear q1 q2 q3 q4
            have HVC : Hid (VarsC wb (some ⟨qv, 0, none⟩) 1 (vrC nn)) := Lib.hid ⟨HV6.out, by decide, fun v hv => by obtain rfl := List.mem_singleton.1 hv; exact Nat.zero_le _⟩
            have HCOE := Lib.hid ((coErrsE16 HE.out HWD.out).below HB6.out)
            have HEb := Lib.hid (HE.out.below HB6.out (Nat.le_refl _))
            have HST := Lib.hid (stepC_any ads HEb.out HCOE.out HNN.out HL9.out HO.out HIN.out HVC.out rfl rfl)
            unfold BdV.val at HST
            dsimp only at HST
            obtain ⟨⟨o0, o1, o2, o3, o4, o5⟩, _⟩ := six_facts HQB.out
            have hqb := HQB.out.lt
            by_cases hwf : wantF inc o nn lim = []
            · rw [if_pos hwf] at HST
              have hwl : (wantF inc o nn lim).length = 0 := by rw [hwf]; rfl
              rw [hwl]
              go_upto_region 24 with (go_at_call 9; refine HST.out.mono ?_; rintro e w6 ⟨⟨⟨xs, xA, xn, xc, xF, xm, xd, xV, xnv, xcv, xT, xnt, xct, xk⟩, ev, rfl, hs, hO⟩, hb6⟩; have HQS6 := Lib.hid (HQB.out.below hb6 (Nat.le_refl _)); have HO6 := Lib.hid hO; have HBS := Lib.hid (HB6.out.trans (hb6.mono HB6.out.size)); have HWS := Lib.hid (HW6.out.below hb6 (Nat.le_refl _)); have HXS := Lib.hid ((HT6.out.below hb6 (Nat.le_refl _)).mono hb6.size); have HSN := Lib.hid hs; clear hs hO hb6; dsimp only [BdV.val])
              have hqt : xnt = 1 := HO6.out.inn.ht
              subst hqt
              obtain ⟨g, hg, _, hgl⟩ := HO6.out.toks.some_of (show 0 < 1 by decide)
              dsimp only at hg
              subst hg
              have hb7 : Below w6.heap.size w6 (w6.alloc (.cells #[.string xs, .slice xA xn xc, .slice xF xm xd, .slice xV xnv xcv, .slice (some ⟨g, 0, none⟩) 1 xct, .int .i64 xk] 38)) := (Below.refl _ _).alloc (Nat.le_refl _) _
              have hz7 := Cel.lit w6 #[.string xs, .slice xA xn xc, .slice xF xm xd, .slice xV xnv xcv, .slice (some ⟨g, 0, none⟩) 1 xct, .int .i64 xk] 38
              have hs7 : (w6.alloc (.cells #[.string xs, .slice xA xn xc, .slice xF xm xd, .slice xV xnv xcv, .slice (some ⟨g, 0, none⟩) 1 xct, .int .i64 xk] 38)).heap.size = w6.heap.size + 1 := by simp
              have hb8 : Below (w6.alloc (.cells #[.string xs, .slice xA xn xc, .slice xF xm xd, .slice xV xnv xcv, .slice (some ⟨g, 0, none⟩) 1 xct, .int .i64 xk] 38)).heap.size (w6.alloc (.cells #[.string xs, .slice xA xn xc, .slice xF xm xd, .slice xV xnv xcv, .slice (some ⟨g, 0, none⟩) 1 xct, .int .i64 xk] 38)) ((w6.alloc (.cells #[.string xs, .slice xA xn xc, .slice xF xm xd, .slice xV xnv xcv, .slice (some ⟨g, 0, none⟩) 1 xct, .int .i64 xk] 38)).alloc (.cells #[.bool false, .string no] 40)) := (Below.refl _ _).alloc (Nat.le_refl _) _
              have hm8 := Cel.lit (w6.alloc (.cells #[.string xs, .slice xA xn xc, .slice xF xm xd, .slice xV xnv xcv, .slice (some ⟨g, 0, none⟩) 1 xct, .int .i64 xk] 38)) #[.bool false, .string no] 40
              rw [hs7] at hm8
              have HM7 := Lib.hid hm8
              have HZ7 := Lib.hid (hz7.below hb8 (Nat.le_refl _))
              have hb9 := hb7.trans (hb8.mono hb7.size)
              have HB7 := Lib.hid (HBS.out.trans (hb9.mono HBS.out.size))
              have HQ7 := Lib.hid (HQS6.out.below hb9 (Nat.le_refl _))
              have HO7 := Lib.hid (HO6.out.below hb9)
              have HW7 := Lib.hid (HWS.out.below hb9 (Nat.le_refl _))
              have HX7 := Lib.hid ((HXS.out.below hb9 (Nat.le_refl _)).mono hb9.size)
              clear hb7 hz7 hs7 hb8 hm8 hb9 HBS HQS6 HO6 HWS HXS HST
              generalize (w6.alloc _).alloc _ = w7 at *
              generalize w6.heap.size = qy at *
              have HE7 := Lib.hid (HE.out.below HB7.out (Nat.le_refl _))
              obtain ⟨ea, hea, hka⟩ := seen_err HSN.out (show (116 : Int) ≠ 0 by decide)
              have HIS := Lib.hid (is_any ads ev 116 w7 HE7.out (seenAs_of HE7.out HSN.out) 116)
              rw [show ((116 : Int) == 116) = true from rfl, hea] at HIS
              rw [hea]
              unfold errV at HIS ⊢
              clear hea hka o0 o1 o2 o3 o4 o5
              obtain ⟨t0, _, _, t3⟩ := tk_at (j := 0) HO7.out.toks.row (show 0 < 1 by decide)
              have t0 : w7.cell? ⟨g, 0 + 0 * 4, none⟩ = some (.int .i64 5) := t0
              have t3 : w7.cell? ⟨g, 0 + 0 * 4 + 3, none⟩ = some (.bool true) := t3
              obtain ⟨_, _, _, s3⟩ := tk_at (j := 0) HX7.out (show 0 < 1 by decide)
              have s3 : w7.cell? ⟨qv + 1, 0 + 0 * 4 + 3, none⟩ = some (.bool false) := s3
              go_wp2_with (go_at_call 11; refine HIS.out.mono ?_; rintro e w9 ⟨rfl, hb9⟩; obtain ⟨⟨z0, z1, z2, z3, z4, z5⟩, _⟩ := six_facts (HZ7.out.below hb9 (Nat.le_refl _)); obtain ⟨⟨o0, o1, o2, o3, o4, o5⟩, _⟩ := six_facts (HQ7.out.below hb9 (Nat.le_refl _)); have m0 := (HM7.out.below hb9 (Nat.le_refl _)).cell 0 _ rfl; have t0' := below_cells hb9 t0; have t3' := below_cells hb9 t3; have s3' := below_cells hb9 s3; have HB9 := Lib.hid (HB7.out.trans (hb9.mono HB7.out.size)); clear hb9)
              go_ret
              exact ⟨rfl, HB9.out⟩
            · rw [if_neg hwf] at HST
              have hlp := List.length_pos_iff.2 hwf
              have hlB : (((wantF inc o nn lim).length : Int) == 0) = false := by rw [beq_eq_false_iff_ne]; omega
              have HYL := Lib.hid (yC_len inc o nn lim)
              have HYG := Lib.hid (fun k (hk : k < (wantF inc o nn lim).length) => yC_get (incl := inc) (n := nn) (lim := lim) HO.out hk)
              clear hwf
              go_upto_region 24 with (go_at_call 9; refine HST.out.mono ?_; rintro e w6 ⟨⟨⟨xs, xA, xn, xc, xF, xm, xd, xV, xnv, xcv, xT, xnt, xct, xk⟩, ev, rfl, hs, hO⟩, hb6⟩; have HQS6 := Lib.hid (HQB.out.below hb6 (Nat.le_refl _)); have HO6 := Lib.hid hO; have HBS := Lib.hid (HB6.out.trans (hb6.mono HB6.out.size)); have HWS := Lib.hid (HW6.out.below hb6 (Nat.le_refl _)); have HXS := Lib.hid ((HT6.out.below hb6 (Nat.le_refl _)).mono hb6.size); obtain rfl := seen_nil hs; clear hs hO hb6; dsimp only [BdV.val])
              have hqt : (wantF inc o nn lim).length = xnt := (HO6.out.inn.ht.trans HYL.out).symm
              subst hqt
              obtain ⟨g, hg, _, hgl⟩ := HO6.out.toks.some_of (n := (wantF inc o nn lim).length) hlp
              dsimp only at hg
              subst hg
              have hb7 : Below w6.heap.size w6 (w6.alloc (.cells #[.string xs, .slice xA xn xc, .slice xF xm xd, .slice xV xnv xcv, .slice (some ⟨g, 0, none⟩) (wantF inc o nn lim).length xct, .int .i64 xk] 38)) := (Below.refl _ _).alloc (Nat.le_refl _) _
              have hz7 := Cel.lit w6 #[.string xs, .slice xA xn xc, .slice xF xm xd, .slice xV xnv xcv, .slice (some ⟨g, 0, none⟩) (wantF inc o nn lim).length xct, .int .i64 xk] 38
              have hs7 : (w6.alloc (.cells #[.string xs, .slice xA xn xc, .slice xF xm xd, .slice xV xnv xcv, .slice (some ⟨g, 0, none⟩) (wantF inc o nn lim).length xct, .int .i64 xk] 38)).heap.size = w6.heap.size + 1 := by simp
              have hb8 : Below (w6.alloc (.cells #[.string xs, .slice xA xn xc, .slice xF xm xd, .slice xV xnv xcv, .slice (some ⟨g, 0, none⟩) (wantF inc o nn lim).length xct, .int .i64 xk] 38)).heap.size (w6.alloc (.cells #[.string xs, .slice xA xn xc, .slice xF xm xd, .slice xV xnv xcv, .slice (some ⟨g, 0, none⟩) (wantF inc o nn lim).length xct, .int .i64 xk] 38)) ((w6.alloc (.cells #[.string xs, .slice xA xn xc, .slice xF xm xd, .slice xV xnv xcv, .slice (some ⟨g, 0, none⟩) (wantF inc o nn lim).length xct, .int .i64 xk] 38)).alloc (.cells #[.bool true, .string no] 40)) := (Below.refl _ _).alloc (Nat.le_refl _) _
              have hm8 := Cel.lit (w6.alloc (.cells #[.string xs, .slice xA xn xc, .slice xF xm xd, .slice xV xnv xcv, .slice (some ⟨g, 0, none⟩) (wantF inc o nn lim).length xct, .int .i64 xk] 38)) #[.bool true, .string no] 40
              rw [hs7] at hm8
              have HM7 := Lib.hid hm8
              have HZ7 := Lib.hid (hz7.below hb8 (Nat.le_refl _))
              have hb9 := hb7.trans (hb8.mono hb7.size)
              have HB7 := Lib.hid (HBS.out.trans (hb9.mono HBS.out.size))
              have HQ7 := Lib.hid (HQS6.out.below hb9 (Nat.le_refl _))
              have HO7 := Lib.hid (HO6.out.below hb9)
              have HW7 := Lib.hid (HWS.out.below hb9 (Nat.le_refl _))
              have HX7 := Lib.hid ((HXS.out.below hb9 (Nat.le_refl _)).mono hb9.size)
              clear hb7 hz7 hs7 hb8 hm8 hb9 HBS HQS6 HO6 HWS HXS HST
              generalize (w6.alloc _).alloc _ = w7 at *
              generalize w6.heap.size = qy at *
              obtain ⟨gW, hgW, _, hgWl⟩ := HW7.out.some_of (n := (wantF inc o nn lim).length) hlp
              subst hgW
              clear o0 o1 o2 o3 o4 o5
              obtain ⟨⟨z0, z1, z2, z3, z4, z5⟩, _⟩ := six_facts HZ7.out
              have m0 := HM7.out.cell 0 _ rfl
              go_upto_region 28 with (fail)
              clear z0 z1 z2 z3 z4 z5 m0
              go_wp2_with fail
              go_loopw [25] (fun i wr => ∃ k : Nat, k ≤ (wantF inc o nn lim).length ∧ i = .int .i64 k ∧ Below w7.heap.size w7 wr) (fun i _ => (wantF inc o nn lim).length - (intOf i).toNat)
              case atStart => exact ⟨0, Nat.zero_le _, rfl, Below.refl _ _⟩
              case round =>
                obtain ⟨k, hk, rfl, hbk⟩ := hrel
                have hk0 : (0 : Int) ≤ (k : Int) := by omega
                have HBK := Lib.hid hbk
                by_cases hlk : k < (wantF inc o nn lim).length
                · have hJ : (k : Int) < ((wantF inc o nn lim).length : Int) := by omega
                  obtain ⟨⟨z0, z1, z2, z3, z4, z5⟩, _⟩ := six_facts (HZ7.out.below hbk (Nat.le_refl _))
                  have htk := tk_at (j := k) (HO7.out.toks.row.below hbk (Nat.le_refl _)) hlk
                  rw [HYG.out k hlk] at htk
                  obtain ⟨t0, t1, t2, _⟩ := htk
                  have hwc := iκ_cells (HW7.out.row.below hbk (Nat.le_refl _)) hlk
                  have hwg : ((wantF inc o nn lim).map Int.ofNat)[k]! = ((wantF inc o nn lim)[k]! : Int) := by
                    rw [getElem!_pos _ k (by simpa using hlk), List.getElem_map, getElem!_pos (wantF inc o nn lim) k hlk]
                    rfl
                  rw [hwg] at hwc
                  simp only [Nat.zero_add] at t0 t1 t2 hwc
                  have hk4 : k < 4 := by omega
                  clear hwg hbk
                  go_wp2_with fail
                  go_quiet (fail)
                  go_wp2_with fail
                  go_roundw
                  case measure => exact measK hlk
                  case rel => exact ⟨k + 1, hlk, by go_num, below_drewN HBK.out _⟩
                · obtain rfl : k = (wantF inc o nn lim).length := by omega
                  have hJ : ¬ (((wantF inc o nn lim).length : Int) < ((wantF inc o nn lim).length : Int)) := by omega
                  go_wp2
                  go_ret
                  exact ⟨rfl, HB7.out.trans (HBK.out.mono HB7.out.size)⟩
end Pr
end Go.Proofs.YtlmlhjepolefaaaGreatDoor
