/- Walks of package cond: Holds. Mathematics of TokenChoices: a gateway of four ways with conditions. -/
import Derived.Test.YtlmlhjepolefaaaGreatDoorElY
import Derived.Test.YtlmlhjepolefaaaGreatDoorYTokenChoices5
import Derived.Test.YtlmlhjepolefaaaGreatDoorYTokenChoices7
import Derived.Test.YtlmlhjepolefaaaGreatDoorZgY
namespace Go.Proofs.YtlmlhjepolefaaaGreatDoor
open Go.RowKit

section
variable {E : Int → Option Addr} {V w : World} {A : Option Addr} {n c : Nat} {l : List Vr.V}
/-- A text that Parse takes, which Eval may be asked of. -/
structure Co.Tx.Fit (x : Co.Tx) : Prop where
  ok : x.ok
  wf : Co.wf x.t = true
  lite : Co.lite x.t = true
  len : x.s.length ≤ 80
/-- Variables that Eval may be asked with. -/
structure VarsC (V : World) (A : Option Addr) (n : Nat) (l : List Vr.V) : Prop where
  row : VRow V V.heap.size A n l
  n : n ≤ 9223372036854775807
  lite : ∀ v ∈ l, v.text.size ≤ 80
theorem cpars_any {W : World} (hE : CoErrsE W E) (hb : Below W.heap.size W w) (x : Co.Tx) (hx : x.Fit) :
    Calls Tryz.prog 63 #[.string ⟨x.s.toArray⟩] w fun r w' => (∃ y, r = .returned (.tuple #[Ex.val y, .nilIface]) ∧ At w' (fun b => w.heap.size ≤ b) x.t y) ∧ Below w.heap.size w w' := by
  have hsz : (⟨x.s.toArray⟩ : ByteArray).size ≤ 80 := by have := hx.len; simpa [ByteArray.size] using this
  refine (cparse_any hE.toCoErrs hb hsz x.t none (by have := hx.ok; unfold Co.Tx.ok at this; simpa using this)).mono ?_
  rintro r w' ⟨⟨y, ev, rfl, ha, he⟩, hb'⟩
  obtain rfl : ev = .nilIface := he
  exact ⟨⟨y, rfl, ha⟩, hb'⟩
theorem ceval_any (hE : CoErrsE V E) (hV : VarsC V A n l) (x : Co.Tx) (hx : x.Fit) : EvalC E V A n c l x.t :=
  eval_any hE hV.row hV.n hV.lite x.t hx.wf hx.lite
set_option maxHeartbeats 1600000 in
theorem cholds_any (hE : CoErrsE V E) (hV : VarsC V A n l) (x : Co.Tx) (hx : x.Fit) (hb : Below V.heap.size V w) :
    Calls Tryz.prog 62 #[.string ⟨x.s.toArray⟩, .slice A n c] w fun r w' => (∃ e, r = .returned (.tuple #[.bool (Co.hold (Co.ev l x.t)).2, e]) ∧ SeenBy E e (Co.hold (Co.ev l x.t)).1) ∧ Below w.heap.size w w' := by
  have HP := Lib.hid (cpars_any hE hb x hx)
  have HT := Lib.hid (ceval_any (c := c) hE hV x hx)
  have hh : Co.hold (Co.ev l x.t) = if (Co.ev l x.t).1 = 0 then Co.truth (Co.ev l x.t).2 else ((Co.ev l x.t).1, false) := rfl
  unfold EvalC at HT
  generalize Co.ev l x.t = R at *
  obtain ⟨cd, v⟩ := R
  dsimp only at hh HT
  rw [hh]
  have HV := Lib.hid hb
  have HE := Lib.hid hE
  clear hb hE hh hV hx
  by_cases h0 : cd = 0
  · subst h0
    rw [if_pos rfl]
    go_enter Tryz.func62, Tryz.ntmps62
    go_wp2_with fail
    refine HP.out.mono ?_
    rintro r w1 ⟨⟨y, rfl, hat⟩, hb1⟩
    have hb1a : Below w.heap.size w (w1.alloc (.cells #[.int .i64 y.op, .int .i64 y.kind, .int .i64 y.num, .string y.txt, .string y.name, .slice y.A y.n y.c] 112)) := hb1.alloc hb1.size _
    have HX := Lib.hid (HT.out _ _ y (HV.out.trans (hb1a.mono HV.out.size)) (hat.alloc _))
    have HZ := Lib.hid (Ex.lit w1 y)
    obtain ⟨⟨x0, x1, x2, x3, x4, x5⟩, _⟩ := HZ.out.six_of
    have hlx : w1.heap.size < (w1.alloc (.cells #[.int .i64 y.op, .int .i64 y.kind, .int .i64 y.num, .string y.txt, .string y.name, .slice y.A y.n y.c] 112)).heap.size := HZ.out.lt
    have HB1 := Lib.hid hb1a
    clear hat hb1 hb1a
    unfold Ex.val at *
    go_wp2_with fail
    refine HX.out.mono ?_
    rintro r w2 ⟨⟨e, rfl, hs⟩, hb2⟩
    obtain rfl := seen_nil hs
    have hbw : Below w.heap.size w w2 := HB1.out.trans (hb2.mono HB1.out.size)
    have hb3 : Below w2.heap.size w2 (w2.alloc (.cells #[.int .i64 v.kind, .int .i64 v.num, .string v.txt] 50)) := (Below.refl _ _).alloc (Nat.le_refl _) _
    have hb4 := hbw.trans (hb3.mono hbw.size)
    have HX2 := Lib.hid (etruth_any HE.out (HV.out.trans (hb4.mono HV.out.size)) v)
    have HB4 := Lib.hid hb4
    clear hs hb2 hbw hb3 hb4 x0 x1 x2 x3 x4 x5
    unfold Vl.val at *
    go_wp2_with fail
    refine HX2.out.mono ?_
    rintro r w5 ⟨⟨e, rfl, hs⟩, hb5⟩
    have HBF := Lib.hid (HB4.out.trans (hb5.mono HB4.out.size))
    have HS := Lib.hid hs
    clear hs hb5
    go_wp2
    go_ret2
    exact ⟨⟨_, rfl, HS.out⟩, HBF.out⟩
  · rw [if_neg h0]
    have H0 := Lib.hid h0
    clear h0
    go_enter Tryz.func62, Tryz.ntmps62
    go_wp2_with fail
    refine HP.out.mono ?_
    rintro r w1 ⟨⟨y, rfl, hat⟩, hb1⟩
    have hb1a : Below w.heap.size w (w1.alloc (.cells #[.int .i64 y.op, .int .i64 y.kind, .int .i64 y.num, .string y.txt, .string y.name, .slice y.A y.n y.c] 112)) := hb1.alloc hb1.size _
    have HX := Lib.hid (HT.out _ _ y (HV.out.trans (hb1a.mono HV.out.size)) (hat.alloc _))
    have HZ := Lib.hid (Ex.lit w1 y)
    obtain ⟨⟨x0, x1, x2, x3, x4, x5⟩, _⟩ := HZ.out.six_of
    have hlx : w1.heap.size < (w1.alloc (.cells #[.int .i64 y.op, .int .i64 y.kind, .int .i64 y.num, .string y.txt, .string y.name, .slice y.A y.n y.c] 112)).heap.size := HZ.out.lt
    have HB1 := Lib.hid hb1a
    clear hat hb1 hb1a
    unfold Ex.val at *
    go_wp2_with fail
    refine HX.out.mono ?_
    rintro r w2 ⟨⟨e, rfl, hs⟩, hb2⟩
    obtain ⟨a, rfl, hka⟩ := seen_err hs H0.out
    have HBF := Lib.hid ((HB1.out.trans (hb2.mono HB1.out.size)).alloc (Nat.le_trans HB1.out.size hb2.size) (.cells #[.int .i64 v.kind, .int .i64 v.num, .string v.txt] 50))
    have HKA := Lib.hid hka
    clear hs hb2 hka x0 x1 x2 x3 x4 x5
    unfold errV Vl.val
    go_wp2
    go_ret2
    exact ⟨⟨_, rfl, .err _ a HKA.out H0.out⟩, HBF.out⟩
end
theorem VarsC.nil (V : World) : VarsC V none 0 [] := ⟨VRow.nil _ _ _, by decide, by simp⟩
end Go.Proofs.YtlmlhjepolefaaaGreatDoor
namespace Go.Proofs.YtlmlhjepolefaaaGreatDoor
open Go.RowKit

namespace Pr
def txQ (d : Nat) : Co.Tx := ⟨[97, 32, 62, 61, 32, UInt8.ofNat (48 + d)], .two 11 (.leaf 2 0 0 [] [97]) (.leaf 1 1 d [] [])⟩
theorem nine {d : Nat} (h : d < 9) : d = 0 ∨ d = 1 ∨ d = 2 ∨ d = 3 ∨ d = 4 ∨ d = 5 ∨ d = 6 ∨ d = 7 ∨ d = 8 := by omega
theorem txQ_ok {d : Nat} (h : d < 9) : (txQ d).ok := by
  rcases nine h with rfl | rfl | rfl | rfl | rfl | rfl | rfl | rfl | rfl <;> (unfold Co.Tx.ok; kernel_rfl)
theorem txQ_fit {d : Nat} (h : d < 9) : (txQ d).Fit := by
  refine ⟨txQ_ok h, ?_, ?_, ?_⟩
  · rcases nine h with rfl | rfl | rfl | rfl | rfl | rfl | rfl | rfl | rfl <;> rfl
  · rcases nine h with rfl | rfl | rfl | rfl | rfl | rfl | rfl | rfl | rfl <;> rfl
  · show 6 ≤ 80
    decide
def cndC (d : Nat) : ByteArray := ⟨(txQ d).s.toArray⟩
def vrC (n : Nat) : List Vr.V := [⟨bs [97], 1, (n : Int), no⟩]
theorem holdC : ∀ d, d < 9 → ∀ n, n < 9 → Co.hold (Co.ev (vrC n) (txQ d).t) = (0, decide (d ≤ n)) := by decide +kernel
theorem opensC {d n : Nat} (hd : d < 9) (hn : n < 9) : opens (vrC n) (cndC d) = (0, decide (d ≤ n)) := by
  unfold opens
  rw [if_neg (show ¬ (cndC d).size = 0 from by show ¬ 6 = 0; decide)]
  have h : (cndC d).toList = (txQ d).s := by rw [ByteArray.toList_eq]; rfl
  rw [h, show Co.parse (txQ d).s = some ((txQ d).t, none) from txQ_ok hd]
  exact holdC d hd n hn
def dfC (o : Nat) : Int := if o = 0 then -1 else o
def kdC (incl : Bool) : Int := if incl = true then 7 else 5
def gateC (incl : Bool) (o : Nat) : Nd := ⟨kdC incl, no, 0, 0, dfC o, no, no, -1⟩
def flowsC (lim : Nat → Nat) (j : Nat) : List Fl := [⟨0, 1, no⟩] ++ (List.range j).map fun (i : Nat) => ⟨1, 2, cndC (lim i)⟩
def pC (incl : Bool) (o : Nat) (lim : Nat → Nat) : P := ⟨bs [112], [Nd.plain 1, gateC incl o, Nd.plain 2], flowsC lim 4⟩
def bC (incl : Bool) (o n : Nat) (lim : Nat → Nat) : Bd := ⟨pC incl o lim, vrC n, [⟨5, 1, 0, false⟩], 6⟩
theorem flowsC_snoc (lim : Nat → Nat) (j : Nat) : flowsC lim (j + 1) = flowsC lim j ++ [⟨1, 2, cndC (lim j)⟩] := by
  unfold flowsC
  rw [List.range_succ, List.map_append, ← List.append_assoc]
  rfl
theorem flowsC_len (lim : Nat → Nat) (j : Nat) : (flowsC lim j).length = j + 1 := by
  unfold flowsC
  simp
def wantC (incl : Bool) (o n : Nat) (lim : Nat → Nat) : Nat → List Nat
  | 0 => []
  | j + 1 => if (1 + j ≠ o ∧ lim j ≤ n) ∧ (incl = true ∨ wantC incl o n lim j = []) then wantC incl o n lim j ++ [1 + j] else wantC incl o n lim j
theorem wantC_len (incl : Bool) (o n : Nat) (lim : Nat → Nat) : ∀ j, (wantC incl o n lim j).length ≤ j
  | 0 => Nat.le_refl _
  | j + 1 => by
    have h := wantC_len incl o n lim j
    rw [wantC]
    split
    · simp; exact h
    · omega
theorem wantC_one (o n : Nat) (lim : Nat → Nat) : ∀ j, (wantC false o n lim j).length ≤ 1
  | 0 => Nat.zero_le _
  | j + 1 => by
    have h := wantC_one o n lim j
    rw [wantC]
    split
    · rename_i h2
      rcases h2.2 with h3 | h3
      · cases h3
      · rw [h3]; simp
    · exact h
theorem wantC_mem (incl : Bool) (o n : Nat) (lim : Nat → Nat) : ∀ j, ∀ f ∈ wantC incl o n lim j, 1 ≤ f ∧ f ≤ j
  | 0 => fun f hf => nomatch hf
  | j + 1 => by
    have h := wantC_mem incl o n lim j
    rw [wantC]
    split
    · intro f hf
      rcases List.mem_append.1 hf with hf | hf
      · have := h f hf; omega
      · have := List.mem_singleton.1 hf; omega
    · intro f hf
      have := h f hf; omega
/-- Behind the loop: the default, where none holds. -/
def wantF (incl : Bool) (o n : Nat) (lim : Nat → Nat) : List Nat := if wantC incl o n lim 4 = [] ∧ o ≠ 0 then [o] else wantC incl o n lim 4
theorem wantF_mem {incl : Bool} {o n : Nat} {lim : Nat → Nat} (ho : o < 5) : ∀ f ∈ wantF incl o n lim, 1 ≤ f ∧ f ≤ 4 := by
  unfold wantF
  split
  · intro f hf
    have := List.mem_singleton.1 hf
    omega
  · exact wantC_mem incl o n lim 4
theorem wantF_len (incl : Bool) (o n : Nat) (lim : Nat → Nat) : (wantF incl o n lim).length ≤ 4 := by
  unfold wantF
  split
  · simp
  · exact wantC_len incl o n lim 4
theorem pC_m (incl : Bool) (o : Nat) (lim : Nat → Nat) : (pC incl o lim).m = 5 := flowsC_len lim 4
theorem condC (incl : Bool) (o : Nat) (lim : Nat → Nat) {j : Nat} (hj : j < 4) : (pC incl o lim).flows[1 + j]! = ⟨1, 2, cndC (lim j)⟩ := by
  rcases (show j = 0 ∨ j = 1 ∨ j = 2 ∨ j = 3 by omega) with rfl | rfl | rfl | rfl <;> rfl
theorem full_C (b : Bd) (other : Int) (most : Nat) : ∀ (l acc : List Nat), acc.length = most → choose b other most l acc = finish other b.p.m acc
  | [], _, _ => rfl
  | f :: l, acc, h => by rw [choose, if_pos h]
theorem stepC {incl : Bool} {o n : Nat} {lim : Nat → Nat} {j : Nat} (hj : j < 4) (hn : n < 9) (hl : ∀ i, lim i < 9) (l : List Nat) :
    choose (bC incl o n lim) (dfC o) (if incl = true then 4 else 1) ((1 + j) :: l) (wantC incl o n lim j) = choose (bC incl o n lim) (dfC o) (if incl = true then 4 else 1) l (wantC incl o n lim (j + 1)) := by
  by_cases hfull : (wantC incl o n lim j).length = if incl = true then 4 else 1
  · have hw : wantC incl o n lim (j + 1) = wantC incl o n lim j := by
      rw [wantC, if_neg]
      rintro ⟨_, h | h⟩
      · rw [if_pos h] at hfull
        have := wantC_len incl o n lim j
        omega
      · rw [h] at hfull
        split at hfull <;> simp at hfull
    rw [hw, full_C _ _ _ _ _ hfull, full_C _ _ _ _ _ hfull]
  · have hfree : incl = true ∨ wantC incl o n lim j = [] := by
      cases hi : incl with
      | true => exact .inl rfl
      | false =>
        subst hi
        have h1 := wantC_one o n lim j
        rw [if_neg (by decide)] at hfull
        exact .inr (List.eq_nil_of_length_eq_zero (by omega))
    have hop : opens (bC incl o n lim).vars (bC incl o n lim).p.flows[1 + j]!.cond = (0, decide (lim j ≤ n)) := by
      show opens (vrC n) ((pC incl o lim).flows[1 + j]!).cond = _
      rw [condC incl o lim hj]
      exact opensC (hl j) hn
    have hw1 : wantC incl o n lim (j + 1) = if (1 + j ≠ o ∧ lim j ≤ n) ∧ (incl = true ∨ wantC incl o n lim j = []) then wantC incl o n lim j ++ [1 + j] else wantC incl o n lim j := rfl
    rw [choose, if_neg hfull, hop]
    by_cases h1 : 1 + j = o
    · have h2 : ((1 + j : Nat) : Int) = dfC o := by
        unfold dfC
        rw [if_neg (by omega), h1]
      have hw : wantC incl o n lim (j + 1) = wantC incl o n lim j := by rw [hw1, if_neg (fun h => h.1.1 h1)]
      rw [if_pos h2, hw]
    · have h2 : ¬ ((1 + j : Nat) : Int) = dfC o := by
        unfold dfC
        split <;> omega
      rw [if_neg h2, if_neg (show ¬ ((0 : Int), decide (lim j ≤ n)).1 ≠ 0 from fun h => h rfl)]
      by_cases h3 : lim j ≤ n
      · have hw : wantC incl o n lim (j + 1) = wantC incl o n lim j ++ [1 + j] := by rw [hw1, if_pos ⟨⟨h1, h3⟩, hfree⟩]
        rw [if_pos (show ((0 : Int), decide (lim j ≤ n)).2 = true by simpa using h3), hw]
      · have hw : wantC incl o n lim (j + 1) = wantC incl o n lim j := by rw [hw1, if_neg (fun h => h3 h.1.2)]
        rw [if_neg (show ¬ ((0 : Int), decide (lim j ≤ n)).2 = true by simpa using h3), hw]
theorem outsC {incl : Bool} {o : Nat} {lim : Nat → Nat} : outsB (pC incl o lim) ((1 : Nat) : Int) = [1, 2, 3, 4] := by rfl
theorem insC {incl : Bool} {o : Nat} {lim : Nat → Nat} : insB (pC incl o lim) ((1 : Nat) : Int) = [0] := by rfl
theorem outWaysC {incl : Bool} {o n : Nat} {lim : Nat → Nat} (hn : n < 9) (hl : ∀ i, lim i < 9) (ho : o < 5) :
    outWays (bC incl o n lim) 1 = if wantF incl o n lim = [] then (116, []) else (0, wantF incl o n lim) := by
  have h0 : outWays (bC incl o n lim) 1 = choose (bC incl o n lim) (dfC o) (if incl = true then 4 else 1) [1, 2, 3, 4] [] := by
    cases incl <;> rfl
  have h1 : choose (bC incl o n lim) (dfC o) (if incl = true then 4 else 1) [1, 2, 3, 4] [] = finish (dfC o) 5 (wantC incl o n lim 4) := by
    have e0 := stepC (incl := incl) (o := o) (j := 0) (by decide) hn hl [2, 3, 4]
    have e1 := stepC (incl := incl) (o := o) (j := 1) (by decide) hn hl [3, 4]
    have e2 := stepC (incl := incl) (o := o) (j := 2) (by decide) hn hl [4]
    have e3 := stepC (incl := incl) (o := o) (j := 3) (by decide) hn hl []
    have e4 : choose (bC incl o n lim) (dfC o) (if incl = true then 4 else 1) [] (wantC incl o n lim 4) = finish (dfC o) 5 (wantC incl o n lim 4) := by
      rw [choose]
      show finish (dfC o) (pC incl o lim).m _ = _
      rw [pC_m]
    exact e0.trans (e1.trans (e2.trans (e3.trans e4)))
  rw [h0, h1]
  by_cases hw : wantC incl o n lim 4 = []
  · by_cases hz : o = 0
    · have hf : wantF incl o n lim = [] := by
        unfold wantF
        rw [if_neg (fun h => h.2 hz)]
        exact hw
      rw [hf, hw, if_pos rfl, hz]
      rfl
    · have hf : wantF incl o n lim = [o] := by
        unfold wantF
        rw [if_pos ⟨hw, hz⟩]
      have hd : dfC o = (o : Int) := by unfold dfC; rw [if_neg hz]
      rw [hf, hw, if_neg (fun h => nomatch h)]
      unfold finish
      rw [if_neg (fun h => h rfl), hd, if_pos (by omega), Int.toNat_natCast]
  · have hf : wantF incl o n lim = wantC incl o n lim 4 := by
      unfold wantF
      rw [if_neg (fun h => hw h.1)]
    rw [hf, if_neg hw]
    unfold finish
    rw [if_pos hw]
theorem numb_get : ∀ (k : Int) (l : List Tk) (i : Nat), i < l.length → (numb k l)[i]! = { l[i]! with id := k + i }
  | k, t :: l, 0, _ => by simp [numb]
  | k, t :: l, i + 1, h => by
    have := numb_get (k + 1) l i (by simpa using h)
    show (numb (k + 1) l)[i]! = { l[i]! with id := k + ((i + 1 : Nat) : Int) }
    rw [this, show k + 1 + (i : Int) = k + ((i + 1 : Nat) : Int) by omega]
def yC (incl : Bool) (o n : Nat) (lim : Nat → Nat) : Bd := ⟨pC incl o lim, vrC n, numb 6 (come (pC incl o lim) (wantF incl o n lim)), 6 + ((come (pC incl o lim) (wantF incl o n lim)).length : Int)⟩
theorem yC_len (incl : Bool) (o n : Nat) (lim : Nat → Nat) : (yC incl o n lim).toks.length = (wantF incl o n lim).length := by
  unfold yC come
  dsimp only
  rw [numb_len, List.length_map]
theorem yC_get {incl : Bool} {o n : Nat} {lim : Nat → Nat} (ho : o < 5) {i : Nat} (hi : i < (wantF incl o n lim).length) : (yC incl o n lim).toks[i]! = ⟨6 + (i : Int), 2, ((wantF incl o n lim)[i]! : Int), false⟩ := by
  have hc : (come (pC incl o lim) (wantF incl o n lim))[i]! = ⟨0, 2, ((wantF incl o n lim)[i]! : Int), false⟩ := by
    unfold come
    rw [getElem!_pos _ i (by simpa using hi), List.getElem_map, ← getElem!_pos (wantF incl o n lim) i hi]
    have hm := wantF_mem (incl := incl) (n := n) (lim := lim) ho (wantF incl o n lim)[i]! (by rw [getElem!_pos _ i hi]; exact List.getElem_mem hi)
    have h := condC incl o lim (j := (wantF incl o n lim)[i]! - 1) (by omega)
    rw [show 1 + ((wantF incl o n lim)[i]! - 1) = (wantF incl o n lim)[i]! by omega] at h
    rw [h]
  show (numb 6 (come (pC incl o lim) (wantF incl o n lim)))[i]! = _
  rw [numb_get 6 _ i (by unfold come; simpa using hi), hc]
theorem movedC {incl : Bool} {o n : Nat} {lim : Nat → Nat} : moved (bC incl o n lim) (goes (bC incl o n lim) 0 1) (wantF incl o n lim) = yC incl o n lim := by
  have hl : left (bC incl o n lim).toks (goes (bC incl o n lim) 0 1) = [] := by
    cases incl <;> rfl
  unfold moved
  rw [hl]
  rfl
theorem bstepC {incl : Bool} {o n : Nat} {lim : Nat → Nat} (hn : n < 9) (hl : ∀ i, lim i < 9) (ho : o < 5) :
    bstep (bC incl o n lim) 0 = if wantF incl o n lim = [] then (stuckAt (bC incl o n lim) 0, false, no, 116) else (yC incl o n lim, true, no, 0) := by
  have hn0 : (bC incl o n lim).toks[0]!.node.toNat = 1 := rfl
  have hk : ¬ (bC incl o n lim).p.nodes[1]!.kind = 3 := by
    cases incl
    · show ¬ (5 : Int) = 3; decide
    · show ¬ (7 : Int) = 3; decide
  unfold bstep
  dsimp only
  rw [hn0, outWaysC hn hl ho]
  by_cases hw : wantF incl o n lim = []
  · rw [if_pos hw, if_pos hw]
    rfl
  · rw [if_neg hw, if_neg hw]
    dsimp only
    have he : (if (0 : Int) ≠ 0 then (0 : Int) else if 40 < (wantF incl o n lim).length then 104 else 0) = 0 := by
      rw [if_neg (fun h => h rfl), if_neg (by have := wantF_len incl o n lim; omega)]
    rw [movedC, yC_len, he, if_neg (fun h => h rfl), if_neg hk]
theorem rdyC {incl : Bool} {o n : Nat} {lim : Nat → Nat} : Rdy (bC incl o n lim) (0 : Nat) := by
  refine ⟨0, rfl, Nat.zero_lt_one, rfl, 1, rfl, by show 1 < 3; decide, ?_, fun _ h => ?_, fun _ h => ?_⟩
  · cases incl
    · show ¬ (5 : Int) = 4; decide
    · show ¬ (7 : Int) = 4; decide
  · have h : 2 ≤ (insB (pC incl o lim) ((1 : Nat) : Int)).length := h
    rw [insC] at h
    exact absurd h (by decide)
  · have h : 2 ≤ (insB (pC incl o lim) ((1 : Nat) : Int)).length := h
    rw [insC] at h
    exact absurd h (by decide)
theorem stuckC {incl : Bool} {o n : Nat} {lim : Nat → Nat} : (stuckAt (bC incl o n lim) 0).toks = [⟨5, 1, 0, true⟩] := rfl
end Pr
end Go.Proofs.YtlmlhjepolefaaaGreatDoor
