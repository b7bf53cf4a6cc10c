/- Walks of package cond: Holds. The conditions of processes out of few numbers, as runners ask for them. Mathematics of FlowLoops: a ring, with a Work or without one. -/
import Derived.Test.YtkffnfgdmcebdaaGreatDoorElY
import Derived.Test.YtkffnfgdmcebdaaGreatDoorYJoint23
import Derived.Test.YtkffnfgdmcebdaaGreatDoorYJoint3
import Derived.Test.YtkffnfgdmcebdaaGreatDoorYJoint8
import Derived.Test.YtkffnfgdmcebdaaGreatDoorYJoint19
namespace Go.Proofs.YtkffnfgdmcebdaaGreatDoor
open Go.RowKit

section
variable {E : Int → Option Addr} {V w : World} {A : Option Addr} {n c : Nat} {l : List Vr.V}
/-- A text that Parse takes, which Eval may be asked of. -/
structure Co.Tx.Fit (x : Co.Tx) : Prop where
  ok : x.ok
  wf : Co.wf x.t = true
  lite : Co.lite x.t = true
  len : x.s.length ≤ 80
/-- Variables that Eval may be asked with. -/
structure VarsC (V : World) (A : Option Addr) (n : Nat) (l : List Vr.V) : Prop where
  row : VRow V V.heap.size A n l
  n : n ≤ 9223372036854775807
  lite : ∀ v ∈ l, v.text.size ≤ 80
theorem cpars_any {W : World} (hE : CoErrsE W E) (hb : Below W.heap.size W w) (x : Co.Tx) (hx : x.Fit) :
    Calls Tryz.prog 139 #[.string ⟨x.s.toArray⟩] w fun r w' => (∃ y, r = .returned (.tuple #[Ex.val y, .nilIface]) ∧ At w' (fun b => w.heap.size ≤ b) x.t y) ∧ Below w.heap.size w w' := by
  have hsz : (⟨x.s.toArray⟩ : ByteArray).size ≤ 80 := by have := hx.len; simpa [ByteArray.size] using this
  refine (cparse_any hE.toCoErrs hb hsz x.t none (by have := hx.ok; unfold Co.Tx.ok at this; simpa using this)).mono ?_
  rintro r w' ⟨⟨y, ev, rfl, ha, he⟩, hb'⟩
  obtain rfl : ev = .nilIface := he
  exact ⟨⟨y, rfl, ha⟩, hb'⟩
theorem ceval_any (hE : CoErrsE V E) (hV : VarsC V A n l) (x : Co.Tx) (hx : x.Fit) : EvalC E V A n c l x.t :=
  eval_any hE hV.row hV.n hV.lite x.t hx.wf hx.lite
set_option maxHeartbeats 1600000 in
theorem cholds_any (hE : CoErrsE V E) (hV : VarsC V A n l) (x : Co.Tx) (hx : x.Fit) (hb : Below V.heap.size V w) :
    Calls Tryz.prog 135 #[.string ⟨x.s.toArray⟩, .slice A n c] w fun r w' => (∃ e, r = .returned (.tuple #[.bool (Co.hold (Co.ev l x.t)).2, e]) ∧ SeenBy E e (Co.hold (Co.ev l x.t)).1) ∧ Below w.heap.size w w' := by
  have HP := Lib.hid (cpars_any hE hb x hx)
  have HT := Lib.hid (ceval_any (c := c) hE hV x hx)
  have hh : Co.hold (Co.ev l x.t) = if (Co.ev l x.t).1 = 0 then Co.truth (Co.ev l x.t).2 else ((Co.ev l x.t).1, false) := rfl
  unfold EvalC at HT
  generalize Co.ev l x.t = R at *
  obtain ⟨cd, v⟩ := R
  dsimp only at hh HT
  rw [hh]
  have HV := Lib.hid hb
  have HE := Lib.hid hE
  clear hb hE hh hV hx
  by_cases h0 : cd = 0
  · subst h0
    rw [if_pos rfl]
    go_enter Tryz.func135, Tryz.ntmps135
    go_wp2_with fail
    refine HP.out.mono ?_
    rintro r w1 ⟨⟨y, rfl, hat⟩, hb1⟩
    have hb1a : Below w.heap.size w (w1.alloc (.cells #[.int .i64 y.op, .int .i64 y.kind, .int .i64 y.num, .string y.txt, .string y.name, .slice y.A y.n y.c] 185)) := hb1.alloc hb1.size _
    have HX := Lib.hid (HT.out _ _ y (HV.out.trans (hb1a.mono HV.out.size)) (hat.alloc _))
    have HZ := Lib.hid (Ex.lit w1 y)
    obtain ⟨⟨x0, x1, x2, x3, x4, x5⟩, _⟩ := HZ.out.six_of
    have hlx : w1.heap.size < (w1.alloc (.cells #[.int .i64 y.op, .int .i64 y.kind, .int .i64 y.num, .string y.txt, .string y.name, .slice y.A y.n y.c] 185)).heap.size := HZ.out.lt
    have HB1 := Lib.hid hb1a
    clear hat hb1 hb1a
    unfold Ex.val at *
    go_wp2_with fail
    refine HX.out.mono ?_
    rintro r w2 ⟨⟨e, rfl, hs⟩, hb2⟩
    obtain rfl := seen_nil hs
    have hbw : Below w.heap.size w w2 := HB1.out.trans (hb2.mono HB1.out.size)
    have hb3 : Below w2.heap.size w2 (w2.alloc (.cells #[.int .i64 v.kind, .int .i64 v.num, .string v.txt] 94)) := (Below.refl _ _).alloc (Nat.le_refl _) _
    have hb4 := hbw.trans (hb3.mono hbw.size)
    have HX2 := Lib.hid (etruth_any HE.out (HV.out.trans (hb4.mono HV.out.size)) v)
    have HB4 := Lib.hid hb4
    clear hs hb2 hbw hb3 hb4 x0 x1 x2 x3 x4 x5
    unfold Vl.val at *
    go_wp2_with fail
    refine HX2.out.mono ?_
    rintro r w5 ⟨⟨e, rfl, hs⟩, hb5⟩
    have HBF := Lib.hid (HB4.out.trans (hb5.mono HB4.out.size))
    have HS := Lib.hid hs
    clear hs hb5
    go_wp2
    go_ret2
    exact ⟨⟨_, rfl, HS.out⟩, HBF.out⟩
  · rw [if_neg h0]
    have H0 := Lib.hid h0
    clear h0
    go_enter Tryz.func135, Tryz.ntmps135
    go_wp2_with fail
    refine HP.out.mono ?_
    rintro r w1 ⟨⟨y, rfl, hat⟩, hb1⟩
    have hb1a : Below w.heap.size w (w1.alloc (.cells #[.int .i64 y.op, .int .i64 y.kind, .int .i64 y.num, .string y.txt, .string y.name, .slice y.A y.n y.c] 185)) := hb1.alloc hb1.size _
    have HX := Lib.hid (HT.out _ _ y (HV.out.trans (hb1a.mono HV.out.size)) (hat.alloc _))
    have HZ := Lib.hid (Ex.lit w1 y)
    obtain ⟨⟨x0, x1, x2, x3, x4, x5⟩, _⟩ := HZ.out.six_of
    have hlx : w1.heap.size < (w1.alloc (.cells #[.int .i64 y.op, .int .i64 y.kind, .int .i64 y.num, .string y.txt, .string y.name, .slice y.A y.n y.c] 185)).heap.size := HZ.out.lt
    have HB1 := Lib.hid hb1a
    clear hat hb1 hb1a
    unfold Ex.val at *
    go_wp2_with fail
    refine HX.out.mono ?_
    rintro r w2 ⟨⟨e, rfl, hs⟩, hb2⟩
    obtain ⟨a, rfl, hka⟩ := seen_err hs H0.out
    have HBF := Lib.hid ((HB1.out.trans (hb2.mono HB1.out.size)).alloc (Nat.le_trans HB1.out.size hb2.size) (.cells #[.int .i64 v.kind, .int .i64 v.num, .string v.txt] 94))
    have HKA := Lib.hid hka
    clear hs hb2 hka x0 x1 x2 x3 x4 x5
    unfold errV Vl.val
    go_wp2
    go_ret2
    exact ⟨⟨_, rfl, .err _ a HKA.out H0.out⟩, HBF.out⟩
end
theorem VarsC.nil (V : World) : VarsC V none 0 [] := ⟨VRow.nil _ _ _, by decide, by simp⟩
end Go.Proofs.YtkffnfgdmcebdaaGreatDoor
namespace Go.Proofs.YtkffnfgdmcebdaaGreatDoor
open Go.RowKit

namespace Pr
/-- The conditions of the processes out of few numbers. -/
def cTx : List Co.Tx := [
  ⟨[], .leaf 1 2 1 [] []⟩,
  ⟨[116, 114, 117, 101], .leaf 1 2 1 [] []⟩,
  ⟨[102, 97, 108, 115, 101], .leaf 1 2 0 [] []⟩,
  ⟨[97, 32, 62, 32, 50], .two 10 (.leaf 2 0 0 [] [97]) (.leaf 1 1 2 [] [])⟩,
  ⟨[97, 32, 60, 32, 51, 32, 111, 114, 32, 98], .two 3 (.two 8 (.leaf 2 0 0 [] [97]) (.leaf 1 1 3 [] [])) (.leaf 2 0 0 [] [98])⟩,
  ⟨[115, 32, 61, 61, 32, 34, 120, 34], .two 6 (.leaf 2 0 0 [] [115]) (.leaf 1 3 0 [120] [])⟩,
  ⟨[97, 32, 47, 32, 48, 32, 61, 61, 32, 49], .two 6 (.two 15 (.leaf 2 0 0 [] [97]) (.leaf 1 1 0 [] [])) (.leaf 1 1 1 [] [])⟩,
  ⟨[99], .leaf 2 0 0 [] [99]⟩,
  ⟨[110, 111, 116, 32, 98], .one 5 (.leaf 2 0 0 [] [98])⟩,
  ⟨[97, 32, 43, 32, 49, 32, 61, 61, 32, 51], .two 6 (.two 12 (.leaf 2 0 0 [] [97]) (.leaf 1 1 1 [] [])) (.leaf 1 1 3 [] [])⟩,
  ⟨[49], .leaf 1 1 1 [] []⟩,
  ⟨[98, 32, 97, 110, 100, 32, 97, 32, 62, 61, 32, 48], .two 4 (.leaf 2 0 0 [] [98]) (.two 11 (.leaf 2 0 0 [] [97]) (.leaf 1 1 0 [] []))⟩]
theorem cTx_s : ∀ j, j < 12 → cTx[j]!.s = condL[j]! := by decide
theorem cTx_ok {j : Nat} (h0 : 1 ≤ j) (h : j < 12) : (cTx[j]!).ok := by
  rcases (show j = 1 ∨ j = 2 ∨ j = 3 ∨ j = 4 ∨ j = 5 ∨ j = 6 ∨ j = 7 ∨ j = 8 ∨ j = 9 ∨ j = 10 ∨ j = 11 by omega) with rfl | rfl | rfl | rfl | rfl | rfl | rfl | rfl | rfl | rfl | rfl <;> (unfold Co.Tx.ok; kernel_rfl)
theorem cTx_fit {j : Nat} (h0 : 1 ≤ j) (h : j < 12) : (cTx[j]!).Fit := by
  have h1 : ∀ j : Nat, j < 12 → Co.wf cTx[j]!.t = true ∧ Co.lite cTx[j]!.t = true ∧ cTx[j]!.s.length ≤ 80 := by decide +kernel
  obtain ⟨a, b, c⟩ := h1 j h
  exact ⟨cTx_ok h0 h, a, b, c⟩
/-- Variables that conditions may be asked with. -/
structure Lv (l : List Vr.V) : Prop where
  n : l.length ≤ 100000
  lite : ∀ v ∈ l, v.text.size ≤ 80
theorem condAll_tx {E : Int → Option Addr} {w0 : World} (hE : CoErrsE w0 E) {vars : List Vr.V} (hv : Lv vars) (x : Co.Tx) (hx : x.Fit) : CondAll E w0 vars ⟨x.s.toArray⟩ := by
  refine .inr fun w V nv cv hb hr => ?_
  by_cases h0 : (⟨x.s.toArray⟩ : ByteArray).size = 0
  · exact .inl h0
  refine .inr fun W hW => ?_
  have hl : nv = vars.length := (hr.len (by decide)).symm
  have hV : VarsC w V nv vars := ⟨hr, by have := hv.n; omega, hv.lite⟩
  have h := cholds_any (c := cv) (hE.below hb) hV x hx hW
  have ho : opens vars ⟨x.s.toArray⟩ = Co.hold (Co.ev vars x.t) := by
    unfold opens
    rw [if_neg h0]
    have h2 : (⟨x.s.toArray⟩ : ByteArray).toList = x.s := by rw [ByteArray.toList_eq]
    rw [h2, show Co.parse x.s = some (x.t, none) from hx.ok]
  rw [ho]
  exact h
theorem condAll_conds {E : Int → Option Addr} {w0 : World} (hE : CoErrsE w0 E) {vars : List Vr.V} (hv : Lv vars) (k : Int) : CondAll E w0 vars (bs (conds k)) := by
  unfold conds
  have h : (nmb k 12).toNat < 12 := by unfold nmb; omega
  generalize (nmb k 12).toNat = j at h
  by_cases h0 : j = 0
  · subst h0
    exact .inl rfl
  · have := condAll_tx hE hv cTx[j]! (cTx_fit (by omega) h)
    rw [cTx_s j h] at this
    exact this
/-- What a runner of such a process stands on. -/
theorem env_good {E : Int → Option Addr} {w0 : World} (hE : CoErrsE w0 E) (h1 : ErrIn w0 E 116 2) (h2 : ErrIn w0 E 104 1) {p : P} (hp : ∀ f ∈ p.flows, FlowOk p f) {vars : List Vr.V} (hv : Lv vars) : Env E w0 p vars := by
  refine ⟨h1, h2, fun f => ?_⟩
  by_cases hf : f < p.m
  · rcases (hp _ (fl_mem hf)).cond with h | ⟨_, k, h⟩
    · rw [h]; exact .inl rfl
    · rw [h]; exact condAll_conds hE hv k
  · left
    have hf2 : ¬ f < p.flows.length := hf
    rw [getElem!_neg p.flows f hf2]
    rfl
end Pr
end Go.Proofs.YtkffnfgdmcebdaaGreatDoor
namespace Go.Proofs.YtkffnfgdmcebdaaGreatDoor
open Go.RowKit

def Co.txT : Co.Tx := ⟨[116, 114, 117, 101], (.leaf 1 2 1 [] [])⟩
theorem Co.txT_ok : Co.txT.ok := by unfold Co.Tx.ok; kernel_rfl
namespace Pr
def trueL : ByteArray := bs [116, 114, 117, 101]
theorem opensT (vars : List Vr.V) : opens vars trueL = (0, true) := by
  unfold opens
  rw [if_neg (show ¬ trueL.size = 0 from by show ¬ 4 = 0; decide)]
  have h : trueL.toList = Co.txT.s := by rw [ByteArray.toList_eq]; rfl
  rw [h, show Co.parse Co.txT.s = some (Co.txT.t, none) from Co.txT_ok]
  rfl
def gateL : Nd := ⟨5, no, 0, 0, 3, no, no, -1⟩
def midL (work : Bool) : Nd := if work = true then wkS else Nd.plain 5
def pL (work : Bool) : P := ⟨bs [112], [Nd.plain 1, gateL, midL work, Nd.plain 2], [⟨0, 1, no⟩, ⟨1, 2, trueL⟩, ⟨2, 1, no⟩, ⟨1, 3, no⟩]⟩
def nodeL (k : Nat) : Nat := if k = 0 then 0 else if k % 2 = 1 then 1 else 2
def innL (k : Nat) : Int := if k = 0 then -1 else if k = 1 then 0 else if k % 2 = 1 then 2 else 1
def tL (k : Nat) : Tk := ⟨(k : Int) + 1, (nodeL k : Int), innL k, false⟩
def bL (work : Bool) (k : Nat) : Bd := ⟨pL work, [], [tL k], (k : Int) + 2⟩
theorem outsLp (work : Bool) : outsB (pL work) ((0 : Nat) : Int) = [0] ∧ outsB (pL work) ((1 : Nat) : Int) = [1, 3] ∧ outsB (pL work) ((2 : Nat) : Int) = [2] := by
  cases work <;> exact ⟨rfl, rfl, rfl⟩
theorem waysL (work : Bool) (k : Nat) : outWays (bL work k) 0 = (0, [0]) ∧ outWays (bL work k) 1 = (0, [1]) ∧ (work = false → outWays (bL work k) 2 = (0, [2])) := by
  obtain ⟨h0, h1, h2⟩ := outsLp work
  have hp : (bL work k).p = pL work := rfl
  refine ⟨?_, ?_, fun hw => ?_⟩
  · unfold outWays
    dsimp only
    rw [hp, h0]
    rfl
  · unfold outWays
    dsimp only
    rw [hp, h1, show (pL work).nodes[1]! = gateL from rfl]
    rw [show gateL.kind = 5 from rfl, if_neg (by decide), if_pos rfl, if_neg (by decide)]
    show choose (bL work k) 3 1 [1, 3] [] = (0, [1])
    rw [choose_one (bL work k) 3 1 1 [3] [] (by decide) (by decide) (opensT _)]
    rfl
  · subst hw
    unfold outWays
    dsimp only
    rw [hp, h2]
    rfl
theorem stepL (work : Bool) (k : Nat) (h : work = false ∨ k = 0 ∨ k % 2 = 1) : Fst (bL work k) 0 ∧ bstep (bL work k) 0 = (bL work (k + 1), true, no, 0) := by
  obtain ⟨w0, w1, w2⟩ := waysL work k
  by_cases h0 : k = 0
  · subst h0
    have hk : (bL work 0).p.nodes[0]!.kind = 1 := rfl
    refine ⟨rdy_one (u := 0) rfl rfl rfl (by show 0 < 4; decide) (.inl hk), ?_⟩
    rw [bstep_one (u := 0) (fs := [0]) rfl rfl w0 (by decide) (.inl hk)]
    rfl
  by_cases h1 : k % 2 = 1
  · have hk : (bL work k).p.nodes[1]!.kind = 5 := rfl
    have hu : (tL k).node = ((1 : Nat) : Int) := by unfold tL nodeL; rw [if_neg h0, if_pos h1]
    refine ⟨rdy_one (u := 1) rfl rfl hu (by show 1 < 4; decide) (.inr (.inr hk)), ?_⟩
    rw [bstep_one (u := 1) (fs := [1]) rfl hu w1 (by decide) (.inr (.inr hk))]
    have hc : come (bL work k).p [1] = [⟨0, 2, 1, false⟩] := rfl
    rw [hc]
    have hn : nodeL (k + 1) = 2 := by unfold nodeL; rw [if_neg (by omega), if_neg (by omega)]
    have hi : innL (k + 1) = 1 := by unfold innL; rw [if_neg (by omega), if_neg (by omega), if_neg (by omega)]
    unfold bL tL
    rw [hn, hi]
    simp only [numb, List.length_singleton]
    have e1 : ((k + 1 : Nat) : Int) + 1 = (k : Int) + 2 := by omega
    have e2 : ((k + 1 : Nat) : Int) + 2 = (k : Int) + 2 + ((1 : Nat) : Int) := by omega
    rw [e1, e2]
    rfl
  · have hw : work = false := by
      rcases h with h | h | h
      · exact h
      · exact absurd h h0
      · exact absurd h h1
    subst hw
    have hk : (bL false k).p.nodes[2]!.kind = 5 := rfl
    have hu : (tL k).node = ((2 : Nat) : Int) := by unfold tL nodeL; rw [if_neg h0, if_neg h1]
    refine ⟨rdy_one (u := 2) rfl rfl hu (by show 2 < 4; decide) (.inr (.inr hk)), ?_⟩
    rw [bstep_one (u := 2) (fs := [2]) rfl hu (w2 rfl) (by decide) (.inr (.inr hk))]
    have hc : come (bL false k).p [2] = [⟨0, 1, 2, false⟩] := rfl
    rw [hc]
    have hn : nodeL (k + 1) = 1 := by unfold nodeL; rw [if_neg (by omega), if_pos (by omega)]
    have hi : innL (k + 1) = 2 := by unfold innL; rw [if_neg (by omega), if_neg (by omega), if_pos (by omega)]
    unfold bL tL
    rw [hn, hi]
    simp only [numb, List.length_singleton]
    have e1 : ((k + 1 : Nat) : Int) + 1 = (k : Int) + 2 := by omega
    have e2 : ((k + 1 : Nat) : Int) + 2 = (k : Int) + 2 + ((1 : Nat) : Int) := by omega
    rw [e1, e2]
    rfl
theorem restL {k : Nat} (h0 : k ≠ 0) (h1 : k % 2 = 0) : Rest (bL true k) := by
  refine rest_work fun j hj => ?_
  have hj : j < 1 := hj
  obtain rfl : j = 0 := by omega
  refine ⟨2, ?_, rfl⟩
  show (nodeL k : Int) = _
  unfold nodeL
  rw [if_neg h0, if_neg (by omega)]
theorem workL {k : Nat} (h0 : k ≠ 0) (h1 : k % 2 = 0) : tL k = ⟨(k : Int) + 1, 2, 1, false⟩ := by
  unfold tL nodeL innL
  rw [if_neg h0, if_neg (by omega), if_neg h0, if_neg (by omega), if_neg (by omega)]
  rfl
theorem waitsL {k : Nat} (h0 : k ≠ 0) (h1 : k % 2 = 0) (mv : Nat) (fl : ByteArray) : (⟨bL true k, mv, fl⟩ : Rn).waits = [⟨(k : Int) + 1, 2, 1, false⟩] := by
  unfold Rn.waits bL
  dsimp only
  rw [workL h0 h1]
  rfl
theorem goL {k : Nat} (h0 : k ≠ 0) (h1 : k % 2 = 0) : goB (bL true k) ((k : Int) + 1) 2 = (true, bL true (k + 1)) := by
  have hx : (bL true k).toks.findIdx? (fun t => t.id == (k : Int) + 1) = some 0 := by
    show List.findIdx? _ [_] = _
    rw [List.findIdx?_cons]
    simp [tL]
  unfold goB
  rw [hx]
  dsimp only
  have e : (bL true k).toks[0]! = ⟨(k : Int) + 1, 2, 1, false⟩ := workL h0 h1
  rw [e]
  have hw : atW (bL true k).p ⟨(k : Int) + 1, 2, 1, false⟩ = true := rfl
  have hm : (2 : Int) ∈ (outsB (bL true k).p (2 : Int)).map Int.ofNat := by
    have := (outsLp true).2.2
    rw [show (bL true k).p = pL true from rfl, show (2 : Int) = ((2 : Nat) : Int) from rfl, this]
    simp
  rw [if_pos ⟨hw, hm⟩]
  unfold along moved
  rw [left_none (l := (bL true k).toks) (g := fun j => decide (j = 0)) (fun j hj => by
    have hj : j < 1 := hj
    simp
    omega)]
  have hc : come (bL true k).p [(2 : Int).toNat] = [⟨0, 1, 2, false⟩] := rfl
  rw [hc]
  have hn : nodeL (k + 1) = 1 := by unfold nodeL; rw [if_neg (by omega), if_pos (by omega)]
  have hi : innL (k + 1) = 2 := by unfold innL; rw [if_neg (by omega), if_neg (by omega), if_pos (by omega)]
  unfold bL tL Bd.put
  rw [hn, hi]
  simp only [numb, List.length_singleton, List.nil_append]
  have e1 : ((k + 1 : Nat) : Int) + 1 = (k : Int) + 2 := by omega
  have e2 : ((k + 1 : Nat) : Int) + 2 = (k : Int) + 2 + ((1 : Nat) : Int) := by omega
  rw [e1, e2]
  rfl
theorem okL (work : Bool) (k : Nat) {most : Nat} (hk : k ≤ 10000) (hm : most ≤ 10000) : Ok (bL work k) most := by
  refine ⟨⟨asc_one _, fun t ht => ?_⟩, by show 4 ≤ 100000; decide, by show 4 ≤ 90000; decide, by show 0 ≤ 100000; decide, by show 1 ≤ 100000; decide, by show (0 : Int) ≤ (k : Int) + 2; omega, ?_⟩
  · obtain rfl := List.mem_singleton.1 ht
    show (k : Int) + 1 < (k : Int) + 2
    omega
  · show (k : Int) + 2 + (most : Int) * (((4 : Nat) : Int) + 1) ≤ 1000000000
    omega
end Pr
end Go.Proofs.YtkffnfgdmcebdaaGreatDoor
