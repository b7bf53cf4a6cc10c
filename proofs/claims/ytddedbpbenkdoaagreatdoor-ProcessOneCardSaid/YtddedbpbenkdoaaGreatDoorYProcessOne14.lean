/- The program's flowFault. A process in memory, with a node and a flow beside it; one thing of it set. From the reading of an argument to what a walk is told of it. The walk of leaseholdmake.Light. -/
import Derived.Test.YtddedbpbenkdoaaGreatDoorBcY
import Derived.Test.YtddedbpbenkdoaaGreatDoorYProcessOne1
import Derived.Test.YtddedbpbenkdoaaGreatDoorCjY
import Derived.Test.YtddedbpbenkdoaaGreatDoorYProcessOne4
import Derived.Test.YtddedbpbenkdoaaGreatDoorYProcessOne15
import Derived.Test.YtddedbpbenkdoaaGreatDoorYProcessOne8
import Derived.Test.YtddedbpbenkdoaaGreatDoorYProcessOne12
import Derived.OpenShut
import Derived.ShutString
import Derived.ChangeOld
import Derived.Test.YtddedbpbenkdoaaGreatDoorYProcessOne2
import Derived.Deep.CutRange
namespace Go.Proofs.YtddedbpbenkdoaaGreatDoor
open Go.RowKit

namespace Pr
theorem node_within (i : Int) (n : Nat) : (decide (0 ≤ i) && decide (i < (n : Int))) = within i 0 ((n : Int) - 1) := by
  unfold within
  congr 1
  rw [decide_eq_decide]
  omega
/-- What Parse tells of a text. -/
def erC : Option (Int × Nat) → Int
  | some x => x.1
  | none => 0
theorem condBad_of (s : ByteArray) {e : Co.Tr} {er : Option (Int × Nat)} (h : Co.parse s.data.toList = some (e, er)) : condBad s = erC er := by
  unfold condBad
  rw [h]
  cases er with
  | none => rfl
  | some x => rfl
set_option maxHeartbeats 6400000 in
set_option maxRecDepth 10000 in
theorem flowfault_any {W : World} {E : Int → Option Addr} (hE : PrErrs W E) (hC : CoErrs W E) (hT : ErrTy W) (A : Option Addr) (n c : Nat) (F : Option Addr) (m d : Nat) (p : P) (f : Fl) (w : World) (hW : Below W.heap.size W w) (hN : KRow Nd.κ w w.heap.size A n p.nodes) (hs : f.cond.size ≤ 80) :
    Calls Tryz.prog 19 #[.agg #[.string p.name, .slice A n c, .slice F m d], .agg #[.int .i64 f.frm, .int .i64 f.til, .string f.cond]] w fun e w' => (∃ ev, e = .returned ev ∧ SeenBy E ev (flowBad p f)) ∧ Below w.heap.size w w' := by
  obtain rfl : p.n = n := hN.len (by decide)
  obtain ⟨R, hR⟩ : ∃ R, R = flowBad p f := ⟨_, rfl⟩
  rw [← hR]
  unfold flowBad at hR
  have HE := Lib.hid (fun W' (hb : Below w.heap.size w W') => hE.below (w := W') (hW.trans (hb.mono hW.size)))
  have HT := Lib.hid (fun W' (hb : Below w.heap.size w W') => hT.below (w' := W') (hW.trans (hb.mono hW.size)))
  obtain ⟨pe, er, hp⟩ := Co.parse_tot f.cond.data.toList
  have HBD := Lib.hid (condBad_of f.cond hp)
  have HPA := Lib.hid (fun W' (hb : Below w.heap.size w W') => cparse_any (w := W') hC (hW.trans (hb.mono hW.size)) hs pe er hp)
  have HN := Lib.hid hN
  have hp1 := Cel.lit w #[.string p.name, .slice A p.n c, .slice F m d] 30
  have hb1 := (Below.refl w.heap.size w).alloc (Nat.le_refl _) (.cells #[.string p.name, .slice A p.n c, .slice F m d] 30)
  have hp2 := Cel.lit (w.alloc (.cells #[.string p.name, .slice A p.n c, .slice F m d] 30)) #[.int .i64 f.frm, .int .i64 f.til, .string f.cond] 38
  have HB := Lib.hid (hb1.alloc hb1.size (.cells #[.int .i64 f.frm, .int .i64 f.til, .string f.cond] 38))
  have HP := Lib.hid (hp1.alloc (.cells #[.int .i64 f.frm, .int .i64 f.til, .string f.cond] 38))
  have HF := Lib.hid hp2
  have s1 : (w.alloc (.cells #[.string p.name, .slice A p.n c, .slice F m d] 30)).heap.size = w.heap.size + 1 := by simp
  rw [s1] at HF
  have I1 := Lib.hid (fun W => isnode_any (w := W) p.name A p.n c F m d f.frm)
  have I2 := Lib.hid (fun W => isnode_any (w := W) p.name A p.n c F m d f.til)
  rw [node_within] at I1 I2
  obtain ⟨b1, hb1'⟩ : ∃ b, within f.frm 0 ((p.n : Int) - 1) = b := ⟨_, rfl⟩
  obtain ⟨b2, hb2'⟩ : ∃ b, within f.til 0 ((p.n : Int) - 1) = b := ⟨_, rfl⟩
  rw [hb1', hb2'] at hR
  rw [hb1'] at I1
  rw [hb2'] at I2
  have HB1 := Lib.hid hb1'
  clear hN hs hb1 hp1 hp2 s1 hp hE hC hT hW hb1' hb2'
  go_enter Tryz.func19, Tryz.ntmps19
  go_upto_region 1 with (fail)
  generalize (w.alloc _).alloc _ = wb at *
  obtain ⟨⟨z0, z1, z2⟩, _⟩ := tri_facts HP.out
  obtain ⟨⟨y0, y1, y2⟩, _⟩ := tri_facts HF.out
  go_wp2_with fail
  refine (I1.out _).mono ?_
  rintro e w2 ⟨rfl, hb2⟩
  have HB2 := Lib.hid (HB.out.trans (hb2.mono HB.out.size))
  have HP2 := Lib.hid (HP.out.below hb2 (Nat.le_refl _))
  have HF2 := Lib.hid (HF.out.below hb2 (Nat.le_refl _))
  clear z0 z1 z2 y0 y1 y2 hb2 HP HF HB
  cases b1 with
  | false =>
    rw [Bool.false_and, if_pos rfl] at hR
    subst hR
    obtain ⟨a7, ha7, g7⟩ := (HE.out _ HB2.out).e107
    go_wp2
    go_ret
    exact ⟨⟨_, rfl, .err 107 a7 ha7 (by decide)⟩, HB2.out⟩
  | true =>
    obtain ⟨⟨z0, z1, z2⟩, _⟩ := tri_facts HP2.out
    obtain ⟨⟨y0, y1, y2⟩, _⟩ := tri_facts HF2.out
    go_wp2_with fail
    refine (I2.out _).mono ?_
    rintro e w3 ⟨rfl, hb3⟩
    have HB3 := Lib.hid (HB2.out.trans (hb3.mono HB2.out.size))
    have HP3 := Lib.hid (HP2.out.below hb3 (Nat.le_refl _))
    have HF3 := Lib.hid (HF2.out.below hb3 (Nat.le_refl _))
    clear z0 z1 z2 y0 y1 y2 hb3 HP2 HF2 HB2
    cases b2 with
    | false =>
      rw [Bool.and_false, if_pos rfl] at hR
      subst hR
      obtain ⟨a7, ha7, g7⟩ := (HE.out _ HB3.out).e107
      go_wp2
      go_ret
      exact ⟨⟨_, rfl, .err 107 a7 ha7 (by decide)⟩, HB3.out⟩
    | true =>
      rw [Bool.and_true, if_neg (by decide)] at hR
      obtain ⟨⟨z0, z1, z2⟩, _⟩ := tri_facts HP3.out
      obtain ⟨⟨y0, y1, y2⟩, _⟩ := tri_facts HF3.out
      obtain ⟨z, hz⟩ : ∃ z, f.cond.toList.isEmpty = z := ⟨_, rfl⟩
      have hzs := emp_iff f.cond
      rw [hz] at hzs
      cases z with
      | true =>
        have h0 : f.cond.size = 0 := beq_iff_eq.1 hzs.symm
        rw [if_pos h0] at hR
        subst hR
        clear hzs h0
        go_wp2
        go_ret
        exact ⟨⟨_, rfl, .nil⟩, HB3.out⟩
      | false =>
        have h0 : ¬ f.cond.size = 0 := beq_eq_false_iff_ne.1 hzs.symm
        rw [if_neg h0] at hR
        clear hzs h0
        obtain ⟨a, ha, hap⟩ : ∃ a : Nat, f.frm = a ∧ a < p.n := by
          have h1 := HB1.out
          unfold within at h1
          simp only [Bool.and_eq_true, decide_eq_true_eq] at h1
          exact ⟨f.frm.toNat, by omega, by omega⟩
        have haI : (a : Int) < (p.n : Int) := by omega
        have ha0 : (0 : Int) ≤ (a : Int) := by omega
        rw [ha] at hR y0
        rw [show ((a : Int)).toNat = a from by omega] at hR
        obtain ⟨bx, off, rfl, _, _⟩ := HN.out.2 (by omega)
        obtain ⟨n0, n1, n2, n3, n4, n5, n6, n7⟩ := nd_at (HN.out.below HB3.out (Nat.le_refl _)) hap
        have hg : ((p.nodes[a]!).kind ≠ 5 ∧ (p.nodes[a]!).kind ≠ 7) ↔ ((p.nodes[a]!).kind == 5 || (p.nodes[a]!).kind == 7) = false := by
          rw [Bool.or_eq_false_iff, beq_eq_false_iff_ne, beq_eq_false_iff_ne]
        generalize p.nodes[a]! = x at *
        have HCH := Lib.hid (fun W => chooses_any x W)
        unfold Nd.val at HCH
        obtain ⟨g, hgv⟩ : ∃ g, (x.kind == 5 || x.kind == 7) = g := ⟨_, rfl⟩
        rw [hgv] at HCH hg
        clear hgv
        go_wp2_with fail
        refine (HCH.out _).mono ?_
        rintro e w4 ⟨rfl, hb4⟩
        have HB4 := Lib.hid (HB3.out.trans (hb4.mono HB3.out.size))
        have HF4 := Lib.hid (HF3.out.below hb4 (Nat.le_refl _))
        clear z0 z1 z2 y0 y1 y2 hb4 HP3 HF3 HB3 n0 n1 n2 n3 n4 n5 n6 n7
        cases g with
        | false =>
          rw [if_pos (hg.2 rfl)] at hR
          subst hR
          obtain ⟨a2, ha2, g2⟩ := (HE.out _ HB4.out).e102
          clear hg
          go_wp2
          go_ret
          exact ⟨⟨_, rfl, .err 102 a2 ha2 (by decide)⟩, HB4.out⟩
        | true =>
          rw [if_neg (fun h => by have := hg.1 h; cases this)] at hR
          rw [HBD.out] at hR
          clear hg
          obtain ⟨⟨y0, y1, y2⟩, _⟩ := tri_facts HF4.out
          go_wp2_with fail
          refine (HPA.out _ HB4.out).mono ?_
          rintro e w5 ⟨⟨y, ev, rfl, _, herr⟩, hb5⟩
          have HB5 := Lib.hid (HB4.out.trans (hb5.mono HB4.out.size))
          have HERR := Lib.hid herr
          clear y0 y1 y2 hb5 HF4 HB4 herr
          unfold Ex.val
          have hba : Below w5.heap.size w5 (w5.alloc (.cells #[.int .i64 y.op, .int .i64 y.kind, .int .i64 y.num, .string y.txt, .string y.name, .slice y.A y.n y.c] 77)) := (Below.refl _ _).alloc (Nat.le_refl _) _
          have HB6 := Lib.hid (HB5.out.trans (hba.mono HB5.out.size))
          have HBA := Lib.hid hba
          clear hba
          cases er with
          | none =>
            subst hR
            obtain rfl : ev = .nilIface := HERR.out
            go_wp2_with fail
            generalize w5.alloc _ = w6 at *
            refine (wop_nil _).mono ?_
            rintro e w7 ⟨rfl, hb7⟩
            have HB7 := Lib.hid (HB6.out.trans (hb7.mono HB6.out.size))
            clear hb7
            go_wp2
            go_ret
            exact ⟨⟨_, rfl, .nil⟩, HB7.out⟩
          | some cx =>
            obtain ⟨c, k⟩ := cx
            have hR : R = c := hR
            subst hR
            obtain ⟨b, a', rfl, hEc, hc0, hbl⟩ := HERR.out
            have hbl6 := (HBA.out.block b (blk_lt hbl)).trans hbl
            have HW := Lib.hid (wop_at _ b k (errV a') (HT.out _ HB6.out) hbl6)
            unfold atV
            have HEC := Lib.hid hEc
            have HC0 := Lib.hid hc0
            clear hbl hbl6 hEc hc0
            go_wp2_with fail
            generalize w5.alloc _ = w6 at *
            refine HW.out.mono ?_
            rintro e w7 ⟨rfl, hb7⟩
            have HB7 := Lib.hid (HB6.out.trans (hb7.mono HB6.out.size))
            clear hb7
            go_wp2
            go_ret
            exact ⟨⟨_, rfl, .err _ a' HEC.out HC0.out⟩, HB7.out⟩
end Pr
end Go.Proofs.YtddedbpbenkdoaaGreatDoor
namespace Go.Proofs.YtddedbpbenkdoaaGreatDoor
open Go.RowKit

/-- What follows is proved once, however many orders come to it. -/
theorem once {A B : Prop} (h : A → B) (a : A) : B := h a
/-- All of these written, one behind the other. -/
def setAll : List Value → Nat → List Value → List Value
  | xs, _, [] => xs
  | xs, o, v :: vs => setAll (xs.set o v) (o + 1) vs
def storeAll (w : World) (g : Nat) : Nat → List Value → World
  | _, [] => w
  | o, v :: vs => storeAll (w.setCell ⟨g, o, none⟩ v) g (o + 1) vs
theorem setAll_right : ∀ (vs a r : List Value) (o : Nat), setAll (a ++ r) (a.length + o) vs = a ++ setAll r o vs
  | [], _, _, _ => rfl
  | v :: vs, a, r, o => by
    show setAll ((a ++ r).set (a.length + o) v) (a.length + o + 1) vs = a ++ setAll (r.set o v) (o + 1) vs
    rw [List.set_append, if_neg (by omega), Nat.add_sub_cancel_left, Nat.add_assoc, setAll_right vs a]
theorem setAll_left : ∀ (vs a r : List Value), a.length = vs.length → setAll (a ++ r) 0 vs = vs ++ r
  | [], a, r, h => by
    have : a = [] := List.length_eq_zero_iff.1 h
    subst this; rfl
  | v :: vs, [], r, h => by cases h
  | v :: vs, y :: a, r, h => by
    show setAll (((y :: a) ++ r).set 0 v) (0 + 1) vs = v :: (vs ++ r)
    rw [List.cons_append, List.set_cons_zero]
    have := setAll_right vs [v] (a ++ r) 0
    rw [setAll_left vs a r (by simpa using h)] at this
    exact this
theorem Cs.flat_whole {α : Type} (κ : Cs α) (x : α) : ∀ (l : List α) (j : Nat), j < l.length → setAll (l.flatMap κ.cs) (j * κ.k) (κ.cs x) = (l.set j x).flatMap κ.cs
  | [], _, h => by cases h
  | y :: l, 0, _ => by
    rw [Nat.zero_mul, List.flatMap_cons, List.set_cons_zero, List.flatMap_cons]
    exact setAll_left _ _ _ (by rw [κ.len, κ.len])
  | y :: l, j + 1, h => by
    rw [List.flatMap_cons, List.set_cons_succ, List.flatMap_cons, ← Cs.flat_whole κ x l j (by simpa using h)]
    have := setAll_right (κ.cs x) (κ.cs y) (l.flatMap κ.cs) (j * κ.k)
    rw [κ.len] at this
    rw [Nat.succ_mul, Nat.add_comm (j * κ.k)]
    exact this
theorem storeAll_own {base n c g : Nat} {e : TypeId} {size : Nat} : ∀ (vs : List Value) (o : Nat) (w : World) (xs : List Value), w.ownsRow base e size (.slice (some ⟨g, 0, none⟩) n c) n xs → (storeAll w g o vs).ownsRow base e size (.slice (some ⟨g, 0, none⟩) n c) n (setAll xs o vs)
  | [], _, _, _, h => h
  | v :: vs, o, _, _, h => storeAll_own vs (o + 1) _ _ (World.ownsRow.stored h o v).1
theorem storeAll_grown {g : Nat} : ∀ (vs : List Value) (o : Nat) (w : World), w.grownBy (storeAll w g o vs) (some g)
  | [], _, w => World.grownBy.refl w _
  | v :: vs, o, w => grown_trans (grown_setCell w ⟨g, o, none⟩ v) (storeAll_grown vs (o + 1) _)
theorem OwnK.whole {α : Type} {κ : Cs α} {w : World} {base n c g : Nat} {e : TypeId} {l : List α} (h : OwnK κ w base e (some ⟨g, 0, none⟩) n c l) {j : Nat} (hj : j < l.length) (x : α) :
    OwnK κ (storeAll w g (j * κ.k) (κ.cs x)) base e (some ⟨g, 0, none⟩) n c (l.set j x) :=
  ⟨h.1, by rw [← Cs.flat_whole κ x l j hj]; exact storeAll_own _ _ _ _ h.2⟩
theorem cel_eight {w : World} {z : Nat} {a0 a1 a2 a3 a4 a5 a6 a7 : Value} (h : Cel w z [a0, a1, a2, a3, a4, a5, a6, a7]) (b0 b1 b2 b3 b4 b5 b6 b7 : Value) :
    Cel ((((((((w.setCell ⟨z, 0, none⟩ b0).setCell ⟨z, 1, none⟩ b1).setCell ⟨z, 2, none⟩ b2).setCell ⟨z, 3, none⟩ b3).setCell ⟨z, 4, none⟩ b4).setCell ⟨z, 5, none⟩ b5).setCell ⟨z, 6, none⟩ b6).setCell ⟨z, 7, none⟩ b7) z [b0, b1, b2, b3, b4, b5, b6, b7] :=
  (((((((h.set (i := 0) (by simp) b0).set (i := 1) (by simp) b1).set (i := 2) (by simp) b2).set (i := 3) (by simp) b3).set (i := 4) (by simp) b4).set (i := 5) (by simp) b5).set (i := 6) (by simp) b6).set (i := 7) (by simp) b7
theorem below_eight {w0 w : World} {B z : Nat} (h : Below B w0 w) (hz : B ≤ z) (b0 b1 b2 b3 b4 b5 b6 b7 : Value) :
    Below B w0 ((((((((w.setCell ⟨z, 0, none⟩ b0).setCell ⟨z, 1, none⟩ b1).setCell ⟨z, 2, none⟩ b2).setCell ⟨z, 3, none⟩ b3).setCell ⟨z, 4, none⟩ b4).setCell ⟨z, 5, none⟩ b5).setCell ⟨z, 6, none⟩ b6).setCell ⟨z, 7, none⟩ b7) :=
  (((((((h.setCell (p := ⟨z, 0, none⟩) hz b0).setCell (p := ⟨z, 1, none⟩) hz b1).setCell (p := ⟨z, 2, none⟩) hz b2).setCell (p := ⟨z, 3, none⟩) hz b3).setCell (p := ⟨z, 4, none⟩) hz b4).setCell (p := ⟨z, 5, none⟩) hz b5).setCell (p := ⟨z, 6, none⟩) hz b6).setCell (p := ⟨z, 7, none⟩) hz b7
namespace Pr
/-- A node whose texts are no longer than a thousand. -/
def Tn (x : Nd) : Prop := x.topic.size ≤ 1000 ∧ x.code.size ≤ 1000 ∧ x.caught.size ≤ 1000
structure Okp (p : P) : Prop where
  name : p.name.size ≤ 1000
  n0 : 0 < p.n
  n1 : p.n ≤ 1000
  m0 : 0 < p.m
  m1 : p.m ≤ 1000
  nd : ∀ x ∈ p.nodes, Tn x
  fl : ∀ f ∈ p.flows, f.cond.size ≤ 80
theorem Okp.lite {p : P} (h : Okp p) : Lite p where
  name := by have := h.name; omega
  nodes i hi := by
    have hi' : i < p.nodes.length := hi
    have hm := h.nd p.nodes[i]! (by rw [getElem!_pos p.nodes i hi']; exact List.getElem_mem hi')
    exact ⟨by have := hm.1; omega, by have := hm.2.1; omega, by have := hm.2.2; omega⟩
  flows i hi := by
    have hi' : i < p.flows.length := hi
    have hm := h.fl p.flows[i]! (by rw [getElem!_pos p.flows i hi']; exact List.getElem_mem hi')
    omega
theorem Okp.cond {p : P} (h : Okp p) : ∀ j, j < p.m → (p.flows[j]!).cond.size ≤ 80 := by
  intro i hi
  have hi' : i < p.flows.length := hi
  exact h.fl p.flows[i]! (by rw [getElem!_pos p.flows i hi']; exact List.getElem_mem hi')
theorem Okp.good (kinds more : List Int) (rings : Bool) : Okp (good kinds more rings) := by
  obtain ⟨_, h2, h3, h4, _⟩ := good_inv kinds more rings
  have ht := good_tiny kinds more rings
  refine ⟨by have := ht.name; omega, by omega, by omega, ?_, by omega, fun x hx => ?_, fun f hf => (ht.fl f hf).cond⟩
  · show 0 < (Pr.good kinds more rings).flows.length
    unfold Pr.good P.join
    simp
  · have := ht.nd x hx
    exact ⟨by have := this.topic; omega, by have := this.code; omega, by have := this.caught; omega⟩
theorem Okp.named {p : P} (h : Okp p) {t : ByteArray} (ht : t.size ≤ 60) : Okp ⟨t, p.nodes, p.flows⟩ := ⟨by show t.size ≤ 1000; omega, h.n0, h.n1, h.m0, h.m1, h.nd, h.fl⟩
theorem Okp.flow {p : P} (h : Okp p) (h2 : p.m ≤ 999) {f : Fl} (hf : f.cond.size ≤ 80) : Okp ⟨p.name, p.nodes, p.flows ++ [f]⟩ :=
  ⟨h.name, h.n0, h.n1, by show 0 < (p.flows ++ [f]).length; simp, by show (p.flows ++ [f]).length ≤ 1000; have : p.flows.length ≤ 999 := h2; simp; omega, h.nd, fun y hy => by
    rcases List.mem_append.1 hy with h1 | h1
    · exact h.fl y h1
    · rw [List.mem_singleton.1 h1]; exact hf⟩
theorem Okp.node {p : P} (h : Okp p) (h2 : p.n ≤ 999) {x : Nd} (hx : Tn x) : Okp ⟨p.name, p.nodes ++ [x], p.flows⟩ :=
  ⟨h.name, by show 0 < (p.nodes ++ [x]).length; simp, by show (p.nodes ++ [x]).length ≤ 1000; have : p.nodes.length ≤ 999 := h2; simp; omega, h.m0, h.m1, fun y hy => by
    rcases List.mem_append.1 hy with h1 | h1
    · exact h.nd y h1
    · rw [List.mem_singleton.1 h1]; exact hx, h.fl⟩
theorem Okp.setn {p : P} (h : Okp p) (k : Nat) {x : Nd} (hx : Tn x) : Okp ⟨p.name, p.nodes.set k x, p.flows⟩ :=
  ⟨h.name, by show 0 < (p.nodes.set k x).length; rw [List.length_set]; exact h.n0, by show (p.nodes.set k x).length ≤ 1000; rw [List.length_set]; exact h.n1, h.m0, h.m1, fun y hy => by
    rcases List.mem_or_eq_of_mem_set hy with h1 | h1
    · exact h.nd y h1
    · rw [h1]; exact hx, h.fl⟩
theorem Okp.setf {p : P} (h : Okp p) (k : Nat) {f : Fl} (hf : f.cond.size ≤ 80) : Okp ⟨p.name, p.nodes, p.flows.set k f⟩ :=
  ⟨h.name, h.n0, h.n1, by show 0 < (p.flows.set k f).length; rw [List.length_set]; exact h.m0, by show (p.flows.set k f).length ≤ 1000; rw [List.length_set]; exact h.m1, h.nd, fun y hy => by
    rcases List.mem_or_eq_of_mem_set hy with h1 | h1
    · exact h.fl y h1
    · rw [h1]; exact hf⟩
/-- A process in block q with rows of its own, a node in block bx, a flow in block bf. -/
structure Ow (w : World) (base q bx bf : Nat) (p : P) (x : Nd) (f : Fl) : Prop where
  ex : ∃ (A : Option Addr) (n c : Nat) (F : Option Addr) (m d : Nat), Cel w q [.string p.name, .slice A n c, .slice F m d] ∧ OwnK Nd.κ w base 36 A n c p.nodes ∧ OwnK Fl.κ w base 38 F m d p.flows ∧
    (∀ a, A = some a → a.block ≠ q ∧ a.block ≠ bx ∧ a.block ≠ bf) ∧ (∀ a, F = some a → a.block ≠ q ∧ a.block ≠ bx ∧ a.block ≠ bf)
  xc : Cel w bx x.cells
  fc : Cel w bf f.cells
  o1 : base ≤ q
  o2 : q < bx
  o3 : bx < bf
section
variable {w w' : World} {base q bx bf : Nat} {p : P} {x : Nd} {f : Fl}
theorem Ow.drew (h : Ow w base q bx bf p x f) : Ow w.drew base q bx bf p x f := by
  obtain ⟨A, n, c, F, m, d, hc, hn, hf, h1, h2⟩ := h.ex
  have hb : Below w.heap.size w w.drew := (Below.refl _ _).drew
  exact ⟨⟨A, n, c, F, m, d, hc.below hb (Nat.le_refl _), hn.below hb (Nat.le_refl _), hf.below hb (Nat.le_refl _), h1, h2⟩, h.xc.below hb (Nat.le_refl _), h.fc.below hb (Nat.le_refl _), h.o1, h.o2, h.o3⟩
/-- The node is another one. -/
theorem Ow.setx (h : Ow w base q bx bf p x f) (hg : w.grownBy w' (some bx)) {y : Nd} (hy : Cel w' bx y.cells) : Ow w' base q bx bf p y f := by
  obtain ⟨A, n, c, F, m, d, hc, hn, hf, h1, h2⟩ := h.ex
  have o2 := h.o2
  have o3 := h.o3
  exact ⟨⟨A, n, c, F, m, d, hc.kept hg (by intro e; have := Option.some.inj e; omega), hn.kept hg (fun a ha e => (h1 a ha).2.1 (Option.some.inj e).symm), hf.kept hg (fun a ha e => (h2 a ha).2.1 (Option.some.inj e).symm), h1, h2⟩, hy, h.fc.kept hg (by intro e; have := Option.some.inj e; omega), h.o1, h.o2, h.o3⟩
theorem Ow.setf (h : Ow w base q bx bf p x f) (hg : w.grownBy w' (some bf)) {y : Fl} (hy : Cel w' bf y.cells) : Ow w' base q bx bf p x y := by
  obtain ⟨A, n, c, F, m, d, hc, hn, hf, h1, h2⟩ := h.ex
  have o2 := h.o2
  have o3 := h.o3
  exact ⟨⟨A, n, c, F, m, d, hc.kept hg (by intro e; have := Option.some.inj e; omega), hn.kept hg (fun a ha e => (h1 a ha).2.2 (Option.some.inj e).symm), hf.kept hg (fun a ha e => (h2 a ha).2.2 (Option.some.inj e).symm), h1, h2⟩, h.xc.kept hg (by intro e; have := Option.some.inj e; omega), hy, h.o1, h.o2, h.o3⟩
theorem Ow.name (h : Ow w base q bx bf p x f) (t : ByteArray) : Ow (w.setCell ⟨q, 0, none⟩ (.string t)) base q bx bf ⟨t, p.nodes, p.flows⟩ x f := by
  obtain ⟨A, n, c, F, m, d, hc, hn, hf, h1, h2⟩ := h.ex
  have o2 := h.o2
  have o3 := h.o3
  have hg : w.grownBy (w.setCell ⟨q, 0, none⟩ (.string t)) (some q) := grown_setCell w ⟨q, 0, none⟩ _
  exact ⟨⟨A, n, c, F, m, d, hc.set (i := 0) (by simp) _, hn.kept hg (fun a ha e => (h1 a ha).1 (Option.some.inj e).symm), hf.kept hg (fun a ha e => (h2 a ha).1 (Option.some.inj e).symm), h1, h2⟩, h.xc.kept hg (by intro e; have := Option.some.inj e; omega), h.fc.kept hg (by intro e; have := Option.some.inj e; omega), h.o1, h.o2, h.o3⟩
theorem slice_not {A : Option Addr} {n c b : Nat} (hb : ∀ a, A = some a → a.block ≠ b) : (Value.slice A n c).ownBlock ≠ some b := by
  intro he
  cases A with
  | none => cases he
  | some a => exact hb a rfl (Option.some.inj he)
/-- One flow more. -/
theorem Ow.appf {A : Option Addr} {n c : Nat} {F : Option Addr} {m d : Nat} (hc : Cel w q [.string p.name, .slice A n c, .slice F m d]) (hn : OwnK Nd.κ w base 36 A n c p.nodes) (hf : OwnK Fl.κ w base 38 F m d p.flows)
    (h1 : ∀ a, A = some a → a.block ≠ q ∧ a.block ≠ bx ∧ a.block ≠ bf) (h2 : ∀ a, F = some a → a.block ≠ q ∧ a.block ≠ bx ∧ a.block ≠ bf) (hx : Cel w bx x.cells) (hfc : Cel w bf f.cells) (o1 : base ≤ q) (o2 : q < bx) (o3 : bx < bf)
    {F' : Option Addr} {m' d' : Nat} {l' : List Fl} (hg : Grew w w' (.slice F m d) (.slice F' m' d')) (ho : OwnK Fl.κ w' base 38 F' m' d' l') : Ow (w'.setCell ⟨q, 2, none⟩ (.slice F' m' d')) base q bx bf ⟨p.name, p.nodes, l'⟩ x f := by
  have hxl := hx.lt
  have hfl := hfc.lt
  have hql := hc.lt
  have h2' : ∀ a, F' = some a → a.block ≠ q ∧ a.block ≠ bx ∧ a.block ≠ bf := by
    intro a ha
    rcases grew_block hg ho ha with ⟨a0, h3, h4⟩ | h3
    · rw [← h4]; exact h2 a0 h3
    · omega
  have hs : w'.grownBy (w'.setCell ⟨q, 2, none⟩ (.slice F' m' d')) (some q) := grown_setCell w' ⟨q, 2, none⟩ _
  have hc' : Cel w' q [.string p.name, .slice A n c, .slice F m d] := hc.kept hg.grown (slice_not fun a ha => (h2 a ha).1)
  have hn' : OwnK Nd.κ w' base 36 A n c p.nodes := hn.kept hg.grown fun a ha => slice_not fun a' ha' => hf.apart hn (by decide) ha' ha
  refine ⟨⟨A, n, c, F', m', d', hc'.set (i := 2) (by simp) _, hn'.kept hs (fun a ha e => (h1 a ha).1 (Option.some.inj e).symm), ho.kept hs (fun a ha e => (h2' a ha).1 (Option.some.inj e).symm), h1, h2'⟩, ?_, ?_, o1, o2, o3⟩
  · exact (hx.kept hg.grown (slice_not fun a ha => (h2 a ha).2.1)).kept hs (by intro e; have := Option.some.inj e; omega)
  · exact (hfc.kept hg.grown (slice_not fun a ha => (h2 a ha).2.2)).kept hs (by intro e; have := Option.some.inj e; omega)
/-- One node more. -/
theorem Ow.appn {A : Option Addr} {n c : Nat} {F : Option Addr} {m d : Nat} (hc : Cel w q [.string p.name, .slice A n c, .slice F m d]) (hn : OwnK Nd.κ w base 36 A n c p.nodes) (hf : OwnK Fl.κ w base 38 F m d p.flows)
    (h1 : ∀ a, A = some a → a.block ≠ q ∧ a.block ≠ bx ∧ a.block ≠ bf) (h2 : ∀ a, F = some a → a.block ≠ q ∧ a.block ≠ bx ∧ a.block ≠ bf) (hx : Cel w bx x.cells) (hfc : Cel w bf f.cells) (o1 : base ≤ q) (o2 : q < bx) (o3 : bx < bf)
    {A' : Option Addr} {n' c' : Nat} {l' : List Nd} (hg : Grew w w' (.slice A n c) (.slice A' n' c')) (ho : OwnK Nd.κ w' base 36 A' n' c' l') : Ow (w'.setCell ⟨q, 1, none⟩ (.slice A' n' c')) base q bx bf ⟨p.name, l', p.flows⟩ x f := by
  have hxl := hx.lt
  have hfl := hfc.lt
  have hql := hc.lt
  have h1' : ∀ a, A' = some a → a.block ≠ q ∧ a.block ≠ bx ∧ a.block ≠ bf := by
    intro a ha
    rcases grew_block hg ho ha with ⟨a0, h3, h4⟩ | h3
    · rw [← h4]; exact h1 a0 h3
    · omega
  have hs : w'.grownBy (w'.setCell ⟨q, 1, none⟩ (.slice A' n' c')) (some q) := grown_setCell w' ⟨q, 1, none⟩ _
  have hc' : Cel w' q [.string p.name, .slice A n c, .slice F m d] := hc.kept hg.grown (slice_not fun a ha => (h1 a ha).1)
  have hf' : OwnK Fl.κ w' base 38 F m d p.flows := hf.kept hg.grown fun a ha => slice_not fun a' ha' => hn.apart hf (by decide) ha' ha
  refine ⟨⟨A', n', c', F, m, d, hc'.set (i := 1) (by simp) _, ho.kept hs (fun a ha e => (h1' a ha).1 (Option.some.inj e).symm), hf'.kept hs (fun a ha e => (h2 a ha).1 (Option.some.inj e).symm), h1', h2⟩, ?_, ?_, o1, o2, o3⟩
  · exact (hx.kept hg.grown (slice_not fun a ha => (h1 a ha).2.1)).kept hs (by intro e; have := Option.some.inj e; omega)
  · exact (hfc.kept hg.grown (slice_not fun a ha => (h1 a ha).2.2)).kept hs (by intro e; have := Option.some.inj e; omega)
/-- The node put into the row. -/
theorem Ow.putn {g c : Nat} {F : Option Addr} {m d : Nat} (hc : Cel w q [.string p.name, .slice (some ⟨g, 0, none⟩) p.n c, .slice F m d]) (hn : OwnK Nd.κ w base 36 (some ⟨g, 0, none⟩) p.n c p.nodes) (hf : OwnK Fl.κ w base 38 F m d p.flows)
    (h1 : g ≠ q ∧ g ≠ bx ∧ g ≠ bf) (h2 : ∀ a, F = some a → a.block ≠ q ∧ a.block ≠ bx ∧ a.block ≠ bf) (hx : Cel w bx x.cells) (hfc : Cel w bf f.cells) (o1 : base ≤ q) (o2 : q < bx) (o3 : bx < bf) {k : Nat} (hk : k < p.n) :
    Ow (storeAll w g (k * 8) x.cells) base q bx bf ⟨p.name, p.nodes.set k x, p.flows⟩ x f := by
  have hg : w.grownBy (storeAll w g (k * 8) x.cells) (some g) := storeAll_grown _ _ _
  have hnl : (p.nodes.set k x).length = p.n := List.length_set ..
  refine ⟨⟨some ⟨g, 0, none⟩, p.n, c, F, m, d, hc.kept hg (by intro e; exact h1.1 (Option.some.inj e)), hn.whole hk x, hf.kept hg (fun a ha e => hn.apart hf (by decide) rfl ha (Option.some.inj e)), fun a ha => ?_, h2⟩, hx.kept hg (by intro e; exact h1.2.1 (Option.some.inj e)), hfc.kept hg (by intro e; exact h1.2.2 (Option.some.inj e)), o1, o2, o3⟩
  obtain rfl := Option.some.inj ha
  exact h1
/-- The flow put into the row. -/
theorem Ow.putf {A : Option Addr} {n c g d : Nat} (hc : Cel w q [.string p.name, .slice A n c, .slice (some ⟨g, 0, none⟩) p.m d]) (hn : OwnK Nd.κ w base 36 A n c p.nodes) (hf : OwnK Fl.κ w base 38 (some ⟨g, 0, none⟩) p.m d p.flows)
    (h1 : ∀ a, A = some a → a.block ≠ q ∧ a.block ≠ bx ∧ a.block ≠ bf) (h2 : g ≠ q ∧ g ≠ bx ∧ g ≠ bf) (hx : Cel w bx x.cells) (hfc : Cel w bf f.cells) (o1 : base ≤ q) (o2 : q < bx) (o3 : bx < bf) {k : Nat} (hk : k < p.m) :
    Ow (storeAll w g (k * 3) f.cells) base q bx bf ⟨p.name, p.nodes, p.flows.set k f⟩ x f := by
  have hg : w.grownBy (storeAll w g (k * 3) f.cells) (some g) := storeAll_grown _ _ _
  refine ⟨⟨A, n, c, some ⟨g, 0, none⟩, p.m, d, hc.kept hg (by intro e; exact h2.1 (Option.some.inj e)), hn.kept hg (fun a ha e => hf.apart hn (by decide) rfl ha (Option.some.inj e)), hf.whole hk f, h1, fun a ha => ?_⟩, hx.kept hg (by intro e; exact h2.2.1 (Option.some.inj e)), hfc.kept hg (by intro e; exact h2.2.2 (Option.some.inj e)), o1, o2, o3⟩
  obtain rfl := Option.some.inj ha
  exact h2
end
end Pr
end Go.Proofs.YtddedbpbenkdoaaGreatDoor
namespace Go.Proofs.YtddedbpbenkdoaaGreatDoor
open Go.ChangeShapes Go.WideShapes Go.ChangeAt Go.RowKit
open Go.ChangeMaps (open_string shut_string)

theorem wf_u8 {z : Int} (h : (Lit.int .u8 z).wf = true) : 0 ≤ z ∧ z < 256 := by
  have := bounds_u8 h
  omega
theorem wf_byte {z : Int} (h : (Lit.int .u8 z).wf = true) : ∃ x : UInt8, z = (x.toNat : Int) := by
  have hb := wf_u8 h
  refine ⟨UInt8.ofNat z.toNat, ?_⟩
  rw [UInt8.toNat_ofNat', Nat.mod_eq_of_lt (by omega)]
  omega
theorem wf_i64 {z : Int} (h : (Lit.int .i64 z).wf = true) : -9223372036854775808 ≤ z ∧ z ≤ 9223372036854775807 := by
  have := bounds_i64 h
  omega

/-- A byte slice that came in. -/
structure InBytes (w : World) (A : Option Addr) (n c : Nat) (l : List UInt8) : Prop where
  bytes : Bytes w w.heap.size A n l
  nn : A = none → n = 0 ∧ c = 0
  cap : n ≤ c
  most : c ≤ maxLen

theorem open_bytes {H : Type} {enc : TypeId × Value → H} {P : Program} {W : World} {t e : TypeId} {a : Option Addr} {len cap : Nat} {d : DataW H} {ps : List MemPlace}
    (ht : P.underlying t = some (.slice e)) (he : P.underlying e = some (.int .u8)) (hc : P.cellsOf e = 1)
    (h : DataW.Trod enc P W 0 (fun _ => true) true t (.slice a len cap) d ps) : ∃ l, InBytes W a len cap l := by
  obtain ⟨fuel, hf⟩ := h
  rcases open_ints ht he hc hf with ⟨hcs, _⟩ | ⟨x, l, c, zs, hcs, _, hl, hm, hz, _, hcell, hwz⟩
  · simp [Value.cells] at hcs
    obtain ⟨rfl, rfl, rfl⟩ := hcs
    exact ⟨[], Bytes.nil _ _ _, fun _ => ⟨rfl, rfl⟩, Nat.le_refl _, by simp [maxLen]⟩
  · simp [Value.cells] at hcs
    obtain ⟨rfl, rfl, rfl⟩ := hcs
    have hz' : zs.length = cap := by simpa using hz
    have hb : ∀ i, i < zs.length → ((UInt8.ofNat (zs.getD i 0).toNat).toNat : Int) = zs.getD i 0 := by
      intro i hi
      have hwi := wf_u8 (hwz (zs.getD i 0) (by simp [List.getD, List.getElem?_eq_getElem hi]))
      rw [UInt8.toNat_ofNat', Nat.mod_eq_of_lt (by omega)]
      omega
    refine ⟨(zs.take len).map fun z => UInt8.ofNat z.toNat, ⟨by simp; omega, fun h0 => ?_⟩, (fun h => by cases h), hl, hm⟩
    have hc0 := hcell 0 (by omega)
    obtain ⟨b, off, spot⟩ := x
    obtain rfl : spot = none := by simpa [Addr.add] using World.cell?_spot hc0
    have hlt : b < W.heap.size := by
      have : W.cell? ⟨b, off, none⟩ = some (.int .u8 (zs.getD 0 0)) := by simpa [Addr.add] using hc0
      rcases Nat.lt_or_ge b W.heap.size with h' | h'
      · exact h'
      · simp [World.cell?, Array.getElem?_eq_none h'] at this
    refine ⟨b, off, rfl, hlt, fun k v hv => ?_⟩
    have hk : k < len := by
      have := (List.getElem?_eq_some_iff.1 hv).1
      simp at this; omega
    have hkz : k < zs.length := by omega
    rw [← addr_add b off k, hcell k hkz]
    simp only [List.map_map, List.getElem?_map, List.getElem?_take, if_pos hk, List.getElem?_eq_getElem hkz, Option.map_some, Option.some.injEq] at hv
    rw [← hv]
    have := hb k hkz
    simp only [List.getD, List.getElem?_eq_getElem hkz, Option.getD_some, Function.comp, bv] at this ⊢
    rw [this]
end Go.Proofs.YtddedbpbenkdoaaGreatDoor
namespace Go.Proofs.YtddedbpbenkdoaaGreatDoor
open Go.RowKit

namespace Pr
theorem quad_facts {w : World} {z : Nat} {a0 a1 a2 a3 : Value} (h : Cel w z [a0, a1, a2, a3]) : w.cell? ⟨z, 0, none⟩ = some a0 ∧ w.cell? ⟨z, 1, none⟩ = some a1 ∧ w.cell? ⟨z, 2, none⟩ = some a2 ∧ w.cell? ⟨z, 3, none⟩ = some a3 :=
  ⟨h.cell 0 _ rfl, h.cell 1 _ rfl, h.cell 2 _ rfl, h.cell 3 _ rfl⟩
def light (s : SeedV) : Bool := decide (s.name.size ≤ 30) && (decide (s.kn ≤ 28) && (decide (s.en ≤ 60) && decide (s.mn ≤ 60)))
set_option maxHeartbeats 800000 in
theorem mlight_any (s : SeedV) (w : World) : Calls Tryz.prog 5 #[s.val] w fun e w' => e = .returned (.bool (light s)) ∧ Below w.heap.size w w' := by
  have HP := Lib.hid (Cel.lit w #[.string s.name, .slice s.KA s.kn s.kc, .slice s.EA s.en s.ec, .slice s.MA s.mn s.mc] 24)
  have HB := Lib.hid ((Below.refl w.heap.size w).alloc (Nat.le_refl _) (.cells #[.string s.name, .slice s.KA s.kn s.kc, .slice s.EA s.en s.ec, .slice s.MA s.mn s.mc] 24))
  obtain ⟨R, hR⟩ : ∃ R, R = light s := ⟨_, rfl⟩
  rw [← hR]
  unfold light at hR
  unfold SeedV.val
  generalize s.name = a at *
  generalize s.kn = k at *
  generalize s.en = e at *
  generalize s.mn = m at *
  go_enter Tryz.func5, Tryz.ntmps5
  go_upto_region 1 with (fail)
  generalize w.alloc _ = wb at *
  obtain ⟨z0, z1, z2, z3⟩ := quad_facts HP.out
  by_cases h1 : a.size ≤ 30
  · have h1I : (a.size : Int) ≤ 30 := by omega
    rw [decide_eq_true h1] at hR
    by_cases h2 : k ≤ 28
    · have h2I : (k : Int) ≤ 28 := by omega
      rw [decide_eq_true h2] at hR
      by_cases h3 : e ≤ 60
      · have h3I : (e : Int) ≤ 60 := by omega
        rw [decide_eq_true h3] at hR
        by_cases h4 : m ≤ 60
        · have h4I : (m : Int) ≤ 60 := by omega
          rw [decide_eq_true h4] at hR
          simp at hR
          have HR := Lib.hid hR
          clear hR
          go_wp2
          go_ret
          exact ⟨by rw [HR.out]; rfl, HB.out⟩
        · have h4I : ¬ (m : Int) ≤ 60 := by omega
          rw [decide_eq_false h4] at hR
          simp at hR
          have HR := Lib.hid hR
          clear hR h4
          go_wp2
          go_ret
          exact ⟨by rw [HR.out]; rfl, HB.out⟩
      · have h3I : ¬ (e : Int) ≤ 60 := by omega
        rw [decide_eq_false h3] at hR
        simp at hR
        have HR := Lib.hid hR
        clear hR h3
        go_wp2
        go_ret
        exact ⟨by rw [HR.out]; rfl, HB.out⟩
    · have h2I : ¬ (k : Int) ≤ 28 := by omega
      rw [decide_eq_false h2] at hR
      simp at hR
      have HR := Lib.hid hR
      clear hR h2
      go_wp2
      go_ret
      exact ⟨by rw [HR.out]; rfl, HB.out⟩
  · have h1I : ¬ (a.size : Int) ≤ 30 := by omega
    rw [decide_eq_false h1] at hR
    simp at hR
    have HR := Lib.hid hR
    clear hR h1
    go_wp2
    go_ret
    exact ⟨by rw [HR.out]; rfl, HB.out⟩
end Pr
end Go.Proofs.YtddedbpbenkdoaaGreatDoor
