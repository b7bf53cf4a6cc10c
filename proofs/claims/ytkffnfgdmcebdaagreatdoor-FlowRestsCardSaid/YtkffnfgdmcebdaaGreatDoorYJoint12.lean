/- Mathematics of package cond: what a condition comes to. A process in memory: a node's field is set. Walks of leaseholdmake: a Work behind a node. Plain mathematics of package reach: an order, one by one the least that could come next. It names no program. -/
import Derived.Test.YtkffnfgdmcebdaaGreatDoorYJoint10
import Derived.Lib.Bytealg
import Derived.Test.YtkffnfgdmcebdaaGreatDoorYJoint11
import Derived.Laws.BitsAllLaws
import Derived.Test.YtkffnfgdmcebdaaGreatDoorYJoint9
import Derived.Deep.RegionHeld3
namespace Go.Proofs.YtkffnfgdmcebdaaGreatDoor
open Go.RowKit

/-- A value. -/
structure Vl where
  kind : Int
  num : Int
  txt : ByteArray
def Vl.val (v : Vl) : Value := .agg #[.int .i64 v.kind, .int .i64 v.num, .string v.txt]
def Vl.list (v : Vl) : List Value := [.int .i64 v.kind, .int .i64 v.num, .string v.txt]
def Vl.zero : Vl := ⟨0, 0, ⟨#[]⟩⟩
namespace Co
def truth (v : Vl) : Int × Bool := if v.kind = 2 then (0, !(v.num == 0)) else (110, false)
def bn (b : Bool) : Int := if b then 1 else 0
def flag (b : Bool) : Vl := ⟨2, bn b, ⟨#[]⟩⟩
def eqv (a b : Vl) : Bool := a.kind == b.kind && (a.num == b.num && a.txt.toList == b.txt.toList)
def same (op : Int) (a b : Vl) : Int × Vl := if a.kind = b.kind then (0, flag (eqv a b == (op == 6))) else (110, Vl.zero)
def cmpI (a b : Int) : Int := if a < b then -1 else if b < a then 1 else 0
def byOp (op c : Int) : Bool := if op = 8 then decide (c < 0) else if op = 9 then decide (c ≤ 0) else if op = 10 then decide (0 < c) else decide (0 ≤ c)
def ordered (op : Int) (a b : Vl) : Int × Vl :=
  if a.kind = 1 ∧ b.kind = 1 then (0, flag (byOp op (cmpI a.num b.num)))
  else if a.kind = 3 ∧ b.kind = 3 then (0, flag (byOp op (Lib.compareBytes a.txt.data.toList b.txt.data.toList))) else (110, Vl.zero)
def counted (op a b : Int) : Int × Vl :=
  if op = 12 then (0, ⟨1, wrap64 (a + b), ⟨#[]⟩⟩) else if op = 13 then (0, ⟨1, wrap64 (a - b), ⟨#[]⟩⟩) else if op = 14 then (0, ⟨1, wrap64 (a * b), ⟨#[]⟩⟩)
  else if b = 0 then (113, Vl.zero) else if op = 15 then (0, ⟨1, wrap64 (a.tdiv b), ⟨#[]⟩⟩) else (0, ⟨1, (a.tmod b), ⟨#[]⟩⟩)
def cut (s : ByteArray) : ByteArray := s.extract 0 (min s.size 60)
def two (op : Int) (a b : Vl) : Int × Vl :=
  if op ≤ 7 then same op a b else if op ≤ 11 then ordered op a b
  else if op = 12 ∧ a.kind = 3 ∧ b.kind = 3 then (0, ⟨3, 0, cut (a.txt ++ b.txt)⟩) else if a.kind = 1 ∧ b.kind = 1 then counted op a.num b.num else (110, Vl.zero)
def hold (r : Int × Vl) : Int × Bool := if r.1 = 0 then truth r.2 else (r.1, false)
def notR (r : Int × Bool) : Int × Vl := if r.1 = 0 then (0, flag (!r.2)) else (r.1, Vl.zero)
def negR (r : Int × Vl) : Int × Vl := if r.1 = 0 then if r.2.kind = 1 then (0, ⟨1, wrap64 (-r.2.num), ⟨#[]⟩⟩) else (110, Vl.zero) else (r.1, Vl.zero)
def flagR (r : Int × Bool) : Int × Vl := if r.1 = 0 then (0, flag r.2) else (r.1, Vl.zero)
def joinR (op : Int) (a b : Int × Bool) : Int × Vl := if a.1 = 0 ∧ a.2 ≠ (op == 3) then flagR b else flagR a
def twoR (op : Int) (a b : Int × Vl) : Int × Vl := if a.1 = 0 then if b.1 = 0 then two op a.2 b.2 else (b.1, Vl.zero) else (a.1, Vl.zero)
def named (l : List Vr.V) (s : ByteArray) : Int × Vl := if (Vr.get l s).2 = true then (0, ⟨(Vr.get l s).1.kind, (Vr.get l s).1.num, (Vr.get l s).1.text⟩) else (108, Vl.zero)
/-- What a condition comes to: an error's number, 0: none; a value. -/
def ev (l : List Vr.V) : Tr → Int × Vl
  | .leaf op kind num txt name => if op = 1 then (0, ⟨kind, num, ⟨txt.toArray⟩⟩) else named l ⟨name.toArray⟩
  | .one op a => if op = 5 then notR (hold (ev l a)) else negR (ev l a)
  | .two op a b => if op = 3 ∨ op = 4 then joinR op (hold (ev l a)) (hold (ev l b)) else twoR op (ev l a) (ev l b)
/-- Is it one that Parse may tell? -/
def wf : Tr → Bool
  | .leaf op _ _ _ _ => op == 1 || op == 2
  | .one op a => (op == 5 || op == 17) && wf a
  | .two op a b => decide (3 ≤ op) && decide (op ≤ 16) && !(op == 5) && wf a && wf b
end Co
end Go.Proofs.YtkffnfgdmcebdaaGreatDoor
namespace Go.Proofs.YtkffnfgdmcebdaaGreatDoor
open Go.RowKit

theorem Cs.flat_set {α : Type} (κ : Cs α) (f : α → α) (i : Nat) (u : Value) (hi : i < κ.k) (hf : ∀ x, κ.cs (f x) = (κ.cs x).set i u) : ∀ (l : List α) (j : Nat), j < l.length → (l.flatMap κ.cs).set (j * κ.k + i) u = (l.modify j f).flatMap κ.cs
  | [], _, h => by cases h
  | y :: l, 0, _ => by
    rw [List.modify_zero_cons, List.flatMap_cons, List.flatMap_cons, List.set_append, if_pos (by rw [κ.len]; omega), hf]
    simp
  | y :: l, j + 1, h => by
    rw [List.modify_succ_cons, List.flatMap_cons, List.flatMap_cons, List.set_append, if_neg (by rw [κ.len, Nat.succ_mul]; omega)]
    rw [show (j + 1) * κ.k + i - (κ.cs y).length = j * κ.k + i from by rw [κ.len, Nat.succ_mul]; omega, Cs.flat_set κ f i u hi hf l j (by simpa using h)]
theorem OwnK.set {α : Type} {κ : Cs α} {w : World} {base n c g : Nat} {e : TypeId} {l : List α} (h : OwnK κ w base e (some ⟨g, 0, none⟩) n c l) (f : α → α) (i : Nat) (u : Value) (hi : i < κ.k) (hf : ∀ x, κ.cs (f x) = (κ.cs x).set i u) {j : Nat} (hj : j < l.length) :
    OwnK κ (w.setCell ⟨g, j * κ.k + i, none⟩ u) base e (some ⟨g, 0, none⟩) n c (l.modify j f) :=
  ⟨h.1, by rw [← Cs.flat_set κ f i u hi hf l j hj]; exact (World.ownsRow.stored h.2 (j * κ.k + i) u).1⟩
theorem OwnK.frozen {α : Type} {κ : Cs α} {w : World} {base n c g : Nat} {e : TypeId} {l : List α} (h : OwnK κ w base e (some ⟨g, 0, none⟩) n c l) (o : Nat) : w.frozen? ⟨g, o, none⟩ = false := by
  rcases h.2.2 with ⟨hv, _⟩ | ⟨g', cap, cur, hv, hg, hh, _⟩
  · cases hv
  · obtain rfl : g = g' := by injection hv with hA; injection hA with hA; injection hA
    unfold World.frozen?
    rw [hh]; rfl
theorem OwnK.some_of {α : Type} {κ : Cs α} {w : World} {base n c : Nat} {e : TypeId} {A : Option Addr} {l : List α} (h : OwnK κ w base e A n c l) (hn : 0 < n) : ∃ g, A = some ⟨g, 0, none⟩ ∧ base ≤ g ∧ g < w.heap.size := by
  rcases h.2.2 with ⟨_, h0⟩ | ⟨g, cap, cur, hv, hg, hh, _⟩
  · omega
  · injection hv with hA _ _
    exact ⟨g, hA, hg, blk_lt hh⟩
namespace Pr
theorem C.row {w : World} {base q : Nat} {p : P} (h : C w base q p) {k : Nat} (hk : k < p.n) :
    ∃ g c : Nat, w.cell? ⟨q, 1, none⟩ = some (.slice (some ⟨g, 0, none⟩) p.n c) ∧ base ≤ g ∧ g < w.heap.size ∧ g ≠ q ∧ (∀ (i : Nat) (v : Value), (p.nodes[k]!).cells[i]? = some v → w.cell? ⟨g, k * 8 + i, none⟩ = some v) ∧ (∀ o, w.frozen? ⟨g, o, none⟩ = false) ∧
      ∀ (i : Nat) (u : Value) (f : Nd → Nd), i < 8 → (∀ x : Nd, (f x).cells = x.cells.set i u) → C (w.setCell ⟨g, k * 8 + i, none⟩ u) base q (p.set k f) := by
  obtain ⟨A, n, c, F, m, d, hc, hn, hf, h1, h2⟩ := h.ex
  obtain rfl : p.n = n := hn.len
  obtain ⟨g, rfl, hg, hgl⟩ := hn.some_of (by omega)
  have hgq : g ≠ q := h1 _ rfl
  refine ⟨g, c, hc.cell 1 _ rfl, hg, hgl, hgq, fun i v hv => ?_, hn.frozen, fun i u f hi hfx => ?_⟩
  · have := KRow.of (κ := Nd.κ) hn.row hn.1 hk i v hv
    rwa [Nat.zero_add] at this
  · have hset := hn.set f i u hi hfx (j := k) hk
    refine ⟨⟨some ⟨g, 0, none⟩, p.n, c, F, m, d, hc.kept (grown_setCell w ⟨g, k * 8 + i, none⟩ u) (by intro e; exact hgq (Option.some.inj e)), ?_, ?_, h1, h2⟩, h.low⟩
    · exact hset
    · exact hf.kept (grown_setCell w ⟨g, k * 8 + i, none⟩ u) fun a ha e => hn.apart hf (by decide) rfl ha (Option.some.inj e)
end Pr
end Go.Proofs.YtkffnfgdmcebdaaGreatDoor
namespace Go.Proofs.YtkffnfgdmcebdaaGreatDoor
open Go.RowKit

namespace Pr
theorem tdiv_in {m : Int} (k : Int) (h1 : -9223372036854775808 ≤ m) (h2 : m ≤ 9223372036854775807) (hk : 1 < k) : -9223372036854775808 ≤ m.tdiv k ∧ m.tdiv k ≤ 9223372036854775807 := by
  have := Int.natAbs_tdiv_le_natAbs m k
  have e := Int.tmod_add_mul_tdiv m k
  by_cases hm : m.tdiv k = 9223372036854775808
  · exfalso
    have h3 : m.natAbs = 9223372036854775808 := by omega
    have e1 : m.tmod k < k := Int.tmod_lt_of_pos _ (by omega)
    have e2 : -k < m.tmod k := by have := Int.lt_tmod_of_pos m (show 0 < k by omega); omega
    rw [hm] at e
    omega
  · omega
section
variable {w : World} {base q : Nat} {p : P}
theorem mplain_any (k : Int) (h : C w base q p) (hp : p.n ≤ 100000) :
    Calls Tryz.prog 47 #[.pointer (some ⟨q, 0, none⟩), .agg #[.int .i64 k, .string ⟨#[]⟩, .int .i64 0, .int .i64 0, .int .i64 0, .string ⟨#[]⟩, .string ⟨#[]⟩, .int .i64 0]] w fun e w' => e = .returned (.int .i64 p.n) ∧ C w' base q (p.node (Nd.plain k)) ∧ Below base w w' :=
  mnode_any ⟨k, no, 0, 0, 0, no, no, 0⟩ h hp
theorem mworknode_any (t : ByteArray) (a b : Int) (h : C w base q p) (hp : p.n ≤ 100000) :
    Calls Tryz.prog 47 #[.pointer (some ⟨q, 0, none⟩), .agg #[.int .i64 4, .string t, .int .i64 a, .int .i64 b, .int .i64 0, .string ⟨#[]⟩, .string ⟨#[]⟩, .int .i64 0]] w fun e w' => e = .returned (.int .i64 p.n) ∧ C w' base q (p.node (Nd.work t a b)) ∧ Below base w w' :=
  mnode_any ⟨4, t, a, b, 0, no, no, 0⟩ h hp
set_option maxHeartbeats 3200000 in
set_option maxRecDepth 10000 in
theorem mwork_any (at_ : Nat) (m : Int) (h : C w base q p) (hn : p.n ≤ 1000) (hm : p.m ≤ 1000) (m1 : -9223372036854775808 ≤ m) (m2 : m ≤ 9223372036854775807) :
    Calls Tryz.prog 44 #[.pointer (some ⟨q, 0, none⟩), .int .i64 at_, .int .i64 m] w fun e w' => e = .returned (.int .i64 (work p at_ m).2) ∧ C w' base q (work p at_ m).1 ∧ Below base w w' := by
  have hlow := h.low
  have hlt := h.lt
  have hbase : base ≤ w.heap.size := by omega
  obtain ⟨d1, d2⟩ := tdiv_in 3 m1 m2 (by decide)
  obtain ⟨d3, d4⟩ := tdiv_in 7 m1 m2 (by decide)
  obtain ⟨d5, d6⟩ := tdiv_in 5 m1 m2 (by decide)
  have HT := Lib.hid (fun W => mtopics_any m W m1 m2)
  have N10 := Lib.hid (fun W => mnumber_any (m.tdiv 3) 10 W (by decide) d1 d2 (by decide))
  have N3 := Lib.hid (fun W => mnumber_any (m.tdiv 7) 3 W (by decide) d3 d4 (by decide))
  have N4 := Lib.hid (fun W => mnumber_any (m.tdiv 5) 4 W (by decide) d5 d6 (by decide))
  have e3 : IntKind.i64.wrap (m.tdiv 3) = m.tdiv 3 := by rw [IntKind.wrap_i64]; omega
  have e7 : IntKind.i64.wrap (m.tdiv 7) = m.tdiv 7 := by rw [IntKind.wrap_i64]; omega
  have e5 : IntKind.i64.wrap (m.tdiv 5) = m.tdiv 5 := by rw [IntKind.wrap_i64]; omega
  obtain ⟨R, hw⟩ : ∃ R, R = work p at_ m := ⟨_, rfl⟩
  rw [← hw]
  unfold work at hw
  obtain ⟨k3, hk3, hk3'⟩ := nmb_nat (m.tdiv 7) 3 (by decide)
  obtain ⟨k4, hk4, hk4'⟩ := nmb_nat (m.tdiv 5) 4 (by decide)
  rw [hk3] at N3 hw
  rw [hk4] at N4 hw
  have ew : IntKind.i64.wrap (1 + (k3 : Int)) = 1 + (k3 : Int) := by rw [IntKind.wrap_i64]; omega
  generalize nmb (m.tdiv 3) 10 = v10 at *
  generalize bs (topics m) = T at *
  have HW := Lib.hid hw
  have HC := Lib.hid h
  clear hw h d1 d2 d3 d4 d5 d6 hk3 hk4 m1 m2 hk3' hk4'
  go_enter Tryz.func44, Tryz.ntmps44
  go_wp2_with fail
  refine (HT.out _).mono ?_
  rintro e w1 ⟨rfl, hb1⟩
  have hbw1 := hb1.mono hbase
  have hc1 := HC.out.below hb1 (Nat.le_refl _)
  have HB1 := Lib.hid hbw1
  have HC1 := Lib.hid hc1
  clear hb1 hbw1 hc1 HC HT
  go_wp2_with fail
  refine (N10.out _).mono ?_
  rintro e w2 ⟨rfl, rfl⟩
  go_wp2_with fail
  refine (N3.out _).mono ?_
  rintro e w2 ⟨rfl, rfl⟩
  go_wp2_with fail
  refine (mworknode_any T v10 (1 + k3) HC1.out (by omega)).mono ?_
  rintro e w2 ⟨rfl, hc2, hb2⟩
  have HC2 := Lib.hid hc2
  have HB2 := Lib.hid (HB1.out.trans hb2)
  clear hc2 hb2 HC1 HB1
  go_wp2_with fail
  refine (mjoin_any (at_ : Int) (p.n : Int) no HC2.out (by show p.m ≤ 100000; omega)).mono ?_
  rintro e w3 ⟨rfl, hc3, hb3, -⟩
  have HB3 := Lib.hid (HB2.out.trans hb3)
  have n1 : ((p.node (Nd.work T v10 (1 + k3))).join at_ p.n no).n = p.n + 1 := by rw [join_n, node_n]
  have m1 : ((p.node (Nd.work T v10 (1 + k3))).join at_ p.n no).m = p.m + 1 := by rw [join_m, node_m]
  have e1 : ((p.node (Nd.work T v10 (1 + k3))).m : Int) = (p.m : Int) := rfl
  rw [e1]
  clear e1
  have hW1 := HW.out
  have hpn : P.n p = p.n := rfl
  generalize (p.node (Nd.work T v10 (1 + k3))).join at_ p.n no = p1 at *
  have HC3 := Lib.hid hc3
  clear hc3 hb3 HC2 HB2 HW hpn
  go_wp2_with fail
  refine (N4.out _).mono ?_
  rintro e w4 ⟨rfl, rfl⟩
  by_cases h0 : k4 = 0
  · subst h0
    rw [if_pos (show ((0 : Nat) : Int) = 0 from rfl)] at hW1
    go_wp2_with fail
    refine (mplain_any 2 HC3.out (by omega)).mono ?_
    rintro e w5 ⟨rfl, hc5, hb5⟩
    have HB5 := Lib.hid (HB3.out.trans hb5)
    have n2 : (p1.node (Nd.plain 2)).n = p.n + 2 := by rw [node_n, n1]
    have m2 : (p1.node (Nd.plain 2)).m = p.m + 1 := by rw [node_m, m1]
    have hM : (((p1.node (Nd.plain 2)).m : Nat) : Int) = (p.m : Int) + 1 := by omega
    have hN1 : ((p1.n : Nat) : Int) = (p.n : Int) + 1 := by omega
    rw [hM, hN1] at hW1
    clear hM
    generalize p1.node (Nd.plain 2) = p2 at *
    generalize hp3 : (p2.set p.n fun x => { x with caught := txC }) = p3
    have hp3' : (p2.set p.n fun x => { x with caught := bs [99, 97, 117, 103, 104, 116] }) = p3 := hp3
    rw [hp3'] at hW1
    have HW1 := Lib.hid hW1
    clear hW1 hp3'
    obtain ⟨g, c, r1, r2, r3, r4, r5, r6, r7⟩ := hc5.row (k := p.n) (by omega)
    have s6 := r5 6 _ rfl
    have f6 := r6 (p.n * 8 + 6)
    have hpn : (p.n : Int) < (p2.n : Int) := by omega
    have hp0 : (0 : Int) ≤ (p.n : Int) := by omega
    have hc6 := r7 6 (.string txC) (fun x => { x with caught := txC }) (by decide) (fun _ => rfl)
    have n3 : (p2.set p.n fun x => { x with caught := txC }).n = p.n + 2 := by rw [set_n, n2]
    have m3 : (p2.set p.n fun x => { x with caught := txC }).m = p2.m := set_m
    rw [hp3] at hc6 n3 m3
    have HC6 := Lib.hid hc6
    clear hp3 hc6
    have HB6 := Lib.hid (HB5.out.setCell (p := ⟨g, p.n * 8 + 6, none⟩) r2 (.string txC))
    clear r2 r3 r4 r5 r6 r7 hc5 hb5 HC3 HB3 HB5
    go_upto_region 6 with (fail)
    have hc6 : C (w5.setCell ⟨g, p.n * 8 + 6, none⟩ (.string ⟨#[99, 97, 117, 103, 104, 116]⟩)) base q p3 := HC6.out
    have hb6 : Below base w (w5.setCell ⟨g, p.n * 8 + 6, none⟩ (.string ⟨#[99, 97, 117, 103, 104, 116]⟩)) := HB6.out
    clear HC6 HB6 s6 f6 r1
    generalize w5.setCell ⟨g, p.n * 8 + 6, none⟩ (.string ⟨#[99, 97, 117, 103, 104, 116]⟩) = w6 at *
    have hc6d : C w6.drew base q p3 := hc6.below (Below.refl _ _).drew (Nat.le_refl _)
    have HB6 := Lib.hid hb6.drew
    obtain ⟨g1, c1, r1, r2, r3, r4, r5, r6, r7⟩ := hc6d.row (k := p.n) (by omega)
    have r1' : w6.cell? ⟨q, 1, none⟩ = some (.slice (some ⟨g1, 0, none⟩) p3.n c1) := r1
    have hpn3 : (p.n : Int) < (p.n : Int) + 2 := by omega
    have hj : Calls Tryz.prog 48 #[.pointer (some ⟨q, 0, none⟩), .int .i64 p.n, .int .i64 ((p.n : Int) + 1), .string ⟨#[]⟩] w6.drew fun e w' => e = .returned (.int .i64 ((p.m : Int) + 1)) ∧ C w' base q (p3.join p.n ((p.n : Int) + 1) no) ∧ Below base w6.drew w' ∧ w'.cell? ⟨q, 1, none⟩ = w6.drew.cell? ⟨q, 1, none⟩ := by
      rw [show (p.m : Int) + 1 = ((p3.m : Nat) : Int) from by omega]
      exact mjoin_any (p.n : Int) ((p.n : Int) + 1) no hc6d (by omega)
    have HJ := Lib.hid hj
    have hn4 : p.n < (p3.join p.n ((p.n : Int) + 1) no).n := by rw [join_n]; omega
    clear hj hc6 hb6 hc6d r2 r3 r4 r5 r6 r7
    go_region_law (go_simp; go_at_call 48; refine HJ.out.mono ?_; rintro e w7 ⟨rfl, hc7, hb7, hk7⟩; obtain ⟨g2, c2, t1, t2, t3, t4, t5, t6, t7⟩ := hc7.row hn4; (obtain rfl : g1 = g2 := by (rw [hk7, r1] at t1; injection t1 with t1; injection t1 with t1; injection t1 with t1; injection t1)); have x7 := t5 7 _ rfl; have fz := t6 (p.n * 8 + 7); have HT7 := Lib.hid t7; have HT2 := Lib.hid t2; clear t3 t4 t5 t6 t7 hc7)
    all_goals
      have HFIN := Lib.hid (HT7.out 7 (.int .i64 ((p.m : Int) + 1)) (fun x => { x with tgt := (p.m : Int) + 1 }) (by decide) (fun _ => rfl))
      have HBF := Lib.hid ((HB6.out.trans hb7).setCell (p := ⟨g1, p.n * 8 + 7, none⟩) HT2.out (.int .i64 ((p.m : Int) + 1)))
      clear hb7 HB6 t1
      go_wp2
      go_ret
      have hW2 := HW1.out
      subst hW2
      exact ⟨rfl, HFIN.out, HBF.out⟩
  · have hkI : ¬ (k4 : Int) = 0 := by omega
    have hkB : ((k4 : Int) == 0) = false := by rw [beq_eq_false_iff_ne]; exact hkI
    rw [if_neg hkI] at hW1
    subst hW1
    clear hkI h0
    go_wp2
    go_ret
    exact ⟨rfl, HC3.out, HB3.out⟩
end
end Pr
end Go.Proofs.YtkffnfgdmcebdaaGreatDoor
namespace Go.Proofs.YtkffnfgdmcebdaaGreatDoor.Rc

/-- How many ways to v come from those that have not come. -/
def pendL (L : Nat → List Nat) (out : List Nat) (v : Nat) (l : List Nat) : Nat := (l.map fun u => if u ∈ out then 0 else (L u).count v).sum
def pend (n : Nat) (L : Nat → List Nat) (out : List Nat) (v : Nat) : Nat := pendL L out v (List.range n)
theorem pendL_other {L : Nat → List Nat} {out : List Nat} {v u : Nat} : ∀ l : List Nat, u ∉ l → pendL L (out ++ [u]) v l = pendL L out v l
  | [], _ => rfl
  | x :: l, h => by
    rw [List.mem_cons, not_or] at h
    have ih := pendL_other (L := L) (out := out) (v := v) (u := u) l h.2
    unfold pendL at ih ⊢
    rw [List.map_cons, List.sum_cons, List.map_cons, List.sum_cons, ih]
    have : (x ∈ out ++ [u]) ↔ x ∈ out := by
      rw [List.mem_append, List.mem_singleton]
      exact ⟨fun h1 => h1.resolve_right (fun e => h.1 e.symm), .inl⟩
    by_cases hx : x ∈ out
    · rw [if_pos hx, if_pos (this.2 hx)]
    · rw [if_neg hx, if_neg (fun h1 => hx (this.1 h1))]
theorem pendL_snoc {L : Nat → List Nat} {out : List Nat} {v u : Nat} (hu : u ∉ out) : ∀ l : List Nat, l.Nodup → u ∈ l → pendL L out v l = pendL L (out ++ [u]) v l + (L u).count v
  | [], _, h => by cases h
  | x :: l, hn, h => by
    rw [List.nodup_cons] at hn
    by_cases e : x = u
    · subst e
      have h1 := pendL_other (L := L) (out := out) (v := v) l hn.1
      unfold pendL at h1 ⊢
      rw [List.map_cons, List.sum_cons, List.map_cons, List.sum_cons, h1, if_neg hu, if_pos (List.mem_append_right _ (List.mem_singleton.2 rfl))]
      omega
    · have hm : u ∈ l := by
        cases h with
        | head => exact absurd rfl e
        | tail _ h => exact h
      have ih := pendL_snoc (L := L) (out := out) (v := v) hu l hn.2 hm
      unfold pendL at ih ⊢
      rw [List.map_cons, List.sum_cons, List.map_cons, List.sum_cons, ih]
      have : (x ∈ out ++ [u]) ↔ x ∈ out := by
        rw [List.mem_append, List.mem_singleton]
        exact ⟨fun h1 => h1.resolve_right e, .inl⟩
      by_cases hx : x ∈ out
      · rw [if_pos hx, if_pos (this.2 hx)]; omega
      · rw [if_neg hx, if_neg (fun h1 => hx (this.1 h1))]; omega
theorem pend_snoc {n : Nat} {L : Nat → List Nat} {out : List Nat} {u : Nat} (v : Nat) (hu : u ∉ out) (hn : u < n) : pend n L out v = pend n L (out ++ [u]) v + (L u).count v :=
  pendL_snoc hu _ List.nodup_range (List.mem_range.2 hn)
theorem pendL_zero {L : Nat → List Nat} {out : List Nat} {v : Nat} : ∀ l : List Nat, pendL L out v l = 0 ↔ ∀ u ∈ l, u ∈ out ∨ v ∉ L u
  | [] => ⟨fun _ u h => (by cases h), fun _ => rfl⟩
  | x :: l => by
    have ih := pendL_zero (L := L) (out := out) (v := v) l
    unfold pendL at ih ⊢
    rw [List.map_cons, List.sum_cons, Nat.add_eq_zero_iff, ih]
    constructor
    · rintro ⟨h1, h2⟩ u hu
      cases hu with
      | head =>
        by_cases hx : x ∈ out
        · exact .inl hx
        · rw [if_neg hx] at h1; exact .inr (List.count_eq_zero.1 h1)
      | tail _ hu => exact h2 u hu
    · intro h
      refine ⟨?_, fun u hu => h u (List.mem_cons_of_mem _ hu)⟩
      by_cases hx : x ∈ out
      · rw [if_pos hx]
      · rw [if_neg hx]; exact List.count_eq_zero.2 ((h x (List.mem_cons_self)).resolve_left hx)
theorem pend_zero {n : Nat} {L : Nat → List Nat} {out : List Nat} {v : Nat} : pend n L out v = 0 ↔ ∀ u, u < n → u ∈ out ∨ v ∉ L u := by
  unfold pend
  rw [pendL_zero]
  exact ⟨fun h u hu => h u (List.mem_range.2 hu), fun h u hu => h u (List.mem_range.1 hu)⟩

/-- Could it come next? -/
def free (n : Nat) (L : Nat → List Nat) (out : List Nat) (i : Nat) : Bool := !out.contains i && (List.range n).all fun u => out.contains u || !(L u).contains i
theorem free_iff {n : Nat} {L : Nat → List Nat} {out : List Nat} {i : Nat} : free n L out i = true ↔ i ∉ out ∧ ∀ u, u < n → u ∈ out ∨ i ∉ L u := by
  unfold free
  simp [List.all_eq_true]
theorem free_pend {n : Nat} {L : Nat → List Nat} {out : List Nat} {i : Nat} : free n L out i = true ↔ i ∉ out ∧ pend n L out i = 0 := by
  rw [free_iff, pend_zero]
def nextOf (n : Nat) (L : Nat → List Nat) (out : List Nat) : Option Nat := (List.range n).find? (free n L out)
theorem nextOf_some {n : Nat} {L : Nat → List Nat} {out : List Nat} {u : Nat} (hu : u < n) (hf : free n L out u = true) (hl : ∀ v, v < u → free n L out v = false) : nextOf n L out = some u := by
  unfold nextOf
  rw [List.find?_range_eq_some]
  exact ⟨hf, List.mem_range.2 hu, fun j hj => by rw [hl j hj]; rfl⟩
theorem nextOf_of {n : Nat} {L : Nat → List Nat} {out : List Nat} {u : Nat} (h : nextOf n L out = some u) : u < n ∧ free n L out u = true ∧ ∀ v, v < u → free n L out v = false := by
  unfold nextOf at h
  rw [List.find?_range_eq_some] at h
  exact ⟨List.mem_range.1 h.2.1, h.1, fun v hv => by simpa using h.2.2 v hv⟩
theorem nextOf_none {n : Nat} {L : Nat → List Nat} {out : List Nat} (h : ∀ v, v < n → free n L out v = false) : nextOf n L out = none := by
  unfold nextOf
  rw [List.find?_eq_none]
  intro v hv
  rw [h v (List.mem_range.1 hv)]; decide
theorem none_of {n : Nat} {L : Nat → List Nat} {out : List Nat} (h : nextOf n L out = none) {v : Nat} (hv : v < n) : free n L out v = false := by
  unfold nextOf at h
  rw [List.find?_eq_none] at h
  simpa using h v (List.mem_range.2 hv)
def ordF (n : Nat) (L : Nat → List Nat) : Nat → List Nat → List Nat
  | 0, out => out
  | k + 1, out => match nextOf n L out with
    | none => out
    | some u => ordF n L k (out ++ [u])
def ord (n : Nat) (L : Nat → List Nat) : List Nat := ordF n L n []
theorem ordF_none {n : Nat} {L : Nat → List Nat} {out : List Nat} (h : nextOf n L out = none) : ∀ k, ordF n L k out = out
  | 0 => rfl
  | k + 1 => by unfold ordF; rw [h]
theorem ordF_some {n : Nat} {L : Nat → List Nat} {out : List Nat} {u k : Nat} (h : nextOf n L out = some u) : ordF n L (k + 1) out = ordF n L k (out ++ [u]) := by
  show (match nextOf n L out with | none => out | some u => ordF n L k (out ++ [u])) = _
  rw [h]
/-- Each comes behind all that lead to it. -/
structure Top (n : Nat) (L : Nat → List Nat) (out : List Nat) : Prop where
  nod : out.Nodup
  lt : ∀ v ∈ out, v < n
  lead : ∀ k v, out[k]? = some v → ∀ u, u < n → v ∈ L u → u ∈ out.take k
theorem Top.nil (n : Nat) (L : Nat → List Nat) : Top n L [] := ⟨List.nodup_nil, fun v h => (by cases h), fun k v h => (by simp at h)⟩
theorem Top.snoc {n : Nat} {L : Nat → List Nat} {out : List Nat} {u : Nat} (h : Top n L out) (hu : u < n) (hf : free n L out u = true) : Top n L (out ++ [u]) where
  nod := by
    rw [List.nodup_append]
    refine ⟨h.nod, (by simp), fun a ha b hb e => ?_⟩
    rw [List.mem_singleton] at hb
    subst hb; subst e
    exact (free_iff.1 hf).1 ha
  lt := fun v hv => by
    rcases List.mem_append.1 hv with h1 | h1
    · exact h.lt v h1
    · rw [List.mem_singleton.1 h1]; exact hu
  lead := fun k v hk x hx hv => by
    by_cases e : k < out.length
    · rw [List.getElem?_append_left e] at hk
      rw [List.take_append_of_le_length (by omega)]
      exact h.lead k v hk x hx hv
    · rw [List.getElem?_append_right (by omega)] at hk
      have hk0 : k - out.length = 0 := by
        rcases Nat.eq_zero_or_pos (k - out.length) with h0 | h0
        · exact h0
        · rw [List.getElem?_eq_none (by simp; omega)] at hk; cases hk
      rw [hk0] at hk
      have hvu : u = v := by simpa using hk
      subst hvu
      have hko : k = out.length := by omega
      subst hko
      rw [List.take_left]
      exact ((free_iff.1 hf).2 x hx).resolve_right (fun h1 => h1 hv)
theorem ordF_top {n : Nat} {L : Nat → List Nat} : ∀ k (out : List Nat), Top n L out → Top n L (ordF n L k out)
  | 0, _, h => h
  | k + 1, out, h => by
    cases hx : nextOf n L out with
    | none => rw [ordF_none hx]; exact h
    | some u =>
      rw [ordF_some hx]
      obtain ⟨h1, h2, _⟩ := nextOf_of hx
      exact ordF_top k _ (h.snoc h1 h2)
theorem ord_top (n : Nat) (L : Nat → List Nat) : Top n L (ord n L) := ordF_top n [] (Top.nil n L)
theorem sub_length : ∀ (l G : List Nat), l.Nodup → (∀ x ∈ l, x ∈ G) → l.length ≤ G.length
  | [], _, _, _ => Nat.zero_le _
  | x :: l, G, hn, hs => by
    rw [List.nodup_cons] at hn
    have h1 := sub_length l (G.erase x) hn.2 (fun y hy => (List.mem_erase_of_ne (fun e => hn.1 (by rw [← e]; exact hy))).2 (hs y (List.mem_cons_of_mem _ hy)))
    have h2 := hs x List.mem_cons_self
    rw [List.length_erase_of_mem h2] at h1
    have := List.length_pos_of_mem h2
    rw [List.length_cons]; omega
theorem Top.len {n : Nat} {L : Nat → List Nat} {out : List Nat} (h : Top n L out) : out.length ≤ n := by
  have := sub_length out (List.range n) h.nod (fun x hx => List.mem_range.2 (h.lt x hx))
  rwa [List.length_range] at this
/-- As many as there are: all. -/
theorem Top.all {n : Nat} {L : Nat → List Nat} {out : List Nat} (h : Top n L out) (hl : out.length = n) {v : Nat} (hv : v < n) : v ∈ out := by
  rcases Classical.em (v ∈ out) with h1 | h1
  · exact h1
  · exfalso
    have := sub_length (v :: out) (List.range n) (List.nodup_cons.2 ⟨h1, h.nod⟩) (fun x hx => by
      cases hx with
      | head => exact List.mem_range.2 hv
      | tail _ hx => exact List.mem_range.2 (h.lt x hx))
    rw [List.length_range, List.length_cons] at this
    omega
theorem ordF_full {n : Nat} {L : Nat → List Nat} {out : List Nat} (h : Top n L out) (hl : out.length = n) (k : Nat) : ordF n L k out = out :=
  ordF_none (nextOf_none fun v hv => by
    rw [Bool.eq_false_iff]
    intro hf
    exact (free_iff.1 hf).1 (h.all hl hv)) k
/-- Its place. -/
def rank (out : List Nat) (v : Nat) : Nat := out.idxOf v
theorem Top.rank {n : Nat} {L : Nat → List Nat} {out : List Nat} (h : Top n L out) (hl : out.length = n) {u v : Nat} (hu : u < n) (hv : v < n) (he : v ∈ L u) : rank out u < rank out v := by
  have hm := h.all hl hv
  have h1 : out.idxOf v < out.length := List.idxOf_lt_length_of_mem hm
  have h2 : out[out.idxOf v]? = some v := by
    rw [List.getElem?_eq_getElem h1, List.getElem_idxOf h1]
  have h3 := h.lead _ v h2 u hu he
  unfold Rc.rank
  have h4 : (out.take (out.idxOf v)).idxOf u < (out.take (out.idxOf v)).length := List.idxOf_lt_length_of_mem h3
  have h5 : out.idxOf u = (out.take (out.idxOf v)).idxOf u := by
    have h6 : out = out.take (out.idxOf v) ++ out.drop (out.idxOf v) := (List.take_append_drop _ _).symm
    have h7 : (out.take (out.idxOf v) ++ out.drop (out.idxOf v)).idxOf u = (out.take (out.idxOf v)).idxOf u := by rw [List.idxOf_append, if_pos h3]
    rw [← h6] at h7
    exact h7
  rw [List.length_take] at h4
  omega
/-- Where each step ranks higher all come. -/
theorem ord_full {n : Nat} {L : Nat → List Nat} {r : Nat → Nat} (hr : ∀ u v, u < n → v ∈ L u → r u < r v) : (ord n L).length = n := by
  have key : ∀ k (out : List Nat), Top n L out → out.length + k = n → (ordF n L k out).length = n := by
    intro k
    induction k with
    | zero => intro out _ h; exact h
    | succ k ih =>
      intro out ht hk
      cases hx : nextOf n L out with
      | some u =>
        rw [ordF_some hx]
        obtain ⟨h1, h2, _⟩ := nextOf_of hx
        exact ih _ (ht.snoc h1 h2) (by rw [List.length_append, List.length_singleton]; omega)
      | none =>
        exfalso
        have step : ∀ m v, v < n → v ∉ out → r v ≤ m → False := by
          intro m
          induction m with
          | zero =>
            intro v hv hvo hm
            have hf := none_of hx hv
            rw [Bool.eq_false_iff] at hf
            refine hf (free_iff.2 ⟨hvo, fun u hu => .inr fun he => ?_⟩)
            have := hr u v hu he
            omega
          | succ m ihm =>
            intro v hv hvo hm
            have hf := none_of hx hv
            rw [Bool.eq_false_iff] at hf
            refine hf (free_iff.2 ⟨hvo, fun u hu => ?_⟩)
            rcases Classical.em (u ∈ out) with h1 | h1
            · exact .inl h1
            · refine .inr fun he => ihm u hu h1 ?_
              have := hr u v hu he
              omega
        have : ∃ v, v < n ∧ v ∉ out := by
          rcases Classical.em (∃ v, v < n ∧ v ∉ out) with h | h
          · exact h
          · exfalso
            have := sub_length (List.range n) out List.nodup_range (fun x hx => by
              rcases Classical.em (x ∈ out) with h1 | h1
              · exact h1
              · exact absurd ⟨x, List.mem_range.1 hx, h1⟩ h)
            rw [List.length_range] at this
            omega
        obtain ⟨v, hv, hvo⟩ := this
        exact step (r v) v hv hvo (Nat.le_refl _)
  exact key n [] (Top.nil n L) (by simp)

/-- The state between two nodes, and in the midst of one: R leads on still. -/
structure Od (n : Nat) (L : Nat → List Nat) (out C : List Nat) (W : Nat → Nat) (R : List Nat) : Prop where
  cn : C.Nodup
  mem : ∀ v, v ∈ C ↔ v < n ∧ v ∉ out ∧ W v = 0
  onod : out.Nodup
  outz : ∀ v ∈ out, v < n ∧ W v = 0
  wdef : ∀ v, v < n → W v = pend n L out v + R.count v
section
variable {n : Nat} {L : Nat → List Nat} {out C C' : List Nat} {W : Nat → Nat} {R : List Nat}
theorem Od.perm (h : Od n L out C W R) (hp : C'.Perm C) : Od n L out C' W R := ⟨hp.nodup_iff.2 h.cn, fun v => by rw [hp.mem_iff]; exact h.mem v, h.onod, h.outz, h.wdef⟩
theorem Od.start (n : Nat) (L : Nat → List Nat) : Od n L [] ((List.range n).filter fun v => pend n L [] v == 0) (pend n L []) [] where
  cn := List.nodup_range.filter _
  mem := fun v => by simp [List.mem_filter]
  onod := List.nodup_nil
  outz := fun v h => by cases h
  wdef := fun v _ => by simp
theorem Od.free (h : Od n L out C W []) {v : Nat} (hv : v < n) : free n L out v = true ↔ v ∈ C := by
  rw [free_pend, h.mem v, h.wdef v hv, List.count_nil, Nat.add_zero]
  exact ⟨fun h1 => ⟨hv, h1⟩, fun h1 => h1.2⟩
theorem Od.none (h : Od n L out [] W []) : nextOf n L out = none := nextOf_none fun v hv => by
  rw [Bool.eq_false_iff]
  intro hf
  have := (h.free hv).1 hf
  cases this
theorem Od.some {u : Nat} (h : Od n L out C W []) (hu : u ∈ C) (hl : ∀ v ∈ C, u ≤ v) : nextOf n L out = some u := by
  have hun := ((h.mem u).1 hu).1
  refine nextOf_some hun ((h.free hun).2 hu) fun v hv => ?_
  rw [Bool.eq_false_iff]
  intro hf
  have := hl v ((h.free (by omega)).1 hf)
  omega
theorem Od.pick {u : Nat} (h : Od n L out C W []) (hp : C.Perm (u :: C')) : Od n L (out ++ [u]) C' W (L u) := by
  have hn := (hp.nodup_iff).1 h.cn
  rw [List.nodup_cons] at hn
  have hu := (h.mem u).1 (hp.mem_iff.2 List.mem_cons_self)
  refine ⟨hn.2, fun v => ?_, ?_, fun v hv => ?_, fun v hv => ?_⟩
  · have h1 := h.mem v
    rw [hp.mem_iff, List.mem_cons] at h1
    rw [List.mem_append, List.mem_singleton, not_or]
    constructor
    · intro hv
      obtain ⟨a, b, c⟩ := h1.1 (.inr hv)
      exact ⟨a, ⟨b, fun e => hn.1 (e ▸ hv)⟩, c⟩
    · rintro ⟨a, ⟨b, e⟩, c⟩
      exact (h1.2 ⟨a, b, c⟩).resolve_left e
  · rw [List.nodup_append]
    refine ⟨h.onod, (by simp), fun a ha b hb e => ?_⟩
    rw [List.mem_singleton] at hb
    subst hb; subst e
    exact hu.2.1 ha
  · rcases List.mem_append.1 hv with h1 | h1
    · exact h.outz v h1
    · rw [List.mem_singleton.1 h1]; exact ⟨hu.1, hu.2.2⟩
  · have h1 := h.wdef v hv
    rw [List.count_nil, Nat.add_zero] at h1
    rw [h1]
    exact pend_snoc v hu.2.1 hu.1
def low (W : Nat → Nat) (x : Nat) : Nat → Nat := fun v => if v = x then W x - 1 else W v
theorem low_at (W : Nat → Nat) (x : Nat) : low W x x = W x - 1 := if_pos rfl
theorem low_ne (W : Nat → Nat) {x v : Nat} (h : v ≠ x) : low W x v = W v := if_neg h
theorem Od.pos {x : Nat} (h : Od n L out C W (x :: R)) (hx : x < n) : 1 ≤ W x ∧ x ∉ out ∧ x ∉ C := by
  have h1 := h.wdef x hx
  rw [List.count_cons_self] at h1
  refine ⟨by omega, fun h2 => ?_, fun h2 => ?_⟩
  · have := (h.outz x h2).2; omega
  · have := ((h.mem x).1 h2).2.2; omega
theorem Od.wlow {x : Nat} (h : Od n L out C W (x :: R)) (hx : x < n) (v : Nat) (hv : v < n) : low W x v = pend n L out v + R.count v := by
  have h1 := h.wdef v hv
  by_cases e : v = x
  · subst e
    rw [low_at]
    rw [List.count_cons_self] at h1
    omega
  · rw [low_ne W e, h1, List.count_cons_of_ne (fun e2 => e e2.symm)]
theorem Od.outlow {x : Nat} (h : Od n L out C W (x :: R)) (hx : x < n) (v : Nat) (hv : v ∈ out) : v < n ∧ low W x v = 0 := by
  have h1 := h.outz v hv
  have h2 := h.pos hx
  have hne : v ≠ x := fun e => h2.2.1 (by rw [← e]; exact hv)
  rw [low_ne W hne]
  exact h1
theorem Od.keep {x : Nat} (h : Od n L out C W (x :: R)) (hx : x < n) (hz : W x - 1 ≠ 0) : Od n L out C (low W x) R := by
  refine ⟨h.cn, fun v => ?_, h.onod, h.outlow hx, h.wlow hx⟩
  rw [h.mem v]
  by_cases e : v = x
  · subst e
    rw [low_at]
    have := (h.pos hx).1
    exact ⟨fun h1 => by omega, fun h1 => absurd h1.2.2 hz⟩
  · rw [low_ne W e]
theorem Od.add {x : Nat} (h : Od n L out C W (x :: R)) (hx : x < n) (hz : W x - 1 = 0) : Od n L out (x :: C) (low W x) R := by
  obtain ⟨h1, h2, h3⟩ := h.pos hx
  refine ⟨List.nodup_cons.2 ⟨h3, h.cn⟩, fun v => ?_, h.onod, h.outlow hx, h.wlow hx⟩
  rw [List.mem_cons, h.mem v]
  by_cases e : v = x
  · subst e
    rw [low_at]
    exact ⟨fun _ => ⟨hx, h2, hz⟩, fun _ => .inl rfl⟩
  · rw [low_ne W e]
    exact ⟨fun h4 => h4.resolve_left e, .inr⟩
end
end Go.Proofs.YtkffnfgdmcebdaaGreatDoor.Rc
