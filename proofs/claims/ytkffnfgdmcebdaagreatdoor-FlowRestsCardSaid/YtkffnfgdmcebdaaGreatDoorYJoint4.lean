/- Walks of package cond: the parser's error; its text; which operator stands there. An expression's six cells. From the reading of an argument to what a walk is told of it. Mathematics of FlowForks: a fork of so many Works, and its join. Some elements appended to a row. -/
import Derived.Test.YtkffnfgdmcebdaaGreatDoorYJoint19
import Derived.Test.YtkffnfgdmcebdaaGreatDoorYJoint13
import Derived.Test.YtkffnfgdmcebdaaGreatDoorYJoint1
import Derived.OpenShut
import Derived.ShutString
import Derived.ChangeOld
namespace Go.Proofs.YtkffnfgdmcebdaaGreatDoor
open Go.RowKit

section
variable {E : Int → Option Addr} {W w w' : World} {q d : Nat} {s : ByteArray} {st : Co.St}
theorem drew_add (w : World) (n m : Nat) : (w.drewN n).drewN m = w.drewN (n + m) := by
  unfold World.drewN
  simp [Nat.add_assoc]
theorem Co.fail_err {c : Int} {x : Int × Nat} (h : st.err = some x) : Co.fail c st = st := by unfold Co.fail; rw [h]; rfl
theorem Co.fail_new {c : Int} (h : st.err = none) : Co.fail c st = ⟨0, st.frm, st.till, some (c, st.frm)⟩ := by unfold Co.fail; rw [if_neg (by rw [h]; simp)]
set_option maxHeartbeats 1600000 in
theorem cfail_any (h : PaC E w q s st d) (c : Int) (a : Addr) (ha : E c = some a) (hc0 : c ≠ 0) :
    Calls Tryz.prog 147 #[.pointer (some ⟨q, 0, none⟩), errV a] w fun x w' => x = .returned (.tuple #[]) ∧ PaC E w' q s (Co.fail c st) d ∧ w.grownBy w' (some q) := by
  obtain ⟨ev, ⟨c0, c1, c2, c3, c4, c5⟩, he⟩ := h.cells
  have f1 := h.froz (i := 1) (by decide)
  have f5 := h.froz (i := 5) (by decide)
  have hlt := h.lt
  have H := Lib.hid h
  unfold errV
  cases hst : st.err with
  | some x =>
    rw [hst] at he
    obtain ⟨c', k⟩ := x
    obtain ⟨b, a', rfl, hka, hcn, hb⟩ := he
    rw [Co.fail_err hst]
    unfold atV at c5
    clear c0 c1 c2 c3 c4 f1 f5 hb h hst ha hc0 hka
    go_enter Tryz.func147, Tryz.ntmps147
    go_wp2
    try simp only [Exit.inBlock, Exit.then]
    first | (refine bodyPost_ret (results_none rfl _ _ _) rfl ?_) | (refine bodyPost_end (results_none rfl _ _ _) rfl ?_)
    exact ⟨rfl, H.out, World.grownBy.refl _ _⟩
  | none =>
    rw [hst] at he
    obtain rfl : ev = .nilIface := he
    rw [Co.fail_new hst]
    have HA := Lib.hid ha
    have HC := Lib.hid hc0
    clear h hst ha hc0
    go_enter Tryz.func147, Tryz.ntmps147
    go_wp2
    try simp only [Exit.inBlock, Exit.then]
    first | (refine bodyPost_ret (results_none rfl _ _ _) rfl ?_) | (refine bodyPost_end (results_none rfl _ _ _) rfl ?_)
    obtain ⟨ev, hc, he'⟩ := H.out.ex
    have h5 : ev = .nilIface := Option.some.inj ((hc.cell 5 _ rfl).symm.trans c5)
    subst h5
    refine ⟨rfl, ⟨⟨atV w.heap.size, ((hc.set (i := 5) (by simp) _).set (i := 1) (by simp) _).alloc _, w.heap.size, a, rfl, HA.out, HC.out, ?_⟩, H.out.ord, H.out.top, H.out.size⟩,
      grown_trans (set_grown (set_grown (World.grownBy.refl _ _) 5 _) 1 _) (grown_alloc _ _ _)⟩
    have := heap_alloc_new ((w.setCell ⟨q, 5, none⟩ (.iface 158 (.pointer (some ⟨w.heap.size, 0, none⟩)))).setCell ⟨q, 1, none⟩ (.int .i64 0)) (.cells #[.int .i64 (st.frm : Int), .iface 254 (.pointer (some a))] 162)
    simpa [errV] using this
set_option maxHeartbeats 1600000 in
theorem ctxt_any (h : PaC E w q s st d) :
    Calls Tryz.prog 195 #[.pointer (some ⟨q, 0, none⟩)] w fun x w' => x = .returned (.string (s.extract st.frm st.till)) ∧ ∃ n, w' = w.drewN n := by
  obtain ⟨ev, ⟨c0, c1, c2, c3, c4, c5⟩, he⟩ := h.cells
  have hlt := h.lt
  have h1 := h.ord
  have h2 := h.top
  have hle : (st.frm : Int) ≤ (st.till : Int) := by omega
  have hle2 : (st.till : Int) ≤ (s.size : Int) := by omega
  have h00 : (0 : Int) ≤ (st.frm : Int) := by omega
  clear c1 c4 c5 he h
  go_enter Tryz.func195, Tryz.ntmps195
  go_wp2_with fail
  go_quiet (fail)
  go_wp2
  go_ret
  exact ⟨rfl, _, rfl⟩

theorem is_eq (m : List UInt8) : ((s.extract st.frm st.till).toList == m) = decide (Co.text s.data.toList st = m) := by
  rw [Co.eq_lit, ext_list]
  rfl
set_option maxHeartbeats 1600000 in
theorem cis_any (h : PaC E w q s st d) (m : List UInt8) :
    Calls Tryz.prog 179 #[.pointer (some ⟨q, 0, none⟩), .string ⟨m.toArray⟩] w fun x w' => x = .returned (.bool (Co.isM s.data.toList st m)) ∧ ∃ n, w' = w.drewN n := by
  obtain ⟨ev, ⟨c0, c1, c2, c3, c4, c5⟩, he⟩ := h.cells
  have hlt := h.lt
  have HT := Lib.hid (ctxt_any h)
  have hr : Co.isM s.data.toList st m = (decide (st.kind = 6) && decide (Co.text s.data.toList st = m)) := rfl
  rw [← is_eq] at hr
  obtain ⟨M, hM⟩ : ∃ M : ByteArray, M = ⟨m.toArray⟩ := ⟨_, rfl⟩
  have hml : m = M.toList := by rw [Co.list_data, hM]
  rw [← hM]
  generalize Co.isM s.data.toList st m = r at *
  rw [hml] at hr
  clear c0 c2 c3 c4 c5 he h hM hml
  by_cases hk : st.kind = 6
  · have hkI : (st.kind : Int) = 6 := by omega
    rw [hkI] at c1
    simp only [hk, decide_true, Bool.true_and] at hr
    subst hr
    clear hk hkI
    go_enter Tryz.func179, Tryz.ntmps179
    go_wp2_with (go_at_call 195; refine HT.out.mono ?_; rintro e w' ⟨rfl, n, rfl⟩)
    go_ret
    exact ⟨rfl, n, rfl⟩
  · have hkI : ((st.kind : Int) == 6) = false := by rw [beq_eq_false_iff_ne]; omega
    simp only [hk, decide_false, Bool.false_and] at hr
    subst hr
    clear hk
    go_enter Tryz.func179, Tryz.ntmps179
    go_wp2
    go_ret
    exact ⟨rfl, 0, rfl⟩

theorem Co.op_hit {l : List UInt8} {b i : Nat} (hi : i ≤ b) (h : Co.isM l st (Co.words[i]!) = true) : Co.opGo l st (b + 1 - i) i = i := by
  rw [show b + 1 - i = (b - i) + 1 from by omega, Co.opGo, if_pos h]
theorem Co.op_miss {l : List UInt8} {b i : Nat} (hi : i ≤ b) (h : Co.isM l st (Co.words[i]!) = false) : Co.opGo l st (b + 1 - i) i = Co.opGo l st (b + 1 - (i + 1)) (i + 1) := by
  rw [show b + 1 - i = (b - i) + 1 from by omega, Co.opGo, if_neg (by rw [h]; simp), show b + 1 - (i + 1) = b - i from by omega]
theorem Co.op_none {l : List UInt8} {b i : Nat} (hi : b < i) : Co.opGo l st (b + 1 - i) i = 0 := by
  rw [show b + 1 - i = 0 from by omega, Co.opGo]
set_option maxHeartbeats 1600000 in
theorem cop_any (hE : CoErrs W E) (hb : Below W.heap.size W w) (h : PaC E w q s st d) (a b : Nat) (hab : a ≤ b) (hb18 : b < 18) :
    Calls Tryz.prog 170 #[.pointer (some ⟨q, 0, none⟩), .int .i64 (a : Int), .int .i64 (b : Int)] w fun x w' => x = .returned (.int .i64 (Co.op s.data.toList st a b : Int)) ∧ ∃ n, w' = w.drewN n := by
  have HW := Lib.hid (hE.below hb).words
  have H := Lib.hid h
  clear hE hb h
  go_enter Tryz.func170, Tryz.ntmps170
  go_wp2_with fail
  go_loopw [7] (fun i wr => ∃ k : Nat, a ≤ k ∧ k ≤ b + 1 ∧ i = .int .i64 k ∧ (∃ n, wr = w.drewN n) ∧ Hid (Co.op s.data.toList st a b = Co.opGo s.data.toList st (b + 1 - k) k)) (fun i _ => b + 1 - (intOf i).toNat)
  case atStart => exact ⟨a, Nat.le_refl _, by omega, rfl, ⟨0, rfl⟩, rfl⟩
  case round =>
    obtain ⟨k, hk1, hk2, rfl, ⟨n, rfl⟩, hop⟩ := hrel
    by_cases hkb : k ≤ b
    · have hkI : (k : Int) ≤ (b : Int) := by omega
      have cw := HW.out k (by omega)
      have HI := Lib.hid (cis_any (H.out.below (below_drewN (Below.refl w.heap.size w) n) (Nat.le_refl _)) (Co.words[k]!))
      obtain ⟨r, hr⟩ : ∃ r, r = Co.isM s.data.toList st (Co.words[k]!) := ⟨_, rfl⟩
      rw [← hr] at HI
      have H1 : Hid (r = true → Co.opGo s.data.toList st (b + 1 - k) k = k) := fun h => Co.op_hit hkb (hr ▸ h)
      have H2 : Hid (r = false → Co.opGo s.data.toList st (b + 1 - k) k = Co.opGo s.data.toList st (b + 1 - (k + 1)) (k + 1)) := fun h => Co.op_miss hkb (hr ▸ h)
      clear hr
      generalize (⟨(Co.words[k]!).toArray⟩ : ByteArray) = M at *
      cases r with
      | true =>
        have K1 := Lib.hid (H1.out rfl)
        clear H1 H2
        go_wp2_with fail
        refine HI.out.mono ?_
        rintro e w' ⟨rfl, n', rfl⟩
        go_wp2
        go_ret
        rw [hop.out, K1.out]
        exact ⟨rfl, n + n', rfl⟩
      | false =>
        have K2 := Lib.hid (H2.out rfl)
        clear H1 H2
        go_wp2_with fail
        refine HI.out.mono ?_
        rintro e w' ⟨rfl, n', rfl⟩
        go_wp2_with fail
        go_roundw
        case measure => simp [intOf]; omega
        case rel => exact ⟨k + 1, by omega, by omega, by go_num, ⟨n + n', rfl⟩, hop.out.trans K2.out⟩
    · have hkI : ¬ (k : Int) ≤ (b : Int) := by omega
      go_wp2
      go_ret
      rw [hop.out, Co.op_none (by omega)]
      exact ⟨rfl, n, rfl⟩
end
end Go.Proofs.YtkffnfgdmcebdaaGreatDoor
namespace Go.Proofs.YtkffnfgdmcebdaaGreatDoor
open Go.RowKit

/-- The six cells of an expression. -/
def Ex.list (x : Ex) : List Value := [.int .i64 x.op, .int .i64 x.kind, .int .i64 x.num, .string x.txt, .string x.name, .slice x.A x.n x.c]
theorem Cel.six_of {w : World} {z : Nat} {y : Ex} (h : Cel w z y.list) : (w.cell? ⟨z, 0, none⟩ = some (.int .i64 y.op) ∧ w.cell? ⟨z, 1, none⟩ = some (.int .i64 y.kind) ∧ w.cell? ⟨z, 2, none⟩ = some (.int .i64 y.num) ∧
    w.cell? ⟨z, 3, none⟩ = some (.string y.txt) ∧ w.cell? ⟨z, 4, none⟩ = some (.string y.name) ∧ w.cell? ⟨z, 5, none⟩ = some (.slice y.A y.n y.c)) ∧
    (w.frozen? ⟨z, 0, none⟩ = false ∧ w.frozen? ⟨z, 1, none⟩ = false ∧ w.frozen? ⟨z, 2, none⟩ = false ∧ w.frozen? ⟨z, 3, none⟩ = false ∧ w.frozen? ⟨z, 4, none⟩ = false ∧ w.frozen? ⟨z, 5, none⟩ = false) :=
  ⟨⟨h.cell 0 _ rfl, h.cell 1 _ rfl, h.cell 2 _ rfl, h.cell 3 _ rfl, h.cell 4 _ rfl, h.cell 5 _ rfl⟩,
    h.froz 0 (by simp [Ex.list]), h.froz 1 (by simp [Ex.list]), h.froz 2 (by simp [Ex.list]), h.froz 3 (by simp [Ex.list]), h.froz 4 (by simp [Ex.list]), h.froz 5 (by simp [Ex.list])⟩
def Ex.zero : Ex := ⟨0, 0, 0, ⟨#[]⟩, ⟨#[]⟩, none, 0, 0⟩
/-- An expression's six cells are written. -/
def set6 (w : World) (z : Nat) (x : Ex) : World :=
  (((((w.setCell ⟨z, 0, none⟩ (.int .i64 x.op)).setCell ⟨z, 1, none⟩ (.int .i64 x.kind)).setCell ⟨z, 2, none⟩ (.int .i64 x.num)).setCell ⟨z, 3, none⟩ (.string x.txt)).setCell ⟨z, 4, none⟩ (.string x.name)).setCell ⟨z, 5, none⟩ (.slice x.A x.n x.c)
theorem set6_grown (w : World) (z : Nat) (x : Ex) : w.grownBy (set6 w z x) (some z) :=
  set_grown (set_grown (set_grown (set_grown (set_grown (set_grown (World.grownBy.refl _ _) 0 _) 1 _) 2 _) 3 _) 4 _) 5 _
theorem Cel.six {w : World} {z : Nat} {y : Ex} (h : Cel w z y.list) (x : Ex) : Cel (set6 w z x) z x.list :=
  (((((h.set (i := 0) (by simp [Ex.list]) _).set (i := 1) (by simp [Ex.list]) _).set (i := 2) (by simp [Ex.list]) _).set (i := 3) (by simp [Ex.list]) _).set (i := 4) (by simp [Ex.list]) _).set (i := 5) (by simp [Ex.list]) _
end Go.Proofs.YtkffnfgdmcebdaaGreatDoor
namespace Go.Proofs.YtkffnfgdmcebdaaGreatDoor
open Go.ChangeShapes Go.WideShapes Go.ChangeAt Go.RowKit
open Go.ChangeMaps (open_string shut_string)

theorem wf_u8 {z : Int} (h : (Lit.int .u8 z).wf = true) : 0 ≤ z ∧ z < 256 := by
  have := bounds_u8 h
  omega
theorem wf_byte {z : Int} (h : (Lit.int .u8 z).wf = true) : ∃ x : UInt8, z = (x.toNat : Int) := by
  have hb := wf_u8 h
  refine ⟨UInt8.ofNat z.toNat, ?_⟩
  rw [UInt8.toNat_ofNat', Nat.mod_eq_of_lt (by omega)]
  omega
theorem wf_i64 {z : Int} (h : (Lit.int .i64 z).wf = true) : -9223372036854775808 ≤ z ∧ z ≤ 9223372036854775807 := by
  have := bounds_i64 h
  omega

/-- A byte slice that came in. -/
structure InBytes (w : World) (A : Option Addr) (n c : Nat) (l : List UInt8) : Prop where
  bytes : Bytes w w.heap.size A n l
  nn : A = none → n = 0 ∧ c = 0
  cap : n ≤ c
  most : c ≤ maxLen

theorem open_bytes {H : Type} {enc : TypeId × Value → H} {P : Program} {W : World} {t e : TypeId} {a : Option Addr} {len cap : Nat} {d : DataW H} {ps : List MemPlace}
    (ht : P.underlying t = some (.slice e)) (he : P.underlying e = some (.int .u8)) (hc : P.cellsOf e = 1)
    (h : DataW.Trod enc P W 0 (fun _ => true) true t (.slice a len cap) d ps) : ∃ l, InBytes W a len cap l := by
  obtain ⟨fuel, hf⟩ := h
  rcases open_ints ht he hc hf with ⟨hcs, _⟩ | ⟨x, l, c, zs, hcs, _, hl, hm, hz, _, hcell, hwz⟩
  · simp [Value.cells] at hcs
    obtain ⟨rfl, rfl, rfl⟩ := hcs
    exact ⟨[], Bytes.nil _ _ _, fun _ => ⟨rfl, rfl⟩, Nat.le_refl _, by simp [maxLen]⟩
  · simp [Value.cells] at hcs
    obtain ⟨rfl, rfl, rfl⟩ := hcs
    have hz' : zs.length = cap := by simpa using hz
    have hb : ∀ i, i < zs.length → ((UInt8.ofNat (zs.getD i 0).toNat).toNat : Int) = zs.getD i 0 := by
      intro i hi
      have hwi := wf_u8 (hwz (zs.getD i 0) (by simp [List.getD, List.getElem?_eq_getElem hi]))
      rw [UInt8.toNat_ofNat', Nat.mod_eq_of_lt (by omega)]
      omega
    refine ⟨(zs.take len).map fun z => UInt8.ofNat z.toNat, ⟨by simp; omega, fun h0 => ?_⟩, (fun h => by cases h), hl, hm⟩
    have hc0 := hcell 0 (by omega)
    obtain ⟨b, off, spot⟩ := x
    obtain rfl : spot = none := by simpa [Addr.add] using World.cell?_spot hc0
    have hlt : b < W.heap.size := by
      have : W.cell? ⟨b, off, none⟩ = some (.int .u8 (zs.getD 0 0)) := by simpa [Addr.add] using hc0
      rcases Nat.lt_or_ge b W.heap.size with h' | h'
      · exact h'
      · simp [World.cell?, Array.getElem?_eq_none h'] at this
    refine ⟨b, off, rfl, hlt, fun k v hv => ?_⟩
    have hk : k < len := by
      have := (List.getElem?_eq_some_iff.1 hv).1
      simp at this; omega
    have hkz : k < zs.length := by omega
    rw [← addr_add b off k, hcell k hkz]
    simp only [List.map_map, List.getElem?_map, List.getElem?_take, if_pos hk, List.getElem?_eq_getElem hkz, Option.map_some, Option.some.injEq] at hv
    rw [← hv]
    have := hb k hkz
    simp only [List.getD, List.getElem?_eq_getElem hkz, Option.getD_some, Function.comp, bv] at this ⊢
    rw [this]
end Go.Proofs.YtkffnfgdmcebdaaGreatDoor
namespace Go.Proofs.YtkffnfgdmcebdaaGreatDoor
open Go.RowKit

namespace Pr
def kdK (inc : Bool) : Int := if inc = true then 7 else 6
def nodesK (inc : Bool) (j : Nat) : List Nd := [Nd.plain 1, Nd.plain (kdK inc), Nd.plain (kdK inc), Nd.plain 2] ++ List.replicate j wkS
def flowsK : Nat → List Fl
  | 0 => [⟨0, 1, no⟩, ⟨2, 3, no⟩]
  | j + 1 => flowsK j ++ [⟨1, 4 + (j : Int), no⟩, ⟨4 + (j : Int), 2, no⟩]
def pK (inc : Bool) (v : Nat) : P := ⟨bs [112], nodesK inc v, flowsK v⟩
theorem nodesK_snoc (inc : Bool) (j : Nat) : nodesK inc (j + 1) = nodesK inc j ++ [wkS] := by
  unfold nodesK
  rw [List.replicate_succ', ← List.append_assoc]
theorem nodesK_len (inc : Bool) (j : Nat) : (nodesK inc j).length = j + 4 := by
  unfold nodesK
  simp
theorem flowsK_len : ∀ j : Nat, (flowsK j).length = 2 * j + 2
  | 0 => rfl
  | j + 1 => by
    rw [flowsK, List.length_append, flowsK_len j]
    simp
    omega
theorem pK_n (inc : Bool) (v : Nat) : (pK inc v).n = v + 4 := nodesK_len inc v
theorem pK_m (inc : Bool) (v : Nat) : (pK inc v).m = 2 * v + 2 := flowsK_len v
theorem nodeK : ∀ inc v, v < 6 → (pK inc v).nodes[0]! = Nd.plain 1 ∧ (pK inc v).nodes[1]! = Nd.plain (kdK inc) ∧ (pK inc v).nodes[2]! = Nd.plain (kdK inc) ∧ (pK inc v).nodes[3]! = Nd.plain 2 := by
  intro inc v _
  exact ⟨rfl, rfl, rfl, rfl⟩
theorem nodeK4 (inc : Bool) {v i : Nat} (hi : i < v) : (pK inc v).nodes[4 + i]! = wkS := by
  show (nodesK inc v)[4 + i]! = wkS
  rw [getElem!_pos _ (4 + i) (by rw [nodesK_len]; omega)]
  unfold nodesK
  rw [List.getElem_append_right (by simp)]
  simp
theorem v6 {v : Nat} (hv : v < 6) (hv2 : 2 ≤ v) : v = 2 ∨ v = 3 ∨ v = 4 ∨ v = 5 := by omega
theorem outsK0 (inc : Bool) {v : Nat} (hv : v < 6) (hv2 : 2 ≤ v) : outsB (pK inc v) ((0 : Nat) : Int) = [0] ∧ outsB (pK inc v) ((1 : Nat) : Int) = (List.range v).map (fun i => 2 + 2 * i) ∧ outsB (pK inc v) ((2 : Nat) : Int) = [1] := by
  rcases v6 hv hv2 with rfl | rfl | rfl | rfl <;> exact ⟨rfl, rfl, rfl⟩
theorem insK (inc : Bool) {v : Nat} (hv : v < 6) (hv2 : 2 ≤ v) : insB (pK inc v) ((1 : Nat) : Int) = [0] ∧ insB (pK inc v) ((2 : Nat) : Int) = (List.range v).map (fun i => 3 + 2 * i) := by
  rcases v6 hv hv2 with rfl | rfl | rfl | rfl <;> exact ⟨rfl, rfl⟩
theorem outsK4 (inc : Bool) {v : Nat} (hv : v < 6) (hv2 : 2 ≤ v) {i : Nat} (hi : i < v) : outsB (pK inc v) ((4 + i : Nat) : Int) = [3 + 2 * i] := by
  rcases v6 hv hv2 with rfl | rfl | rfl | rfl
  · rcases (show i = 0 ∨ i = 1 by omega) with rfl | rfl <;> rfl
  · rcases (show i = 0 ∨ i = 1 ∨ i = 2 by omega) with rfl | rfl | rfl <;> rfl
  · rcases (show i = 0 ∨ i = 1 ∨ i = 2 ∨ i = 3 by omega) with rfl | rfl | rfl | rfl <;> rfl
  · rcases (show i = 0 ∨ i = 1 ∨ i = 2 ∨ i = 3 ∨ i = 4 by omega) with rfl | rfl | rfl | rfl | rfl <;> rfl
theorem flowK (inc : Bool) {v : Nat} (hv : v < 6) {i : Nat} (hi : i < v) : (pK inc v).flows[2 + 2 * i]! = ⟨1, 4 + (i : Int), no⟩ ∧ (pK inc v).flows[3 + 2 * i]! = ⟨4 + (i : Int), 2, no⟩ := by
  rcases (show v = 1 ∨ v = 2 ∨ v = 3 ∨ v = 4 ∨ v = 5 by omega) with rfl | rfl | rfl | rfl | rfl
  · rcases (show i = 0 by omega) with rfl; exact ⟨rfl, rfl⟩
  · rcases (show i = 0 ∨ i = 1 by omega) with rfl | rfl <;> exact ⟨rfl, rfl⟩
  · rcases (show i = 0 ∨ i = 1 ∨ i = 2 by omega) with rfl | rfl | rfl <;> exact ⟨rfl, rfl⟩
  · rcases (show i = 0 ∨ i = 1 ∨ i = 2 ∨ i = 3 by omega) with rfl | rfl | rfl | rfl <;> exact ⟨rfl, rfl⟩
  · rcases (show i = 0 ∨ i = 1 ∨ i = 2 ∨ i = 3 ∨ i = 4 by omega) with rfl | rfl | rfl | rfl | rfl <;> exact ⟨rfl, rfl⟩
theorem flowK_mem : ∀ (v : Nat) (x : Fl), x ∈ flowsK v → x.cond = no
  | 0, x, h => by
    rcases List.mem_cons.1 h with rfl | h
    · rfl
    · obtain rfl := List.mem_singleton.1 h
      rfl
  | v + 1, x, h => by
    rw [flowsK] at h
    rcases List.mem_append.1 h with h | h
    · exact flowK_mem v x h
    · rcases List.mem_cons.1 h with rfl | h
      · rfl
      · obtain rfl := List.mem_singleton.1 h
        rfl
theorem condK (inc : Bool) (v f : Nat) : (pK inc v).flows[f]!.cond = no := by
  show (flowsK v)[f]!.cond = no
  by_cases hf : f < (flowsK v).length
  · rw [getElem!_pos _ f hf]
    exact flowK_mem v _ (List.getElem_mem hf)
  · rw [getElem!_neg _ f hf]
    rfl
/-- Tokens: of the Works that are to be done, of those that are done in their order. -/
def wtK (i : Nat) : Tk := ⟨3 + (i : Int), 4 + (i : Int), 2 + 2 * (i : Int), false⟩
def dtK (i : Nat) : Tk := ⟨0, 2, 3 + 2 * (i : Int), false⟩
def bK (inc : Bool) (v : Nat) (rem don : List Nat) : Bd := ⟨pK inc v, [], rem.map wtK ++ numb ((v : Int) + 3) (don.map dtK), (v : Int) + 3 + (don.length : Int)⟩
def b0K (inc : Bool) (v : Nat) : Bd := ⟨pK inc v, [], [⟨1, 0, -1, false⟩], 2⟩
def b1K (inc : Bool) (v : Nat) : Bd := ⟨pK inc v, [], [⟨2, 1, 0, false⟩], 3⟩
def b3K (inc : Bool) (v : Nat) : Bd := ⟨pK inc v, [], [⟨2 * (v : Int) + 3, 3, 1, false⟩], 2 * (v : Int) + 4⟩
def b4K (inc : Bool) (v : Nat) : Bd := ⟨pK inc v, [], [], 2 * (v : Int) + 4⟩
theorem s0K (inc : Bool) {v : Nat} (hv : v < 6) (hv2 : 2 ≤ v) : Fst (b0K inc v) 0 ∧ bstep (b0K inc v) 0 = (b1K inc v, true, no, 0) := by
  have hk : (b0K inc v).p.nodes[0]!.kind = 1 := rfl
  refine ⟨rdy_one (u := 0) rfl rfl rfl (by show 0 < (pK inc v).n; rw [pK_n]; omega) (.inl hk), ?_⟩
  have hw : outWays (b0K inc v) 0 = (0, [0]) := by
    unfold outWays
    dsimp only
    rw [hk, show (b0K inc v).p = pK inc v from rfl, (outsK0 inc hv hv2).1]
    rfl
  rw [bstep_one (u := 0) (fs := [0]) rfl rfl hw (by decide) (.inl hk)]
  have hf : (pK inc v).flows[0]! = ⟨0, 1, no⟩ := by rcases v6 hv hv2 with rfl | rfl | rfl | rfl <;> rfl
  have hc : come (b0K inc v).p [0] = [⟨0, 1, 0, false⟩] := by
    unfold come
    rw [show (b0K inc v).p = pK inc v from rfl, List.map_cons, hf]
    rfl
  rw [hc]
  rfl
theorem kindK (inc : Bool) : kdK inc ≠ 4 ∧ kdK inc ≠ 3 ∧ kdK inc ≠ 2 ∧ kdK inc ≠ 5 := by cases inc <;> decide
theorem b2K_toks (inc : Bool) {v : Nat} (hv : v < 6) (hv2 : 2 ≤ v) : numb 3 (come (pK inc v) ((List.range v).map (fun i => 2 + 2 * i))) = (List.range v).map wtK := by
  rcases v6 hv hv2 with rfl | rfl | rfl | rfl <;> rfl
theorem s1K (inc : Bool) {v : Nat} (hv : v < 6) (hv2 : 2 ≤ v) : Fst (b1K inc v) 0 ∧ bstep (b1K inc v) 0 = (bK inc v (List.range v) [], true, no, 0) := by
  have hk : (b1K inc v).p.nodes[1]!.kind = kdK inc := rfl
  have hi : insB (b1K inc v).p ((1 : Nat) : Int) = [0] := (insK inc hv hv2).1
  obtain ⟨k4, k3, k2, k5⟩ := kindK inc
  refine ⟨Rdy.fst0 ⟨0, rfl, Nat.zero_lt_one, rfl, 1, rfl, by show 1 < (pK inc v).n; rw [pK_n]; omega, by rw [hk]; exact k4, fun _ h => ?_, fun _ h => ?_⟩, ?_⟩
  · rw [hi] at h; exact absurd h (by decide)
  · rw [hi] at h; exact absurd h (by decide)
  have ho : outsB (b1K inc v).p ((1 : Nat) : Int) = (List.range v).map (fun i => 2 + 2 * i) := (outsK0 inc hv hv2).2.1
  have hne : (List.range v).map (fun i => 2 + 2 * i) ≠ [] := by
    intro h
    have := congrArg List.length h
    simp at this
    omega
  have hw : outWays (b1K inc v) 1 = (0, (List.range v).map (fun i => 2 + 2 * i)) := by
    unfold outWays
    dsimp only
    rw [hk, ho]
    cases inc with
    | false => rfl
    | true =>
      rw [show kdK true = 7 from rfl]
      rw [if_neg (by decide), if_neg (by decide), if_pos rfl]
      rw [choose_free (b1K true v) _ _ (by show (-1 : Int) < 0; decide) _ [] (fun f _ => condK true v f) (by simp)]
      unfold finish
      rw [List.nil_append, if_pos hne]
  have hg : ∀ k, k < (b1K inc v).toks.length → goes (b1K inc v) 0 1 k = true := by
    intro k hk2
    have hk2 : k < 1 := hk2
    obtain rfl : k = 0 := by omega
    unfold goes
    dsimp only
    rw [hk, hi]
    cases inc <;> rfl
  rw [bstep_all (u := 1) rfl hw hg (by simp; omega) (by rw [hk]; exact k3)]
  rw [show (b1K inc v).p = pK inc v from rfl, show (b1K inc v).next = 3 from rfl, b2K_toks inc hv hv2]
  unfold bK
  simp only [List.map_nil, numb, List.append_nil, List.length_map, List.length_range, List.length_nil]
  congr 2
  omega
theorem bK_len (inc : Bool) (v : Nat) (rem don : List Nat) : (bK inc v rem don).toks.length = rem.length + don.length := by
  unfold bK
  simp [numb_len]
theorem bK_rem (inc : Bool) (v : Nat) (rem don : List Nat) {k : Nat} (hk : k < rem.length) : (bK inc v rem don).toks[k]! = wtK rem[k]! := by
  show (rem.map wtK ++ numb ((v : Int) + 3) (don.map dtK))[k]! = _
  rw [getElem!_pos _ k (by simp; omega), getElem!_pos rem k hk, List.getElem_append_left (by simpa using hk)]
  simp
theorem numb_get! : ∀ (k : Int) (l : List Tk) (i : Nat), i < l.length → (numb k l)[i]! = { l[i]! with id := k + i }
  | k, t :: l, 0, _ => by simp [numb]
  | k, t :: l, i + 1, h => by
    have := numb_get! (k + 1) l i (by simpa using h)
    show (numb (k + 1) l)[i]! = { l[i]! with id := k + ((i + 1 : Nat) : Int) }
    rw [this, show k + 1 + (i : Int) = k + ((i + 1 : Nat) : Int) by omega]
theorem bK_don (inc : Bool) (v : Nat) (rem don : List Nat) {k : Nat} (hk : k < don.length) : (bK inc v rem don).toks[rem.length + k]! = ⟨(v : Int) + 3 + (k : Int), 2, 3 + 2 * (don[k]! : Int), false⟩ := by
  have hl : rem.length + k < (bK inc v rem don).toks.length := by rw [bK_len]; omega
  have hn : k < (numb ((v : Int) + 3) (don.map dtK)).length := by rw [numb_len]; simpa using hk
  have h : (bK inc v rem don).toks[rem.length + k]! = (numb ((v : Int) + 3) (don.map dtK))[k]! := by
    show (rem.map wtK ++ numb ((v : Int) + 3) (don.map dtK))[rem.length + k]! = _
    have hl2 : rem.length + k < (rem.map wtK ++ numb ((v : Int) + 3) (don.map dtK)).length := hl
    rw [getElem!_pos (rem.map wtK ++ numb ((v : Int) + 3) (don.map dtK)) (rem.length + k) hl2, getElem!_pos (numb ((v : Int) + 3) (don.map dtK)) k hn, List.getElem_append_right (by simp)]
    simp
  rw [h, numb_get! _ _ k (by simpa using hk), getElem!_pos (don.map dtK) k (by simpa using hk), getElem!_pos don k hk]
  simp [dtK]
theorem nd_inj {l : List Nat} (h : l.Nodup) {i j : Nat} (hi : i < l.length) (hj : j < l.length) (e : l[i]! = l[j]!) : i = j := by
  rw [getElem!_pos l i hi, getElem!_pos l j hj] at e
  rcases Nat.lt_trichotomy i j with h1 | h1 | h1
  · exact absurd e (List.pairwise_iff_getElem.1 h i j hi hj h1)
  · exact h1
  · exact absurd e.symm (List.pairwise_iff_getElem.1 h j i hj hi h1)
theorem erase_map {α β : Type} (g : α → β) : ∀ (l : List α) (k : Nat), (l.map g).eraseIdx k = (l.eraseIdx k).map g
  | [], _ => rfl
  | _ :: _, 0 => rfl
  | x :: l, k + 1 => congrArg (g x :: ·) (erase_map g l k)
theorem erase_perm : ∀ (l : List Nat) (k : Nat), k < l.length → (l[k]! :: l.eraseIdx k).Perm l
  | x :: l, 0, _ => List.Perm.refl _
  | x :: l, k + 1, h => (List.Perm.swap _ _ _).trans ((erase_perm l k (by simpa using h)).cons x)
theorem left_cons (t : Tk) (l : List Tk) (g : Nat → Bool) : left (t :: l) g = (if g 0 = true then [] else [t]) ++ left l (fun k => g (k + 1)) := by
  unfold left
  rw [List.length_cons, List.range_succ_eq_map, List.filter_cons]
  simp only [List.filter_map]
  cases hg : g 0 <;> simp [Function.comp_def]
theorem left_keep : ∀ (l : List Tk) (g : Nat → Bool), (∀ k, g k = false) → left l g = l
  | [], _, _ => rfl
  | t :: l, g, h => by
    rw [left_cons, h 0, left_keep l _ fun k => h (k + 1)]
    rfl
theorem left_erase : ∀ (l : List Tk) (k : Nat), left l (fun j => decide (j = k)) = l.eraseIdx k
  | [], _ => rfl
  | t :: l, 0 => by
    rw [left_cons, left_keep l _ fun k => by simp]
    rfl
  | t :: l, k + 1 => by
    have e : (fun j => decide (j + 1 = k + 1)) = fun j => decide (j = k) := by
      funext j
      simp
    rw [left_cons, e, left_erase l k, List.eraseIdx_cons_succ]
    simp
/-- What stands on a board of that make. -/
structure Kx (v : Nat) (rem don : List Nat) : Prop where
  perm : (rem ++ don).Perm (List.range v)
section
variable {inc : Bool} {v : Nat} {rem don : List Nat}
theorem Kx.len (h : Kx v rem don) : rem.length + don.length = v := by
  have := h.perm.length_eq
  simpa using this
theorem Kx.nodup (h : Kx v rem don) : (rem ++ don).Nodup := h.perm.nodup_iff.2 List.nodup_range
theorem Kx.lt (h : Kx v rem don) {i : Nat} (hi : i ∈ rem ∨ i ∈ don) : i < v := List.mem_range.1 (h.perm.subset (List.mem_append.2 hi))
theorem bK_cases (inc : Bool) (v : Nat) (rem don : List Nat) {k : Nat} (hk : k < (bK inc v rem don).toks.length) :
    (k < rem.length ∧ (bK inc v rem don).toks[k]! = wtK rem[k]!) ∨ ∃ j, k = rem.length + j ∧ j < don.length ∧ (bK inc v rem don).toks[k]! = ⟨(v : Int) + 3 + (j : Int), 2, 3 + 2 * (don[j]! : Int), false⟩ := by
  rw [bK_len] at hk
  by_cases h : k < rem.length
  · exact .inl ⟨h, bK_rem inc v rem don h⟩
  · refine .inr ⟨k - rem.length, by omega, by omega, ?_⟩
    have := bK_don inc v rem don (k := k - rem.length) (by omega)
    rwa [show rem.length + (k - rem.length) = k by omega] at this
theorem mem! {l : List Nat} {k : Nat} (hk : k < l.length) : l[k]! ∈ l := by
  rw [getElem!_pos l k hk]
  exact List.getElem_mem hk
/-- While some are to be done nothing is ready. -/
theorem restK (hv : v < 6) (hv2 : 2 ≤ v) (h : Kx v rem don) (hr : 0 < rem.length) : Rest (bK inc v rem don) := by
  intro k hk
  have hl := hk.lt
  have hp : (bK inc v rem don).p = pK inc v := rfl
  obtain ⟨i, hi, _, _, u, hu, hun, h4, h6, h7⟩ := hk
  obtain rfl : k = i := by omega
  have h0 : rem[0]! < v := h.lt (.inl (mem! hr))
  rcases bK_cases inc v rem don hl with ⟨h1, h2⟩ | ⟨j, _, hj, h2⟩
  · rw [h2] at hu
    have hu : 4 + (rem[k]! : Int) = (u : Int) := hu
    obtain rfl : u = 4 + rem[k]! := by omega
    refine h4 ?_
    rw [hp, nodeK4 inc (h.lt (.inl (mem! h1)))]
    rfl
  · rw [h2] at hu
    have hu : (2 : Int) = (u : Int) := hu
    obtain rfl : u = 2 := by omega
    have hi2 : insB (bK inc v rem don).p ((2 : Nat) : Int) = (List.range v).map (fun i => 3 + 2 * i) := (insK inc hv hv2).2
    have hk2 : (bK inc v rem don).p.nodes[2]!.kind = kdK inc := rfl
    have hlen : 2 ≤ (insB (bK inc v rem don).p ((2 : Nat) : Int)).length := by rw [hi2]; simpa using hv2
    cases inc with
    | false =>
      have h9 := (h6 (by rw [hk2]; rfl) hlen).2 (3 + 2 * rem[0]!) (by rw [hi2]; exact List.mem_map.2 ⟨rem[0]!, List.mem_range.2 h0, rfl⟩)
      rcases fst_cases (atB ((2 : Nat) : Int) ((3 + 2 * rem[0]! : Nat) : Int)) (bK false v rem don).toks with ⟨h3, _⟩ | ⟨k', _, hk', hq, _⟩
      · exact h9 h3
      · rcases bK_cases false v rem don hk' with ⟨_, e⟩ | ⟨j', _, hj', e⟩
        · rw [e] at hq
          unfold atB wtK at hq
          simp at hq
          omega
        · rw [e] at hq
          unfold atB at hq
          rw [Bool.and_eq_true, beq_iff_eq, beq_iff_eq] at hq
          have h2b := hq.2
          have e2 : rem[0]! = don[j']! := by
            dsimp only at h2b
            omega
          have hnd := h.nodup
          rw [List.nodup_append] at hnd
          exact hnd.2.2 _ (mem! hr) _ (mem! hj') e2
    | true =>
      refine (h7 (by rw [hk2]; rfl) hlen).2 ?_
      have hm : wtK rem[0]! ∈ (bK true v rem don).toks := by
        have e := bK_rem true v rem don (k := 0) hr
        rw [← e]
        have hl0 : 0 < (bK true v rem don).toks.length := by rw [bK_len]; omega
        rw [getElem!_pos _ 0 hl0]
        exact List.getElem_mem hl0
      refine ⟨wtK rem[0]!, hm, by show (4 + (rem[0]! : Int)) ≠ 2; omega, 4 + rem[0]!, by show (4 + (rem[0]! : Int)) = _; omega, by rw [hp, pK_n]; omega, ?_⟩
      refine ⟨2, rfl, by rw [hp, pK_n]; omega, .one ?_⟩
      rw [hp]
      unfold bck
      have e := (flowK true hv h0).2
      have hf : 3 + 2 * rem[0]! < (pK true v).flows.length := by
        show _ < (pK true v).m
        rw [pK_m]; omega
      refine List.mem_map.2 ⟨(pK true v).flows[3 + 2 * rem[0]!]!, List.mem_filter.2 ⟨?_, ?_⟩, ?_⟩
      · rw [List.take_of_length_le (show (pK true v).flows.length ≤ (pK true v).m from Nat.le_refl _), getElem!_pos (pK true v).flows _ hf]
        exact List.getElem_mem hf
      · rw [e, Bool.and_eq_true, okF_iff, pK_n, beq_iff_eq]
        exact ⟨⟨4 + rem[0]!, 2, by show (4 + (rem[0]! : Int)) = _; omega, rfl, by omega, by omega⟩, rfl⟩
      · rw [e]
        show (4 + (rem[0]! : Int)).toNat = 4 + rem[0]!
        omega
/-- All are done: the join goes on. -/
theorem fstK (hv : v < 6) (hv2 : 2 ≤ v) (h : Kx v [] don) : Fst (bK inc v [] don) 0 := by
  have hl := h.len
  simp only [List.length_nil, Nat.zero_add] at hl
  have hp : (bK inc v [] don).p = pK inc v := rfl
  have hi2 : insB (bK inc v [] don).p ((2 : Nat) : Int) = (List.range v).map (fun i => 3 + 2 * i) := (insK inc hv hv2).2
  have hk2 : (bK inc v [] don).p.nodes[2]!.kind = kdK inc := rfl
  have hall : ∀ k, k < don.length → (bK inc v [] don).toks[k]! = ⟨(v : Int) + 3 + (k : Int), 2, 3 + 2 * (don[k]! : Int), false⟩ := fun k hk => by
    have := bK_don inc v [] don hk
    simpa using this
  have h00 := hall 0 (by omega)
  have hlen : (bK inc v [] don).toks.length = don.length := by rw [bK_len]; simp
  have hf0 : fst (atN ((2 : Nat) : Int)) (bK inc v [] don).toks = (0 : Nat) := by
    refine fst_hit (by omega) ?_ (fun j hj => absurd hj (Nat.not_lt_zero j))
    rw [h00]; rfl
  refine Rdy.fst0 ⟨0, rfl, by omega, by rw [h00], 2, by rw [h00]; rfl, by rw [hp, pK_n]; omega, by rw [hk2]; exact (kindK inc).1, fun _ _ => ⟨hf0, fun f hf => ?_⟩, fun _ _ => ⟨hf0, ?_⟩⟩
  · rw [hi2] at hf
    obtain ⟨j, hj, rfl⟩ := List.mem_map.1 hf
    have hjd : j ∈ don := by
      have := h.perm.symm.subset hj
      simpa using this
    obtain ⟨k, hk, rfl⟩ := List.mem_iff_getElem.1 hjd
    rcases fst_cases (atB ((2 : Nat) : Int) ((3 + 2 * don[k] : Nat) : Int)) (bK inc v [] don).toks with ⟨_, h3⟩ | ⟨k', h4, _⟩
    · have := h3 k (by omega)
      rw [hall k hk, getElem!_pos don k hk] at this
      unfold atB at this
      simp at this
    · omega
  · rintro ⟨t, ht, hn, _⟩
    obtain ⟨k, hk, rfl⟩ := List.mem_iff_getElem.1 ht
    have := hall k (by omega)
    rw [getElem!_pos _ k hk] at this
    rw [this] at hn
    exact hn rfl
theorem s2K (hv : v < 6) (hv2 : 2 ≤ v) (h : Kx v [] don) : bstep (bK inc v [] don) 0 = (b3K inc v, true, no, 0) := by
  have hl := h.len
  simp only [List.length_nil, Nat.zero_add] at hl
  have hp : (bK inc v [] don).p = pK inc v := rfl
  have hi2 : insB (bK inc v [] don).p ((2 : Nat) : Int) = (List.range v).map (fun i => 3 + 2 * i) := (insK inc hv hv2).2
  have hk2 : (bK inc v [] don).p.nodes[2]!.kind = kdK inc := rfl
  have hall : ∀ k, k < don.length → (bK inc v [] don).toks[k]! = ⟨(v : Int) + 3 + (k : Int), 2, 3 + 2 * (don[k]! : Int), false⟩ := fun k hk => by
    have := bK_don inc v [] don hk
    simpa using this
  have hlen : (bK inc v [] don).toks.length = don.length := by rw [bK_len]; simp
  obtain ⟨k4, k3, k2, k5⟩ := kindK inc
  have ho : outsB (bK inc v [] don).p ((2 : Nat) : Int) = [1] := (outsK0 inc hv hv2).2.2
  have hw : outWays (bK inc v [] don) 2 = (0, [1]) := by
    unfold outWays
    dsimp only
    rw [hk2, ho]
    cases inc with
    | false => rfl
    | true =>
      rw [show kdK true = 7 from rfl]
      rw [if_neg (by decide), if_neg (by decide), if_pos rfl]
      rw [choose_free (bK true v [] don) _ _ (by show (-1 : Int) < 0; decide) _ [] (fun f _ => condK true v f) (by simp)]
      rfl
  have hnd : don.Nodup := by
    have := h.nodup
    simpa using this
  have hg : ∀ k, k < (bK inc v [] don).toks.length → goes (bK inc v [] don) 0 2 k = true := by
    intro k hk
    rw [hlen] at hk
    unfold goes
    dsimp only
    rw [hk2, if_neg k3]
    cases inc with
    | true =>
      rw [if_neg (show ¬ kdK true = 6 by decide), if_pos (show kdK true = 7 from rfl), hall k hk]
      rfl
    | false =>
      rw [if_pos (show kdK false = 6 from rfl), hi2, List.contains_iff_mem]
      refine List.mem_map.2 ⟨3 + 2 * don[k]!, List.mem_map.2 ⟨don[k]!, List.mem_range.2 (h.lt (.inr (mem! hk))), rfl⟩, ?_⟩
      refine fst_hit (by omega) ?_ (fun j hj => ?_)
      · rw [hall k hk]
        unfold atB
        simp
      · rw [hall j (by omega)]
        unfold atB
        rw [Bool.eq_false_iff]
        intro h9
        rw [Bool.and_eq_true, beq_iff_eq, beq_iff_eq] at h9
        have h9 := h9.2
        dsimp only at h9
        have e : don[j]! = don[k]! := by omega
        have := nd_inj hnd (by omega) hk e
        omega
  rw [bstep_all (u := 2) (by rw [hall 0 (by omega)]; rfl) hw hg (by decide) (by rw [hk2]; exact k3)]
  have hf1 : (pK inc v).flows[1]! = ⟨2, 3, no⟩ := by rcases v6 hv hv2 with rfl | rfl | rfl | rfl <;> rfl
  have hc : come (pK inc v) [1] = [⟨0, 3, 1, false⟩] := by
    unfold come
    rw [List.map_cons, hf1]
    rfl
  rw [hp, hc]
  unfold bK b3K
  simp only [numb, List.length_singleton]
  have e : (v : Int) + 3 + (don.length : Int) = 2 * (v : Int) + 3 := by omega
  rw [e]
  rfl
theorem s3K (inc : Bool) {v : Nat} : Fst (b3K inc v) 0 ∧ bstep (b3K inc v) 0 = (b4K inc v, true, no, 0) := by
  have hk : (b3K inc v).p.nodes[3]!.kind = 2 := rfl
  refine ⟨rdy_one (u := 3) rfl rfl rfl (by show 3 < (pK inc v).n; rw [pK_n]; omega) (.inr (.inl hk)), ?_⟩
  have hw : outWays (b3K inc v) 3 = (0, []) := by
    unfold outWays
    dsimp only
    rw [hk]
    rfl
  rw [bstep_one (u := 3) (fs := []) rfl rfl hw (by decide) (.inr (.inl hk))]
  unfold b3K b4K
  simp [come, numb]
theorem atW_rem (h : Kx v rem don) {i : Nat} (hi : i ∈ rem) : atW (pK inc v) (wtK i) = true := by
  have hlt := h.lt (.inl hi)
  have hn := nodeK4 inc hlt
  unfold atW wtK
  dsimp only
  rw [show (4 + (i : Int)).toNat = 4 + i by omega, hn, pK_n]
  simp [wkS, Nd.work]
  omega
theorem waitsK (h : Kx v rem don) (mv : Nat) (fl : ByteArray) : (⟨bK inc v rem don, mv, fl⟩ : Rn).waits = rem.map wtK := by
  unfold Rn.waits
  dsimp only
  show List.filter (fun t => atW (pK inc v) t && !t.stuck) (rem.map wtK ++ numb ((v : Int) + 3) (don.map dtK)) = _
  rw [List.filter_append]
  have e1 : List.filter (fun t => atW (pK inc v) t && !t.stuck) (rem.map wtK) = rem.map wtK := by
    rw [List.filter_eq_self]
    intro t ht
    obtain ⟨i, hi, rfl⟩ := List.mem_map.1 ht
    rw [atW_rem h hi]
    rfl
  have e2 : List.filter (fun t => atW (pK inc v) t && !t.stuck) (numb ((v : Int) + 3) (don.map dtK)) = [] := by
    rw [List.filter_eq_nil_iff]
    intro t ht
    obtain ⟨k, hk, rfl⟩ := List.mem_iff_getElem.1 ht
    have hk2 : k < don.length := by rw [numb_len] at hk; simpa using hk
    have e := numb_get! ((v : Int) + 3) (don.map dtK) k (by simpa using hk2)
    rw [getElem!_pos _ k hk, getElem!_pos (don.map dtK) k (by simpa using hk2)] at e
    rw [e]
    unfold atW
    simp [dtK]
    intro _ h9
    have : kdK inc = 4 := h9
    exact absurd this (kindK inc).1
  rw [e1, e2, List.append_nil]
theorem nodup_rem (h : Kx v rem don) : rem.Nodup := (List.nodup_append.1 h.nodup).1
theorem goK (hv : v < 6) (hv2 : 2 ≤ v) (h : Kx v rem don) {k : Nat} (hk : k < rem.length) :
    goB (bK inc v rem don) (3 + (rem[k]! : Int)) (3 + 2 * (rem[k]! : Int)) = (true, bK inc v (rem.eraseIdx k) (don ++ [rem[k]!])) ∧ Kx v (rem.eraseIdx k) (don ++ [rem[k]!]) := by
  have hlt := h.lt (.inl (mem! hk))
  have hl : k < (bK inc v rem don).toks.length := by rw [bK_len]; omega
  have hidx : (bK inc v rem don).toks.findIdx? (fun t => t.id == 3 + (rem[k]! : Int)) = some k := by
    rw [List.findIdx?_eq_some_iff_getElem]
    refine ⟨hl, ?_, fun j hj => ?_⟩
    · rw [← getElem!_pos _ k hl, bK_rem inc v rem don hk]
      simp [wtK]
    · rw [← getElem!_pos _ j (by omega), bK_rem inc v rem don (by omega)]
      intro e
      have e : (3 + (rem[j]! : Int)) = 3 + (rem[k]! : Int) := by simpa only [wtK, beq_iff_eq] using e
      have := nd_inj (nodup_rem h) (i := j) (j := k) (by omega) hk (by omega)
      omega
  constructor
  · unfold goB
    rw [hidx]
    dsimp only
    have hp : (bK inc v rem don).p = pK inc v := rfl
    rw [bK_rem inc v rem don hk, hp]
    have ho : outsB (pK inc v) (wtK rem[k]!).node = [3 + 2 * rem[k]!] := by
      have := outsK4 inc hv hv2 hlt
      rwa [show (((4 + rem[k]! : Nat)) : Int) = (wtK rem[k]!).node from by show _ = 4 + (rem[k]! : Int); omega] at this
    rw [if_pos ⟨atW_rem h (mem! hk), by rw [ho]; simp⟩]
    congr 1
    rw [show (3 + 2 * (rem[k]! : Int)).toNat = 3 + 2 * rem[k]! by omega]
    unfold along moved
    rw [left_erase]
    have hc : come (pK inc v) [3 + 2 * rem[k]!] = [dtK rem[k]!] := by
      unfold come
      rw [List.map_cons, (flowK inc hv hlt).2]
      unfold dtK
      simp
    rw [hp, hc]
    unfold bK Bd.put
    dsimp only
    rw [List.eraseIdx_append_of_lt_length (by simpa using hk), List.map_append, List.map_cons, List.map_nil, numb_snoc, List.length_map, List.length_append, List.append_assoc]
    simp only [numb, List.length_singleton]
    rw [erase_map]
    congr 1
  · refine ⟨?_⟩
    refine List.Perm.trans ?_ h.perm
    have h1 : (rem[k]! :: rem.eraseIdx k).Perm rem := by
      exact erase_perm rem k hk
    have h2 : (rem.eraseIdx k ++ (don ++ [rem[k]!])).Perm (rem[k]! :: rem.eraseIdx k ++ don) := by
      rw [← List.append_assoc]
      exact List.perm_append_singleton _ _
    exact h2.trans (h1.append_right don)
end
end Pr
end Go.Proofs.YtkffnfgdmcebdaaGreatDoor
namespace Go.Proofs.YtkffnfgdmcebdaaGreatDoor
open Go.RowKit

namespace Pr
section
variable {P : Program} {α : Type} {κ : Cs α}
/-- Some elements appended to a row of one's own. -/
theorem append_kf {ops : Array Oper} {rest : List Oper} {o : Oper} {a : Act} {Q : Exit → Act → World → Prop} (hgd : o.guard = none) (s x : Operand) (t e : TypeId) (i : TypeInfo) (z : Value) (bytes : Nat)
    (ht : P.underlying t = some (.slice e)) (hi : P.info? e = some i) (hz : i.zero = some z) (hsize : i.size = κ.k) (hby : i.bytes = bytes) (hzs : z.cells.size = κ.k)
    (ho : o.op = .call { callee := .builtin .append, args := #[s, x], argTypes := #[t, t] })
    (w : World) (base B : Nat) (A : Option Addr) (n c : Nat) (l : List α) (ad : Addr) (m : Nat) (vs : List α) (hs : a.eval s = .slice A n c) (hown : OwnK κ w base e A n c l)
    (hx : a.eval x = .slice (some ad) m m) (hr : KRow κ w B (some ad) m vs) (hn : n ≤ 1000000) (hm : m ≤ 1000) (hb : bytes ≤ 1000) (hbase : base ≤ w.heap.size)
    (h : ∀ A' c' w', OwnK κ w' base e A' (n + m) c' (l ++ vs) → Grew w w' (.slice A n c) (.slice A' (n + m) c') → wpList P ops Q rest (a.put o.dst (.slice A' (n + m) c')) w') :
    wpList P ops Q (o :: rest) a w := by
  have hbb : (n + m) * bytes ≤ 140737488355328 := Nat.le_trans (Nat.mul_le_mul (show n + m ≤ 1001000 by omega) hb) (by decide)
  refine append_row hgd s x t ho e i z κ.k bytes ht hi hz hsize hby hzs hown.1 base _ n (l.flatMap κ.cs) hs hown.2 B (some ad) m m (vs.flatMap κ.cs) hx (fun h => by cases h) hr (Cs.flat_one κ vs) (by unfold maxLen; omega) hbb hbase fun v' w' h1 h2 h3 => ?_
  obtain ⟨A', c', rfl, _⟩ := own_form h1
  refine h A' c' w' ⟨hown.1, by rw [List.flatMap_append]; exact h1⟩ ⟨h2, fun g hg => ?_⟩
  rcases h3 with h3 | h3
  · exact .inl (h3.symm.trans hg)
  · rw [h3] at hg
    obtain rfl := Option.some.inj hg
    exact .inr (Nat.le_refl _)
end
theorem cel_grewf {w w' : World} {A : Option Addr} {n c : Nat} {v : Value} {q : Nat} {cs : List Value} (h : Cel w q cs) (hg : Grew w w' (.slice A n c) v) (h1 : ∀ a, A = some a → a.block ≠ q) : Cel w' q cs := h.kept hg.grown (fun e => by
  obtain ⟨a, ha, hb⟩ := blk_of e
  exact h1 a ha hb)
end Pr
end Go.Proofs.YtkffnfgdmcebdaaGreatDoor
