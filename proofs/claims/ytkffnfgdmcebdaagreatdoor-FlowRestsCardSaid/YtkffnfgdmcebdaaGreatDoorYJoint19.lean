/- Walks of package cond: the parser's next word; an error; its text; which operator stands there. Mathematics of FlowStraight: a row of Works, one token. Package flow: what the walks of its statements ask of a runner. A seed of a process that came in by value. -/
import Derived.Test.YtkffnfgdmcebdaaGreatDoorCxY
import Derived.Test.YtkffnfgdmcebdaaGreatDoorYJoint13
import Derived.Test.YtkffnfgdmcebdaaGreatDoorIqY
import Derived.Test.YtkffnfgdmcebdaaGreatDoorYJoint3
import Derived.Test.YtkffnfgdmcebdaaGreatDoorProg
import Derived.Test.YtkffnfgdmcebdaaGreatDoorYJoint18
import Derived.KernelRfl
namespace Go.Proofs.YtkffnfgdmcebdaaGreatDoor
open Go.RowKit

section
variable {E : Int → Option Addr} {w w' : World} {q d : Nat} {s : ByteArray} {st : Co.St}
theorem Co.next_err {l : List UInt8} {x : Int × Nat} (h : st.err = some x) : Co.next l st = st := by unfold Co.next; rw [h]; rfl
theorem Co.next_at {l : List UInt8} {m : Nat} (h : st.err = none) (hm : st.till ≤ m) (hml : m ≤ l.length) (ha : ∀ j, st.till ≤ j → j < m → Co.blank l[j]! = true) (hn : m = l.length ∨ Co.blank l[m]! = false) :
    Co.next l st = ⟨(Co.wordAt l m).1, (Co.wordAt l m).2.1, (Co.wordAt l m).2.2, none⟩ := by
  unfold Co.next
  rw [if_neg (by rw [h]; simp), Co.ends_eq hm hml ha hn]
theorem Co.ends_ge (p : UInt8 → Bool) (l : List UInt8) (k : Nat) : k ≤ Co.ends p l k := Nat.le_add_right _ _
theorem Co.takeWhile_le (p : UInt8 → Bool) : ∀ l : List UInt8, (l.takeWhile p).length ≤ l.length
  | [] => Nat.le_refl _
  | c :: l => by
    have := Co.takeWhile_le p l
    rw [List.takeWhile_cons]
    split
    · simp; omega
    · simp
theorem Co.ends_le {p : UInt8 → Bool} {l : List UInt8} {k : Nat} (hk : k ≤ l.length) : Co.ends p l k ≤ l.length := by
  have := Co.takeWhile_le p (l.drop k)
  unfold Co.ends
  simp at this
  omega
theorem Co.wordAt_ord {l : List UInt8} {k : Nat} (hk : k ≤ l.length) : (Co.wordAt l k).2.1 ≤ (Co.wordAt l k).2.2 ∧ (Co.wordAt l k).2.2 ≤ l.length := by
  unfold Co.wordAt
  split
  · exact ⟨Nat.le_refl _, hk⟩
  · split
    · exact ⟨Co.ends_ge _ _ _, Co.ends_le hk⟩
    · split
      · unfold Co.textAt
        have := Co.ends_ge Co.inText l (k + 1)
        split
        · rename_i h
          exact ⟨by dsimp only; omega, by dsimp only; omega⟩
        · exact ⟨Nat.le_refl _, hk⟩
      · split
        · exact ⟨Nat.le_refl _, hk⟩
        · have hm : Co.markLen (l.drop k) ≤ (l.drop k).length := by
            unfold Co.markLen
            split
            · rename_i h; omega
            · split
              · rename_i h
                have : 0 < (l.drop k).length := by simp; omega
                omega
              · omega
          simp only [List.length_drop] at hm
          exact ⟨by dsimp only; omega, by dsimp only; omega⟩

theorem PaC.cells (h : PaC E w q s st d) : ∃ ev, (w.cell? ⟨q, 0, none⟩ = some (.string s) ∧ w.cell? ⟨q, 1, none⟩ = some (.int .i64 (st.kind : Int)) ∧ w.cell? ⟨q, 2, none⟩ = some (.int .i64 (st.frm : Int)) ∧
    w.cell? ⟨q, 3, none⟩ = some (.int .i64 (st.till : Int)) ∧ w.cell? ⟨q, 4, none⟩ = some (.int .i64 (d : Int)) ∧ w.cell? ⟨q, 5, none⟩ = some ev) ∧ ErrSt E w ev st.err := by
  obtain ⟨ev, hc, he⟩ := h.ex
  exact ⟨ev, ⟨hc.cell 0 _ rfl, hc.cell 1 _ rfl, hc.cell 2 _ rfl, hc.cell 3 _ rfl, hc.cell 4 _ rfl, hc.cell 5 _ rfl⟩, he⟩
theorem PaC.froz (h : PaC E w q s st d) {i : Nat} (hi : i < 6) : w.frozen? ⟨q, i, none⟩ = false := by
  obtain ⟨ev, hc, he⟩ := h.ex
  exact hc.froz i hi

set_option maxHeartbeats 1600000 in
theorem cnext_any (h : PaC E w q s st d) :
    Calls Tryz.prog 145 #[.pointer (some ⟨q, 0, none⟩)] w fun x w' => x = .returned (.tuple #[]) ∧ PaC E w' q s (Co.next s.data.toList st) d ∧ w.grownBy w' (some q) := by
  obtain ⟨ev, ⟨c0, c1, c2, c3, c4, c5⟩, he⟩ := h.cells
  have f1 := h.froz (i := 1) (by decide)
  have f2 := h.froz (i := 2) (by decide)
  have f3 := h.froz (i := 3) (by decide)
  have hsz := h.size
  have htop := h.top
  have H := Lib.hid h
  have HL : Hid (s.data.toList.length = s.size) := by simp [Hid]
  cases hst : st.err with
  | some x =>
    rw [hst] at he
    obtain ⟨c, k⟩ := x
    obtain ⟨b, a, rfl, hka, hcn, hb⟩ := he
    rw [Co.next_err hst]
    unfold atV at c5
    clear c0 c1 c2 c3 c4 f1 f2 f3 hb h hst
    go_enter Tryz.func145, Tryz.ntmps145
    go_wp2
    try simp only [Exit.inBlock, Exit.then]
    first | (refine bodyPost_ret (results_none rfl _ _ _) rfl ?_) | (refine bodyPost_end (results_none rfl _ _ _) rfl ?_)
    exact ⟨rfl, H.out, World.grownBy.refl _ _⟩
  | none =>
    rw [hst] at he
    obtain rfl : ev = .nilIface := he
    have HN := Lib.hid (@Co.next_at st s.data.toList · hst)
    clear h hst
    go_enter Tryz.func145, Tryz.ntmps145
    go_wp2_with fail
    go_loop [2] (fun i => ∃ m : Nat, st.till ≤ m ∧ m ≤ s.size ∧ i = .int .i64 m ∧ Hid (∀ j, st.till ≤ j → j < m → Co.blank s.data.toList[j]! = true)) (fun i => s.size - (intOf i).toNat)
    case atStart => exact ⟨st.till, Nat.le_refl _, by omega, rfl, fun j h1 h2 => by omega⟩
    case round =>
      obtain ⟨m, hm1, hm, rfl, hall⟩ := hrel
      have FIN : ∀ hn : m = s.size ∨ Co.blank s.data.toList[m]! = false, Hid (Co.next s.data.toList st = ⟨(Co.wordAt s.data.toList m).1, (Co.wordAt s.data.toList m).2.1, (Co.wordAt s.data.toList m).2.2, none⟩) := fun hn =>
        HN.out m hm1 (by rw [HL.out]; exact hm) hall.out (by rw [HL.out]; exact hn)
      have HO := Lib.hid (@Co.wordAt_ord s.data.toList m (by rw [HL.out]; exact hm))
      have HX := Lib.hid (cwordAt_any s m w hm hsz)
      unfold wordV at HX
      by_cases hmlt : m < s.size
      · have hat := at_list s m hmlt
        have hbl : Co.blank s[m] = true ↔ (s[m].toNat : Int) = 32 := by unfold Co.blank; simp; omega
        have HB := Lib.hid hbl
        have HA := Lib.hid hat
        clear hbl hat
        by_cases h32 : (s[m].toNat : Int) = 32
        · have HE : Hid (Co.blank s.data.toList[m]! = true) := by rw [HA.out, HB.out]; exact h32
          clear FIN
          go_wp2_with fail
          go_round
          case measure => simp [intOf]; omega
          case rel =>
            refine ⟨m + 1, by omega, by omega, by go_num, fun j hj hjm => ?_⟩
            by_cases e : j = m
            · subst e; exact HE.out
            · exact hall.out j hj (by omega)
        · have HE := FIN (.inr (by rw [HA.out, Bool.eq_false_iff, ne_eq, HB.out]; exact h32))
          clear FIN
          generalize Co.wordAt s.data.toList m = r at *
          go_wp2_with fail
          refine HX.out.mono ?_
          rintro e w2 ⟨rfl, hb2⟩
          have H2 := Lib.hid (H.out.below hb2 (Nat.le_refl _))
          obtain ⟨_, ⟨_, d1, d2, d3, _, _⟩, _⟩ := H2.out.cells
          have g1 := H2.out.froz (i := 1) (by decide)
          have g2 := H2.out.froz (i := 2) (by decide)
          have g3 := H2.out.froz (i := 3) (by decide)
          go_wp2
          try simp only [Exit.inBlock, Exit.then]
          first | (refine bodyPost_ret (results_none rfl _ _ _) rfl ?_) | (refine bodyPost_end (results_none rfl _ _ _) rfl ?_)
          obtain ⟨ev, hc, he'⟩ := H2.out.ex
          have hgr : w.grownBy w2 (some q) := grown_of (World.grownBy.refl _ _) hb2 (Nat.le_refl _)
          refine ⟨rfl, ⟨⟨.nilIface, ?_, ?_⟩, ?_, ?_, hsz⟩, set_grown (set_grown (set_grown hgr 1 _) 2 _) 3 _⟩
          · rw [HE.out]
            have h5 : ev = .nilIface := by
              have := (hc.cell 5 _ rfl).symm.trans ((below_cells hb2 c5))
              exact Option.some.inj this
            subst h5
            exact ((hc.set (i := 1) (by simp) _).set (i := 2) (by simp) _).set (i := 3) (by simp) _
          · rw [HE.out]; exact rfl
          · rw [HE.out]; exact HO.out.1
          · rw [HE.out]; rw [← HL.out]; exact HO.out.2
      · obtain rfl : m = s.size := by omega
        have HE := FIN (.inl rfl)
        clear FIN
        generalize Co.wordAt s.data.toList s.size = r at *
        go_wp2_with fail
        refine HX.out.mono ?_
        rintro e w2 ⟨rfl, hb2⟩
        have H2 := Lib.hid (H.out.below hb2 (Nat.le_refl _))
        obtain ⟨_, ⟨_, d1, d2, d3, _, _⟩, _⟩ := H2.out.cells
        have g1 := H2.out.froz (i := 1) (by decide)
        have g2 := H2.out.froz (i := 2) (by decide)
        have g3 := H2.out.froz (i := 3) (by decide)
        go_wp2
        try simp only [Exit.inBlock, Exit.then]
        first | (refine bodyPost_ret (results_none rfl _ _ _) rfl ?_) | (refine bodyPost_end (results_none rfl _ _ _) rfl ?_)
        obtain ⟨ev, hc, he'⟩ := H2.out.ex
        have hgr : w.grownBy w2 (some q) := grown_of (World.grownBy.refl _ _) hb2 (Nat.le_refl _)
        refine ⟨rfl, ⟨⟨.nilIface, ?_, ?_⟩, ?_, ?_, hsz⟩, set_grown (set_grown (set_grown hgr 1 _) 2 _) 3 _⟩
        · rw [HE.out]
          have h5 : ev = .nilIface := by
            have := (hc.cell 5 _ rfl).symm.trans ((below_cells hb2 c5))
            exact Option.some.inj this
          subst h5
          exact ((hc.set (i := 1) (by simp) _).set (i := 2) (by simp) _).set (i := 3) (by simp) _
        · rw [HE.out]; exact rfl
        · rw [HE.out]; exact HO.out.1
        · rw [HE.out]; rw [← HL.out]; exact HO.out.2
end
end Go.Proofs.YtkffnfgdmcebdaaGreatDoor
namespace Go.Proofs.YtkffnfgdmcebdaaGreatDoor
open Go.RowKit

namespace Pr
def wkS : Nd := Nd.work (bs [116]) 0 1
def nodesS0 (j : Nat) : List Nd := [Nd.plain 1] ++ List.replicate j wkS
def flowsS0 (j : Nat) : List Fl := (List.range j).map fun (i : Nat) => ⟨(i : Int), (i : Int) + 1, no⟩
def nodesS (v : Nat) : List Nd := nodesS0 v ++ [Nd.plain 2]
def pS (v : Nat) : P := ⟨bs [112], nodesS v, flowsS0 (v + 1)⟩
def bS (v : Nat) (vars : List Vr.V) (i : Nat) : Bd := ⟨pS v, vars, [⟨(i : Int) + 1, (i : Int), (i : Int) - 1, false⟩], (i : Int) + 2⟩
/-- At its end. -/
def bE (v : Nat) (vars : List Vr.V) : Bd := ⟨pS v, vars, [], (v : Int) + 3⟩
theorem nodesS0_snoc (j : Nat) : nodesS0 (j + 1) = nodesS0 j ++ [wkS] := by
  unfold nodesS0
  rw [List.replicate_succ', ← List.append_assoc]
theorem flowsS0_snoc (j : Nat) : flowsS0 (j + 1) = flowsS0 j ++ [⟨(j : Int), (j : Int) + 1, no⟩] := by
  unfold flowsS0
  rw [List.range_succ, List.map_append]
  rfl
theorem nodesS0_len (j : Nat) : (nodesS0 j).length = j + 1 := by
  unfold nodesS0
  simp
theorem flowsS0_len (j : Nat) : (flowsS0 j).length = j := by
  unfold flowsS0
  simp
theorem pS_n (v : Nat) : (pS v).n = v + 2 := by
  show (nodesS v).length = v + 2
  unfold nodesS
  rw [List.length_append, nodesS0_len]
  rfl
theorem pS_m (v : Nat) : (pS v).m = v + 1 := flowsS0_len (v + 1)
theorem kindS : ∀ v, v < 21 → ∀ i, i < 22 → (pS v).nodes[i]!.kind = if i = 0 then 1 else if i ≤ v then 4 else if i = v + 1 then 2 else 0 := by decide +kernel
theorem outsS : ∀ v, v < 21 → ∀ i, i < 21 → i ≤ v → outsB (pS v) ((i : Nat) : Int) = [i] := by decide +kernel
theorem flowS {v f : Nat} (h : f ≤ v) : (pS v).flows[f]! = ⟨(f : Int), (f : Int) + 1, no⟩ := by
  show (flowsS0 (v + 1))[f]! = _
  rw [getElem!_pos _ f (by rw [flowsS0_len]; omega)]
  unfold flowsS0
  simp
theorem condS (v f : Nat) : (pS v).flows[f]!.cond = no := by
  by_cases h : f ≤ v
  · rw [flowS h]
  · show (flowsS0 (v + 1))[f]!.cond = no
    rw [getElem!_neg _ f (by rw [flowsS0_len]; omega)]
    rfl
theorem startS (v : Nat) (vars : List Vr.V) (hv : v < 21) : Fst (bS v vars 0) 0 ∧ bstep (bS v vars 0) 0 = (bS v vars 1, true, no, 0) := by
  have hk : (bS v vars 0).p.nodes[0]!.kind = 1 := by
    have := kindS v hv 0 (by decide)
    rwa [if_pos rfl] at this
  refine ⟨rdy_one (u := 0) rfl rfl rfl (by show 0 < (pS v).n; rw [pS_n]; omega) (.inl hk), ?_⟩
  have hw : outWays (bS v vars 0) 0 = (0, [0]) := by
    unfold outWays
    dsimp only
    rw [hk]
    have := outsS v hv 0 (by decide) (Nat.zero_le _)
    rw [show (bS v vars 0).p = pS v from rfl, this]
    rfl
  rw [bstep_one (u := 0) (fs := [0]) rfl rfl hw (by decide) (.inl hk)]
  have hc : come (bS v vars 0).p [0] = [⟨0, 1, 0, false⟩] := by
    unfold come
    rw [show (bS v vars 0).p = pS v from rfl, List.map_cons, flowS (Nat.zero_le v)]
    rfl
  rw [hc]
  rfl
theorem endS (v : Nat) (vars : List Vr.V) (hv : v < 21) : Fst (bS v vars (v + 1)) 0 ∧ bstep (bS v vars (v + 1)) 0 = (bE v vars, true, no, 0) := by
  have hk : (bS v vars (v + 1)).p.nodes[v + 1]!.kind = 2 := by
    have := kindS v hv (v + 1) (by omega)
    rwa [if_neg (by omega), if_neg (by omega), if_pos rfl] at this
  refine ⟨rdy_one (u := v + 1) rfl rfl rfl (by show v + 1 < (pS v).n; rw [pS_n]; omega) (.inr (.inl hk)), ?_⟩
  have hw : outWays (bS v vars (v + 1)) (v + 1) = (0, []) := by
    unfold outWays
    dsimp only
    rw [hk]
    rfl
  rw [bstep_one (u := v + 1) (fs := []) rfl rfl hw (by decide) (.inr (.inl hk))]
  have h3 : ((v + 1 : Nat) : Int) + 2 + (([] : List Nat).length : Int) = (v : Int) + 3 := by
    simp only [List.length_nil]
    omega
  show (({ p := pS v, vars := vars, toks := [], next := ((v + 1 : Nat) : Int) + 2 + (([] : List Nat).length : Int) } : Bd), true, no, (0 : Int)) = _
  rw [h3]
  rfl
theorem restS (v : Nat) (vars : List Vr.V) (hv : v < 21) {i : Nat} (h1 : 1 ≤ i) (h2 : i ≤ v) : Rest (bS v vars i) := by
  refine rest_work fun k hk => ?_
  have hk : k < 1 := hk
  obtain rfl : k = 0 := by omega
  refine ⟨i, rfl, ?_⟩
  have := kindS v hv i (by omega)
  rwa [if_neg (by omega), if_pos h2] at this
theorem workS (v : Nat) (hv : v < 21) {i : Nat} (h1 : 1 ≤ i) (h2 : i ≤ v) : atW (pS v) ⟨(i : Int) + 1, (i : Int), (i : Int) - 1, false⟩ = true := by
  unfold atW
  have := kindS v hv i (by omega)
  rw [if_neg (by omega), if_pos h2] at this
  dsimp only
  rw [Int.toNat_natCast, this, pS_n]
  simp
  omega
theorem waitsS (v : Nat) (vars : List Vr.V) (hv : v < 21) {i : Nat} (h1 : 1 ≤ i) (h2 : i ≤ v) (mv : Nat) (fl : ByteArray) : (⟨bS v vars i, mv, fl⟩ : Rn).waits = [⟨(i : Int) + 1, (i : Int), (i : Int) - 1, false⟩] := by
  show List.filter _ [_] = _
  rw [List.filter_cons, show (bS v vars i).p = pS v from rfl, workS v hv h1 h2]
  rfl
theorem goS (v : Nat) (vars : List Vr.V) (hv : v < 21) {i : Nat} (h1 : 1 ≤ i) (h2 : i ≤ v) : goB (bS v vars i) ((i : Int) + 1) (i : Int) = (true, bS v vars (i + 1)) := by
  have hf : (bS v vars i).toks.findIdx? (fun t => t.id == (i : Int) + 1) = some 0 := by
    show List.findIdx? _ [_] = _
    rw [List.findIdx?_cons]
    simp
  unfold goB
  rw [hf]
  dsimp only
  have ho := outsS v hv i (by omega) h2
  have hmem : (i : Int) ∈ (outsB (pS v) ((i : Nat) : Int)).map Int.ofNat := by rw [ho]; simp
  rw [if_pos ⟨workS v hv h1 h2, hmem⟩, Int.toNat_natCast]
  have hc : come (pS v) [i] = [⟨0, (i : Int) + 1, (i : Int), false⟩] := by
    unfold come
    rw [List.map_cons, flowS h2]
    rfl
  unfold along moved
  rw [left_none (l := (bS v vars i).toks) (g := fun j => decide (j = 0)) (fun k hk => by
    have hk : k < 1 := hk
    simp
    omega)]
  rw [show (bS v vars i).p = pS v from rfl, hc]
  unfold Bd.put bS
  simp only [List.nil_append, numb, List.length_singleton]
  congr 1
  have e1 : ((i + 1 : Nat) : Int) = (i : Int) + 1 := by omega
  rw [e1]
  have e2 : (i : Int) + 2 + ((1 : Nat) : Int) = (i : Int) + 1 + 2 := by omega
  have e3 : (i : Int) + 1 + 1 = (i : Int) + 2 := by omega
  have e4 : (i : Int) + 1 - 1 = (i : Int) := by omega
  rw [e2, e3, e4]
theorem goS_no (v : Nat) (vars : List Vr.V) (hv : v < 21) {i : Nat} (h2 : i ≤ v) {f : Int} (hf : f ≠ (i : Int)) : goB (bS v vars i) ((i : Int) + 1) f = (false, bS v vars i) := by
  have hx : (bS v vars i).toks.findIdx? (fun t => t.id == (i : Int) + 1) = some 0 := by
    show List.findIdx? _ [_] = _
    rw [List.findIdx?_cons]
    simp
  unfold goB
  rw [hx]
  dsimp only
  have ho := outsS v hv i (by omega) h2
  rw [if_neg]
  rintro ⟨_, h⟩
  have h : f ∈ (outsB (pS v) ((i : Nat) : Int)).map Int.ofNat := h
  rw [ho] at h
  simp at h
  exact hf h
theorem asc_one (t : Tk) : Asc [t] := List.pairwise_singleton _ _
theorem okS (v : Nat) (vars : List Vr.V) (hv : v < 21) (hl : vars.length ≤ 100000) {i : Nat} (hi : i ≤ v + 1) {most : Nat} (hm : most ≤ 1000) : Ok (bS v vars i) most := by
  have hp : (bS v vars i).p = pS v := rfl
  refine ⟨⟨asc_one _, fun t ht => ?_⟩, by rw [hp, pS_n]; omega, by rw [hp, pS_m]; omega, hl, by show 1 ≤ 100000; decide, by show (0 : Int) ≤ (i : Int) + 2; omega, ?_⟩
  · obtain rfl := List.mem_singleton.1 ht
    show (i : Int) + 1 < (i : Int) + 2
    omega
  · rw [hp, pS_m]
    show (i : Int) + 2 + (most : Int) * (((v + 1 : Nat) : Int) + 1) ≤ 1000000000
    have h1 : (most : Int) * (((v + 1 : Nat) : Int) + 1) ≤ 1000 * (((v + 1 : Nat) : Int) + 1) := Int.mul_le_mul_of_nonneg_right (by omega) (by omega)
    omega
end Pr
end Go.Proofs.YtkffnfgdmcebdaaGreatDoor
namespace Go.Proofs.YtkffnfgdmcebdaaGreatDoor
open Go.RowKit

namespace Pr
/-- It goes on till nothing is ready. -/
theorem frun_to (E : Int → Option Addr) (q : Nat) (x : BdV) (r r2 : Rn) (w0 w : World) (most : Int) (n : Nat) (h : RnC w q x r) (hb0 : Below w0.heap.size w0 w) (hq : w0.heap.size ≤ q) (hE : Env E w0 r.b.p r.b.vars) (ho : Ok r.b (lim most)) (hm : r.moves ≤ 900000000) (hmv : Mv2 r n r2) (hr : Rest r2.b) (hn : n ≤ lim most) :
    Calls Tryz.prog 27 #[.pointer (some ⟨q, 0, none⟩), .int .i64 most] w fun e w' => e = .returned (.bool true) ∧ (∃ x', RnC w' q x' r2) ∧ w.grownBy w' (some q) := by
  refine (frun_any E q x r w0 w most 0 h hb0 hq hE ho hm).mono ?_
  rintro e w' ⟨⟨ok, x', r', rfl, hc, hrt⟩, hg⟩
  obtain ⟨rfl, rfl⟩ := hrt.to hmv hr hn
  exact ⟨rfl, ⟨x', hc⟩, hg⟩
/-- It is stopped at its bound. -/
theorem frun_out (E : Int → Option Addr) (q : Nat) (x : BdV) (r r1 : Rn) (w0 w : World) (most : Int) (h : RnC w q x r) (hb0 : Below w0.heap.size w0 w) (hq : w0.heap.size ≤ q) (hE : Env E w0 r.b.p r.b.vars) (ho : Ok r.b (lim most)) (hm : r.moves ≤ 900000000) (hmv : Mv2 r (lim most) r1) (hr : ¬ Rest r1.b) :
    Calls Tryz.prog 27 #[.pointer (some ⟨q, 0, none⟩), .int .i64 most] w fun e w' => e = .returned (.bool false) ∧ (∃ x', RnC w' q x' { r1 with b := stops r1.b }) ∧ w.grownBy w' (some q) := by
  refine (frun_any E q x r w0 w most 0 h hb0 hq hE ho hm).mono ?_
  rintro e w' ⟨⟨ok, x', r', rfl, hc, hrt⟩, hg⟩
  obtain ⟨rfl, rfl⟩ := hrt.out hmv hr
  exact ⟨rfl, ⟨x', hc⟩, hg⟩
theorem adv_of {r : Rn} {k : Nat} {b : Bd} (h : bstep r.b k = (b, true, no, 0)) : adv r k = ⟨b, r.moves + 1, r.failed⟩ := by
  unfold adv
  rw [h]
  rfl
theorem Mv2.of {r r2 : Rn} {k n : Nat} {b : Bd} (hf : Fst r.b k) (h : bstep r.b k = (b, true, no, 0)) (hn : Mv2 ⟨b, r.moves + 1, r.failed⟩ n r2) : Mv2 r (n + 1) r2 :=
  .succ hf (by rw [adv_of h]; exact hn)
/-- An environment without conditions. -/
theorem env_free {E : Int → Option Addr} {w0 : World} (h1 : ErrIn w0 E 116 2) (h2 : ErrIn w0 E 104 1) {p : P} (hp : ∀ f : Nat, p.flows[f]!.cond = no) (vars : List Vr.V) : Env E w0 p vars :=
  ⟨h1, h2, fun f => .inl (by rw [hp f]; rfl)⟩
theorem coErrsE9 {W : World} {ads : List Addr} (hE : Errs W 254 sents9 ads) (hW : CoWords W) : CoErrsE W (errMap pos9 ads) where
  e105 := errIn_of hE 105 1 _ rfl rfl
  e111 := errIn_of hE 111 5 _ rfl rfl
  e112 := errIn_of hE 112 6 _ rfl rfl
  words := hW
  e108 := errIn_of hE 108 3 _ rfl rfl
  e110 := errIn_of hE 110 4 _ rfl rfl
  e113 := errIn_of hE 113 7 _ rfl rfl
/-- A row of one's own that was just laid. -/
theorem own_lit_kf {α : Type} {κ : Cs α} (w : World) (t : TypeId) (l : List α) (cs : Array Value) (hk : 0 < κ.k) (hc : cs.toList = l.flatMap κ.cs) (hl : l.length ≤ maxLen) : OwnK κ (w.alloc (.cells cs t)) w.heap.size t (some ⟨w.heap.size, 0, none⟩) l.length l.length l := by
  refine ⟨hk, ?_⟩
  have hsz : cs.size = l.length * κ.k := by rw [← Array.length_toList, hc, Cs.flat_len]
  have h := World.ownsRow_lit (e := t) (size := κ.k) (base := w.heap.size) w cs l.length (Nat.le_refl _) hl hsz
  rw [hc] at h
  exact h
/-- A node's eight cells are written. -/
def nd8 (w : World) (b o : Nat) (x : Nd) : World := (((((((w.setCell ⟨b, o, none⟩ (.int .i64 x.kind)).setCell ⟨b, o + 1, none⟩ (.string x.topic)).setCell ⟨b, o + 2, none⟩ (.int .i64 x.prio)).setCell ⟨b, o + 3, none⟩ (.int .i64 x.retr)).setCell ⟨b, o + 4, none⟩ (.int .i64 x.dflt)).setCell ⟨b, o + 5, none⟩ (.string x.code)).setCell ⟨b, o + 6, none⟩ (.string x.caught)).setCell ⟨b, o + 7, none⟩ (.int .i64 x.tgt)
theorem nd8_grown (w : World) (b o : Nat) (x : Nd) : w.grownBy (nd8 w b o x) (some b) := set_grown (set_grown (set_grown (set_grown (set_grown (set_grown (set_grown (set_grown (World.grownBy.refl _ _) _ _) _ _) _ _) _ _) _ _) _ _) _ _) _ _
theorem nd8_below {B : Nat} {a w : World} (h : Below B a w) {b : Nat} (hb : B ≤ b) (o : Nat) (x : Nd) : Below B a (nd8 w b o x) := (((((((h.setCell hb _).setCell hb _).setCell hb _).setCell hb _).setCell hb _).setCell hb _).setCell hb _).setCell hb _
theorem own_nd8 {w : World} {base g n c : Nat} {l : List Nd} (h : OwnK Nd.κ w base 44 (some ⟨g, 0, none⟩) n c l) {j : Nat} (hj : j < l.length) (x : Nd) : OwnK Nd.κ (nd8 w g (j * 8) x) base 44 (some ⟨g, 0, none⟩) n c (l.modify j fun _ => x) := by
  have h0 := h.set (fun y : Nd => { y with kind := x.kind }) 0 (.int .i64 x.kind) (by decide) (fun _ => rfl) (j := j) hj
  have h1 := h0.set (fun y : Nd => { y with topic := x.topic }) 1 (.string x.topic) (by decide) (fun _ => rfl) (j := j) (by simpa using hj)
  have h2 := h1.set (fun y : Nd => { y with prio := x.prio }) 2 (.int .i64 x.prio) (by decide) (fun _ => rfl) (j := j) (by simpa using hj)
  have h3 := h2.set (fun y : Nd => { y with retr := x.retr }) 3 (.int .i64 x.retr) (by decide) (fun _ => rfl) (j := j) (by simpa using hj)
  have h4 := h3.set (fun y : Nd => { y with dflt := x.dflt }) 4 (.int .i64 x.dflt) (by decide) (fun _ => rfl) (j := j) (by simpa using hj)
  have h5 := h4.set (fun y : Nd => { y with code := x.code }) 5 (.string x.code) (by decide) (fun _ => rfl) (j := j) (by simpa using hj)
  have h6 := h5.set (fun y : Nd => { y with caught := x.caught }) 6 (.string x.caught) (by decide) (fun _ => rfl) (j := j) (by simpa using hj)
  have h7 := h6.set (fun y : Nd => { y with tgt := x.tgt }) 7 (.int .i64 x.tgt) (by decide) (fun _ => rfl) (j := j) (by simpa using hj)
  have e : ((((((((l.modify j fun y : Nd => { y with kind := x.kind }).modify j fun y : Nd => { y with topic := x.topic }).modify j fun y : Nd => { y with prio := x.prio }).modify j fun y : Nd => { y with retr := x.retr }).modify j fun y : Nd => { y with dflt := x.dflt }).modify j fun y : Nd => { y with code := x.code }).modify j fun y : Nd => { y with caught := x.caught }).modify j fun y : Nd => { y with tgt := x.tgt }) = l.modify j fun _ => x := by
    apply List.ext_getElem
    · simp
    · intro k h1 h2
      simp only [List.getElem_modify]
      split <;> rfl
  rw [e] at h7
  exact h7
end Pr
end Go.Proofs.YtkffnfgdmcebdaaGreatDoor
namespace Go.Proofs.YtkffnfgdmcebdaaGreatDoor
open Go.ChangeShapes Go.WideShapes Go.RowKit

theorem open_row1c {α : Type} [Inhabited α] {H : Type} {enc : TypeId × Value → H} {P : Program} {W : World} {t e : TypeId} {cs : List Value} {fuel : Nat} {x : DataW H × List MemPlace}
    (f : α → Value) (ok : α → Prop) (ht : P.underlying t = some (.slice e)) (hc : P.cellsOf e = 1)
    (hel : ∀ n V x, DataW.trod enc P W 0 (fun _ => true) true n e [V] = some x → ∃ y, V = f y ∧ ok y)
    (hf : DataW.trod enc P W 0 (fun _ => true) true fuel t cs = some x) : ∃ (a : Option Addr) (len cap : Nat) (l : List α), cs = [.slice a len cap] ∧ InRow W 1 a len cap (l.map f) ∧ ∀ y ∈ l, ok y := by
  have key : ∃ a len cap, cs = [Value.slice a len cap] := by
    rcases Deep.open_slice1 ht hc hf with ⟨hcs, _⟩ | ⟨x, l, c, m, n, V, D, Pl, hcs, _⟩
    · exact ⟨_, _, _, hcs⟩
    · exact ⟨_, _, _, hcs⟩
  obtain ⟨a, len, cap, rfl⟩ := key
  obtain ⟨l, h1, h2⟩ := open_row1 (d := x.1) (ps := x.2) f ok ht hc hel ⟨fuel, hf⟩
  exact ⟨a, len, cap, l, rfl, h1, h2⟩
theorem open_ints64c {H : Type} {enc : TypeId × Value → H} {P : Program} {W : World} {t e : TypeId} {cs : List Value} {fuel : Nat} {x : DataW H × List MemPlace}
    (ht : P.underlying t = some (.slice e)) (he : P.underlying e = some (.int .i64)) (hc : P.cellsOf e = 1) (hf : DataW.trod enc P W 0 (fun _ => true) true fuel t cs = some x) :
    ∃ (a : Option Addr) (len cap : Nat) (l : List Int), cs = [.slice a len cap] ∧ InRow W 1 a len cap (l.map (Value.int .i64)) ∧ ∀ y ∈ l, -9223372036854775808 ≤ y ∧ y ≤ 9223372036854775807 :=
  open_row1c (Value.int .i64) _ ht hc (fun n V x hx => by
    obtain ⟨y, h1, _, h2⟩ := DataW.trod_int he hx
    have := bounds_i64 h2
    exact ⟨y, by simpa using h1, by omega⟩) hf

/-- A seed as plain data, and where its rows lie. -/
structure SeedV where
  name : ByteArray
  KA : Option Addr
  kn : Nat
  kc : Nat
  EA : Option Addr
  en : Nat
  ec : Nat
  MA : Option Addr
  mn : Nat
  mc : Nat
  ks : List Int
  es : List Int
  ms : List Int
def SeedV.val (s : SeedV) : Value := .agg #[.string s.name, .slice s.KA s.kn s.kc, .slice s.EA s.en s.ec, .slice s.MA s.mn s.mc]
def i64s (l : List Int) : Prop := ∀ y ∈ l, -9223372036854775808 ≤ y ∧ y ≤ 9223372036854775807
structure InSeed (w : World) (s : SeedV) : Prop where
  name : s.name.size ≤ maxLen
  k : InRow w 1 s.KA s.kn s.kc (s.ks.map (Value.int .i64))
  e : InRow w 1 s.EA s.en s.ec (s.es.map (Value.int .i64))
  m : InRow w 1 s.MA s.mn s.mc (s.ms.map (Value.int .i64))
  kb : i64s s.ks
  eb : i64s s.es
  mb : i64s s.ms
theorem trod_seed {H : Type} {enc : TypeId × Value → H} {W : World} {fuel : Nat} {c0 c1 c2 c3 : Value} {x : DataW H × List MemPlace}
    (h : DataW.trod enc Tryz.prog W 0 (fun _ => true) true fuel 24 [c0, c1, c2, c3] = some x) : ∃ s : SeedV, [c0, c1, c2, c3] = [.string s.name, .slice s.KA s.kn s.kc, .slice s.EA s.en s.ec, .slice s.MA s.mn s.mc] ∧ InSeed W s := by
  have cs' : Tryz.prog.cellsOf 9 = 1 := by kernel_rfl
  have ci' : Tryz.prog.cellsOf 22 = 1 := by kernel_rfl
  obtain ⟨xs, k, hk, hxy, _, hxl, hfd⟩ := DataW.trod_struct Tryz.underlying24 h
  match xs, hxl with
  | [y0, y1, y2, y3], _ =>
    have g0 := hfd 0 _ rfl
    have g1 := hfd 1 _ rfl
    have g2 := hfd 2 _ rfl
    have g3 := hfd 3 _ rfl
    simp [cs', ci'] at g0 g1 g2 g3
    obtain ⟨s0, q0, _, b0⟩ := DataW.trod_string Tryz.underlying9 g0
    obtain ⟨a1, n1, p1, l1, q1, r1, b1⟩ := open_ints64c Tryz.underlying22 Tryz.underlying3 (by kernel_rfl) g1
    obtain ⟨a2, n2, p2, l2, q2, r2, b2⟩ := open_ints64c Tryz.underlying22 Tryz.underlying3 (by kernel_rfl) g2
    obtain ⟨a3, n3, p3, l3, q3, r3, b3⟩ := open_ints64c Tryz.underlying22 Tryz.underlying3 (by kernel_rfl) g3
    simp only [List.cons.injEq, and_true] at q0 q1 q2 q3
    subst q0; subst q1; subst q2; subst q3
    exact ⟨⟨s0, a1, n1, p1, a2, n2, p2, a3, n3, p3, l1, l2, l3⟩, rfl, ⟨b0, r1, r2, r3, b1, b2, b3⟩⟩
set_option maxRecDepth 100000 in
theorem open_seed {H : Type} {enc : TypeId × Value → H} {W : World} {r : Reach} {b0 : Nat} {v : Value} {d : DataW H} {ps : List MemPlace}
    (hv : Value.okWide Tryz.prog W r b0 24 v) (h : DataW.Trod enc Tryz.prog W 0 (fun _ => true) true 24 v d ps) : ∃ s : SeedV, v = s.val ∧ InSeed W s := by
  have hu := Tryz.underlying24
  have ⟨cs, he, hsz⟩ := okWide_struct hu hv
  subst he
  clear hu
  have ce : Tryz.prog.cellsOf 24 = 4 := by kernel_rfl
  obtain ⟨l⟩ := cs
  have h4 : l.length = 4 := by rw [ce] at hsz; simpa using hsz
  clear hv hsz ce
  obtain ⟨c0, c1, c2, c3, rfl⟩ : ∃ c0 c1 c2 c3, l = [c0, c1, c2, c3] := by
    match l, h4 with
    | [c0, c1, c2, c3], _ => exact ⟨_, _, _, _, rfl⟩
  · obtain ⟨fuel, hf⟩ := h
    obtain ⟨x, hx, hi⟩ := trod_seed hf
    refine ⟨x, ?_, hi⟩
    simp only [List.cons.injEq, and_true] at hx
    obtain ⟨rfl, rfl, rfl, rfl⟩ := hx
    rfl
end Go.Proofs.YtkffnfgdmcebdaaGreatDoor
