/- Walks of package cond: the parser's next word; an error; its text; which operator stands there. An expression's six cells. Package token: stepped. Mathematics of TokenMany: a fork of so many ways, tokens at its Work. Mathematics of TokenJoins: a fork of so many ways and its join. -/
import Derived.Test.YtlmlhjepolefaaaGreatDoorCxY
import Derived.Test.YtlmlhjepolefaaaGreatDoorYTokenChoices2
import Derived.Test.YtlmlhjepolefaaaGreatDoorZjY
import Derived.Test.YtlmlhjepolefaaaGreatDoorZkY
import Derived.Test.YtlmlhjepolefaaaGreatDoorYTokenChoices4
import Derived.Test.YtlmlhjepolefaaaGreatDoorZgY
namespace Go.Proofs.YtlmlhjepolefaaaGreatDoor
open Go.RowKit

section
variable {E : Int → Option Addr} {w w' : World} {q d : Nat} {s : ByteArray} {st : Co.St}
theorem Co.next_err {l : List UInt8} {x : Int × Nat} (h : st.err = some x) : Co.next l st = st := by unfold Co.next; rw [h]; rfl
theorem Co.next_at {l : List UInt8} {m : Nat} (h : st.err = none) (hm : st.till ≤ m) (hml : m ≤ l.length) (ha : ∀ j, st.till ≤ j → j < m → Co.blank l[j]! = true) (hn : m = l.length ∨ Co.blank l[m]! = false) :
    Co.next l st = ⟨(Co.wordAt l m).1, (Co.wordAt l m).2.1, (Co.wordAt l m).2.2, none⟩ := by
  unfold Co.next
  rw [if_neg (by rw [h]; simp), Co.ends_eq hm hml ha hn]
theorem Co.ends_ge (p : UInt8 → Bool) (l : List UInt8) (k : Nat) : k ≤ Co.ends p l k := Nat.le_add_right _ _
theorem Co.takeWhile_le (p : UInt8 → Bool) : ∀ l : List UInt8, (l.takeWhile p).length ≤ l.length
  | [] => Nat.le_refl _
  | c :: l => by
    have := Co.takeWhile_le p l
    rw [List.takeWhile_cons]
    split
    · simp; omega
    · simp
theorem Co.ends_le {p : UInt8 → Bool} {l : List UInt8} {k : Nat} (hk : k ≤ l.length) : Co.ends p l k ≤ l.length := by
  have := Co.takeWhile_le p (l.drop k)
  unfold Co.ends
  simp at this
  omega
theorem Co.wordAt_ord {l : List UInt8} {k : Nat} (hk : k ≤ l.length) : (Co.wordAt l k).2.1 ≤ (Co.wordAt l k).2.2 ∧ (Co.wordAt l k).2.2 ≤ l.length := by
  unfold Co.wordAt
  split
  · exact ⟨Nat.le_refl _, hk⟩
  · split
    · exact ⟨Co.ends_ge _ _ _, Co.ends_le hk⟩
    · split
      · unfold Co.textAt
        have := Co.ends_ge Co.inText l (k + 1)
        split
        · rename_i h
          exact ⟨by dsimp only; omega, by dsimp only; omega⟩
        · exact ⟨Nat.le_refl _, hk⟩
      · split
        · exact ⟨Nat.le_refl _, hk⟩
        · have hm : Co.markLen (l.drop k) ≤ (l.drop k).length := by
            unfold Co.markLen
            split
            · rename_i h; omega
            · split
              · rename_i h
                have : 0 < (l.drop k).length := by simp; omega
                omega
              · omega
          simp only [List.length_drop] at hm
          exact ⟨by dsimp only; omega, by dsimp only; omega⟩

theorem PaC.cells (h : PaC E w q s st d) : ∃ ev, (w.cell? ⟨q, 0, none⟩ = some (.string s) ∧ w.cell? ⟨q, 1, none⟩ = some (.int .i64 (st.kind : Int)) ∧ w.cell? ⟨q, 2, none⟩ = some (.int .i64 (st.frm : Int)) ∧
    w.cell? ⟨q, 3, none⟩ = some (.int .i64 (st.till : Int)) ∧ w.cell? ⟨q, 4, none⟩ = some (.int .i64 (d : Int)) ∧ w.cell? ⟨q, 5, none⟩ = some ev) ∧ ErrSt E w ev st.err := by
  obtain ⟨ev, hc, he⟩ := h.ex
  exact ⟨ev, ⟨hc.cell 0 _ rfl, hc.cell 1 _ rfl, hc.cell 2 _ rfl, hc.cell 3 _ rfl, hc.cell 4 _ rfl, hc.cell 5 _ rfl⟩, he⟩
theorem PaC.froz (h : PaC E w q s st d) {i : Nat} (hi : i < 6) : w.frozen? ⟨q, i, none⟩ = false := by
  obtain ⟨ev, hc, he⟩ := h.ex
  exact hc.froz i hi

set_option maxHeartbeats 1600000 in
theorem cnext_any (h : PaC E w q s st d) :
    Calls Tryz.prog 66 #[.pointer (some ⟨q, 0, none⟩)] w fun x w' => x = .returned (.tuple #[]) ∧ PaC E w' q s (Co.next s.data.toList st) d ∧ w.grownBy w' (some q) := by
  obtain ⟨ev, ⟨c0, c1, c2, c3, c4, c5⟩, he⟩ := h.cells
  have f1 := h.froz (i := 1) (by decide)
  have f2 := h.froz (i := 2) (by decide)
  have f3 := h.froz (i := 3) (by decide)
  have hsz := h.size
  have htop := h.top
  have H := Lib.hid h
  have HL : Hid (s.data.toList.length = s.size) := by simp [Hid]
  cases hst : st.err with
  | some x =>
    rw [hst] at he
    obtain ⟨c, k⟩ := x
    obtain ⟨b, a, rfl, hka, hcn, hb⟩ := he
    rw [Co.next_err hst]
    unfold atV at c5
    clear c0 c1 c2 c3 c4 f1 f2 f3 hb h hst
    go_enter Tryz.func66, Tryz.ntmps66
    go_wp2
    try simp only [Exit.inBlock, Exit.then]
    first | (refine bodyPost_ret (results_none rfl _ _ _) rfl ?_) | (refine bodyPost_end (results_none rfl _ _ _) rfl ?_)
    exact ⟨rfl, H.out, World.grownBy.refl _ _⟩
  | none =>
    rw [hst] at he
    obtain rfl : ev = .nilIface := he
    have HN := Lib.hid (@Co.next_at st s.data.toList · hst)
    clear h hst
    go_enter Tryz.func66, Tryz.ntmps66
    go_wp2_with fail
    go_loop [2] (fun i => ∃ m : Nat, st.till ≤ m ∧ m ≤ s.size ∧ i = .int .i64 m ∧ Hid (∀ j, st.till ≤ j → j < m → Co.blank s.data.toList[j]! = true)) (fun i => s.size - (intOf i).toNat)
    case atStart => exact ⟨st.till, Nat.le_refl _, by omega, rfl, fun j h1 h2 => by omega⟩
    case round =>
      obtain ⟨m, hm1, hm, rfl, hall⟩ := hrel
      have FIN : ∀ hn : m = s.size ∨ Co.blank s.data.toList[m]! = false, Hid (Co.next s.data.toList st = ⟨(Co.wordAt s.data.toList m).1, (Co.wordAt s.data.toList m).2.1, (Co.wordAt s.data.toList m).2.2, none⟩) := fun hn =>
        HN.out m hm1 (by rw [HL.out]; exact hm) hall.out (by rw [HL.out]; exact hn)
      have HO := Lib.hid (@Co.wordAt_ord s.data.toList m (by rw [HL.out]; exact hm))
      have HX := Lib.hid (cwordAt_any s m w hm hsz)
      unfold wordV at HX
      by_cases hmlt : m < s.size
      · have hat := at_list s m hmlt
        have hbl : Co.blank s[m] = true ↔ (s[m].toNat : Int) = 32 := by unfold Co.blank; simp; omega
        have HB := Lib.hid hbl
        have HA := Lib.hid hat
        clear hbl hat
        by_cases h32 : (s[m].toNat : Int) = 32
        · have HE : Hid (Co.blank s.data.toList[m]! = true) := by rw [HA.out, HB.out]; exact h32
          clear FIN
          go_wp2_with fail
          go_round
          case measure => simp [intOf]; omega
          case rel =>
            refine ⟨m + 1, by omega, by omega, by go_num, fun j hj hjm => ?_⟩
            by_cases e : j = m
            · subst e; exact HE.out
            · exact hall.out j hj (by omega)
        · have HE := FIN (.inr (by rw [HA.out, Bool.eq_false_iff, ne_eq, HB.out]; exact h32))
          clear FIN
          generalize Co.wordAt s.data.toList m = r at *
          go_wp2_with fail
          refine HX.out.mono ?_
          rintro e w2 ⟨rfl, hb2⟩
          have H2 := Lib.hid (H.out.below hb2 (Nat.le_refl _))
          obtain ⟨_, ⟨_, d1, d2, d3, _, _⟩, _⟩ := H2.out.cells
          have g1 := H2.out.froz (i := 1) (by decide)
          have g2 := H2.out.froz (i := 2) (by decide)
          have g3 := H2.out.froz (i := 3) (by decide)
          go_wp2
          try simp only [Exit.inBlock, Exit.then]
          first | (refine bodyPost_ret (results_none rfl _ _ _) rfl ?_) | (refine bodyPost_end (results_none rfl _ _ _) rfl ?_)
          obtain ⟨ev, hc, he'⟩ := H2.out.ex
          have hgr : w.grownBy w2 (some q) := grown_of (World.grownBy.refl _ _) hb2 (Nat.le_refl _)
          refine ⟨rfl, ⟨⟨.nilIface, ?_, ?_⟩, ?_, ?_, hsz⟩, set_grown (set_grown (set_grown hgr 1 _) 2 _) 3 _⟩
          · rw [HE.out]
            have h5 : ev = .nilIface := by
              have := (hc.cell 5 _ rfl).symm.trans ((below_cells hb2 c5))
              exact Option.some.inj this
            subst h5
            exact ((hc.set (i := 1) (by simp) _).set (i := 2) (by simp) _).set (i := 3) (by simp) _
          · rw [HE.out]; exact rfl
          · rw [HE.out]; exact HO.out.1
          · rw [HE.out]; rw [← HL.out]; exact HO.out.2
      · obtain rfl : m = s.size := by omega
        have HE := FIN (.inl rfl)
        clear FIN
        generalize Co.wordAt s.data.toList s.size = r at *
        go_wp2_with fail
        refine HX.out.mono ?_
        rintro e w2 ⟨rfl, hb2⟩
        have H2 := Lib.hid (H.out.below hb2 (Nat.le_refl _))
        obtain ⟨_, ⟨_, d1, d2, d3, _, _⟩, _⟩ := H2.out.cells
        have g1 := H2.out.froz (i := 1) (by decide)
        have g2 := H2.out.froz (i := 2) (by decide)
        have g3 := H2.out.froz (i := 3) (by decide)
        go_wp2
        try simp only [Exit.inBlock, Exit.then]
        first | (refine bodyPost_ret (results_none rfl _ _ _) rfl ?_) | (refine bodyPost_end (results_none rfl _ _ _) rfl ?_)
        obtain ⟨ev, hc, he'⟩ := H2.out.ex
        have hgr : w.grownBy w2 (some q) := grown_of (World.grownBy.refl _ _) hb2 (Nat.le_refl _)
        refine ⟨rfl, ⟨⟨.nilIface, ?_, ?_⟩, ?_, ?_, hsz⟩, set_grown (set_grown (set_grown hgr 1 _) 2 _) 3 _⟩
        · rw [HE.out]
          have h5 : ev = .nilIface := by
            have := (hc.cell 5 _ rfl).symm.trans ((below_cells hb2 c5))
            exact Option.some.inj this
          subst h5
          exact ((hc.set (i := 1) (by simp) _).set (i := 2) (by simp) _).set (i := 3) (by simp) _
        · rw [HE.out]; exact rfl
        · rw [HE.out]; exact HO.out.1
        · rw [HE.out]; rw [← HL.out]; exact HO.out.2
end
end Go.Proofs.YtlmlhjepolefaaaGreatDoor
namespace Go.Proofs.YtlmlhjepolefaaaGreatDoor
open Go.RowKit

/-- The six cells of an expression. -/
def Ex.list (x : Ex) : List Value := [.int .i64 x.op, .int .i64 x.kind, .int .i64 x.num, .string x.txt, .string x.name, .slice x.A x.n x.c]
theorem Cel.six_of {w : World} {z : Nat} {y : Ex} (h : Cel w z y.list) : (w.cell? ⟨z, 0, none⟩ = some (.int .i64 y.op) ∧ w.cell? ⟨z, 1, none⟩ = some (.int .i64 y.kind) ∧ w.cell? ⟨z, 2, none⟩ = some (.int .i64 y.num) ∧
    w.cell? ⟨z, 3, none⟩ = some (.string y.txt) ∧ w.cell? ⟨z, 4, none⟩ = some (.string y.name) ∧ w.cell? ⟨z, 5, none⟩ = some (.slice y.A y.n y.c)) ∧
    (w.frozen? ⟨z, 0, none⟩ = false ∧ w.frozen? ⟨z, 1, none⟩ = false ∧ w.frozen? ⟨z, 2, none⟩ = false ∧ w.frozen? ⟨z, 3, none⟩ = false ∧ w.frozen? ⟨z, 4, none⟩ = false ∧ w.frozen? ⟨z, 5, none⟩ = false) :=
  ⟨⟨h.cell 0 _ rfl, h.cell 1 _ rfl, h.cell 2 _ rfl, h.cell 3 _ rfl, h.cell 4 _ rfl, h.cell 5 _ rfl⟩,
    h.froz 0 (by simp [Ex.list]), h.froz 1 (by simp [Ex.list]), h.froz 2 (by simp [Ex.list]), h.froz 3 (by simp [Ex.list]), h.froz 4 (by simp [Ex.list]), h.froz 5 (by simp [Ex.list])⟩
def Ex.zero : Ex := ⟨0, 0, 0, ⟨#[]⟩, ⟨#[]⟩, none, 0, 0⟩
/-- An expression's six cells are written. -/
def set6 (w : World) (z : Nat) (x : Ex) : World :=
  (((((w.setCell ⟨z, 0, none⟩ (.int .i64 x.op)).setCell ⟨z, 1, none⟩ (.int .i64 x.kind)).setCell ⟨z, 2, none⟩ (.int .i64 x.num)).setCell ⟨z, 3, none⟩ (.string x.txt)).setCell ⟨z, 4, none⟩ (.string x.name)).setCell ⟨z, 5, none⟩ (.slice x.A x.n x.c)
theorem set6_grown (w : World) (z : Nat) (x : Ex) : w.grownBy (set6 w z x) (some z) :=
  set_grown (set_grown (set_grown (set_grown (set_grown (set_grown (World.grownBy.refl _ _) 0 _) 1 _) 2 _) 3 _) 4 _) 5 _
theorem Cel.six {w : World} {z : Nat} {y : Ex} (h : Cel w z y.list) (x : Ex) : Cel (set6 w z x) z x.list :=
  (((((h.set (i := 0) (by simp [Ex.list]) _).set (i := 1) (by simp [Ex.list]) _).set (i := 2) (by simp [Ex.list]) _).set (i := 3) (by simp [Ex.list]) _).set (i := 4) (by simp [Ex.list]) _).set (i := 5) (by simp [Ex.list]) _
end Go.Proofs.YtlmlhjepolefaaaGreatDoor
namespace Go.Proofs.YtlmlhjepolefaaaGreatDoor
open Go.RowKit

namespace Pr
theorem finish_lt {other : Int} {m : Nat} {acc : List Nat} (h : ∀ f ∈ acc, f < m) : ∀ f ∈ (finish other m acc).2, f < m := by
  unfold finish
  split
  · exact h
  · split
    · intro f hf
      simp only [List.mem_singleton] at hf
      omega
    · intro f hf; cases hf
theorem choose_lt {b : Bd} {other : Int} {most : Nat} : ∀ (l acc : List Nat), (∀ f ∈ l, f < b.p.m) → (∀ f ∈ acc, f < b.p.m) → ∀ f ∈ (choose b other most l acc).2, f < b.p.m
  | [], acc, _, h => finish_lt h
  | x :: l, acc, hl, h => by
    rw [choose]
    split
    · exact finish_lt h
    · split
      · exact choose_lt l acc (fun f hf => hl f (by simp [hf])) h
      · split
        · intro f hf; cases hf
        · refine choose_lt l _ (fun f hf => hl f (by simp [hf])) ?_
          intro f hf
          split at hf
          · rcases List.mem_append.1 hf with hf | hf
            · exact h f hf
            · simp only [List.mem_singleton] at hf
              subst hf
              exact hl _ (by simp)
          · exact h f hf
theorem finish_len (other : Int) (m : Nat) (acc : List Nat) : (finish other m acc).2.length ≤ acc.length + 1 := by
  unfold finish
  split
  · simp
  · split <;> simp
theorem choose_len {b : Bd} {other : Int} {most : Nat} : ∀ (l acc : List Nat), (choose b other most l acc).2.length ≤ l.length + acc.length + 1
  | [], acc => by have := finish_len other b.p.m acc; simp only [choose, List.length_nil]; omega
  | x :: l, acc => by
    rw [choose]
    split
    · have := finish_len other b.p.m acc; omega
    · split
      · have := choose_len (b := b) (other := other) (most := most) l acc; simp only [List.length_cons]; omega
      · split
        · simp
        · have := choose_len (b := b) (other := other) (most := most) l (if (opens b.vars b.p.flows[x]!.cond).2 = true then acc ++ [x] else acc)
          have hl : (if (opens b.vars b.p.flows[x]!.cond).2 = true then acc ++ [x] else acc).length ≤ acc.length + 1 := by split <;> simp
          simp only [List.length_cons]
          omega
theorem outWays_lt {b : Bd} {u f : Nat} (h : f ∈ (outWays b u).2) : f < b.p.m := by
  have ho : ∀ f ∈ outsB b.p u, f < b.p.m := fun f h => outsB_lt h
  unfold outWays at h
  dsimp only at h
  split at h
  · cases h
  · split at h
    · split at h
      · exact ho f h
      · exact choose_lt _ _ ho (fun f h => by cases h) f h
    · split at h
      · exact choose_lt _ _ ho (fun f h => by cases h) f h
      · exact ho f h
theorem outWays_len (b : Bd) (u : Nat) : (outWays b u).2.length ≤ b.p.m + 1 := by
  have ho := outsB_len b.p u
  unfold outWays
  dsimp only
  split
  · simp
  · split
    · split
      · simp only []; omega
      · have := choose_len (b := b) (other := b.p.nodes[u]!.dflt) (most := 1) (outsB b.p u) []; simp at this ⊢; omega
    · split
      · have := choose_len (b := b) (other := b.p.nodes[u]!.dflt) (most := (outsB b.p u).length) (outsB b.p u) []; simp at this ⊢; omega
      · simp only []; omega
def BdV.zero : BdV := ⟨⟨#[]⟩, none, 0, 0, none, 0, 0, none, 0, 0, none, 0, 0, 0⟩
def SteppedOut (E : Int → Option Addr) (b : Bd) (i u : Nat) (w : World) (e : Ending) (w' : World) : Prop :=
  (∃ (y : BdV) (ev : Value), e = .returned (.tuple #[y.val, ev]) ∧ SeenBy E ev (outWays b u).1 ∧ ((outWays b u).1 = 0 → BdOwn w' w.heap.size y (moved b (goes b i u) (outWays b u).2))) ∧ Below w.heap.size w w'
end Pr
end Go.Proofs.YtlmlhjepolefaaaGreatDoor
namespace Go.Proofs.YtlmlhjepolefaaaGreatDoor
open Go.RowKit

namespace Pr
def nodesM : List Nd := [Nd.plain 1, Nd.plain 6, Nd.work (bs [116]) 0 1, Nd.plain 2]
def flowsM (v : Nat) : List Fl := [⟨0, 1, no⟩, ⟨2, 3, no⟩] ++ List.replicate v ⟨1, 2, no⟩
def pM (v : Nat) : P := ⟨bs [112], nodesM, flowsM v⟩
def bM (v : Nat) : Nat → Bd
  | 0 => (⟨pM v, [], [], 1⟩ : Bd).put [⟨0, 1, 0, false⟩]
  | j + 1 => (bM v j).put [⟨0, 2, 2, false⟩]
theorem flowsM_snoc (v : Nat) : flowsM (v + 1) = flowsM v ++ [⟨1, 2, no⟩] := by
  unfold flowsM
  rw [List.replicate_succ', ← List.append_assoc]
theorem flowsM_len (v : Nat) : (flowsM v).length = v + 2 := by
  unfold flowsM
  simp
def tksM (j : Nat) : List Tk := ⟨1, 1, 0, false⟩ :: (List.range j).map fun (i : Nat) => ⟨(i : Int) + 2, 2, 2, false⟩
theorem bM_eq (v : Nat) : ∀ j, bM v j = ⟨pM v, [], tksM j, (j : Int) + 2⟩
  | 0 => rfl
  | j + 1 => by
    rw [bM, bM_eq v j]
    unfold Bd.put
    have h1 : tksM j ++ numb ((j : Int) + 2) [⟨0, 2, 2, false⟩] = tksM (j + 1) := by
      unfold tksM
      rw [List.range_succ, List.map_append, numb, numb]
      rfl
    have h2 : (j : Int) + 2 + (([⟨0, 2, 2, false⟩] : List Tk).length : Int) = ((j + 1 : Nat) : Int) + 2 := by
      simp only [List.length_singleton]
      omega
    dsimp only
    rw [h1, h2]
theorem tksM_len (j : Nat) : (tksM j).length = j + 1 := by
  unfold tksM
  simp
theorem tksM_asc (j : Nat) : Asc (tksM j) := by
  unfold Asc tksM
  rw [List.pairwise_cons]
  refine ⟨fun t ht => ?_, ?_⟩
  · obtain ⟨i, _, rfl⟩ := List.mem_map.1 ht
    show (1 : Int) < (i : Int) + 2
    omega
  · rw [List.pairwise_map]
    refine List.Pairwise.imp ?_ (List.pairwise_lt_range (n := j))
    intro a c h
    show (a : Int) + 2 < (c : Int) + 2
    omega
theorem insM : ∀ v, v < 10 → insB (pM v) 1 = [0] := by decide +kernel
theorem outsM : ∀ v, v < 10 → outsB (pM v) 1 = (List.range v).map (· + 2) := by decide +kernel
theorem pM_n (v : Nat) : (pM v).n = 4 := rfl
theorem pM_m (v : Nat) : (pM v).m = v + 2 := flowsM_len v
theorem rdyM (v j : Nat) (hv : v < 10) : Rdy (bM v j) (0 : Nat) := by
  rw [bM_eq]
  refine ⟨0, rfl, by show 0 < (tksM j).length; rw [tksM_len]; omega, rfl, 1, rfl, by show 1 < (pM v).n; rw [pM_n]; decide, by show (6 : Int) ≠ 4; decide, fun _ h => ?_, fun h => ?_⟩
  · have h : 2 ≤ (insB (pM v) ((1 : Nat) : Int)).length := h
    rw [show ((1 : Nat) : Int) = 1 from rfl, insM v hv] at h
    exact absurd h (by decide)
  · have h : (6 : Int) = 7 := h
    exact absurd h (by decide)
theorem left_tail (t : Tk) (l : List Tk) (G : Nat → Bool) (h0 : G 0 = true) (h1 : ∀ k, k < l.length → G (k + 1) = false) : left (t :: l) G = l := by
  unfold left
  rw [List.length_cons, List.range_succ_eq_map, List.filter_cons, h0]
  simp only [Bool.not_true, Bool.false_eq_true, if_false, List.filter_map, List.map_map]
  have hf : (List.range l.length).filter ((fun k => !G k) ∘ Nat.succ) = List.range l.length := by
    rw [List.filter_eq_self]
    intro k hk
    simp [h1 k (List.mem_range.1 hk)]
  rw [hf]
  apply List.ext_getElem
  · simp
  · intro k h2 h3
    simp
    rw [List.getElem?_eq_getElem h3]
    rfl
theorem goesM (v j : Nat) (hv : v < 10) (k : Nat) : goes (bM v j) 0 1 k = decide (k = 0) := by
  have h : goes (bM v j) 0 1 k = ((insB (bM v j).p ((1 : Nat) : Int)).map fun (f : Nat) => fst (atB ((1 : Nat) : Int) (f : Int)) (bM v j).toks).contains (k : Int) := by
    rw [bM_eq]; rfl
  rw [h, bM_eq]
  dsimp only
  rw [show ((1 : Nat) : Int) = 1 from rfl, insM v hv]
  have hf : fst (atB 1 ((0 : Nat) : Int)) (tksM j) = 0 := by
    refine fst_hit (k := 0) (by rw [tksM_len]; omega) rfl (fun i hi => absurd hi (Nat.not_lt_zero i))
  rw [List.map_cons, List.map_nil, hf]
  by_cases e : k = 0
  · subst e; rfl
  · have : ([0] : List Int).contains (k : Int) = false := by
      rw [Bool.eq_false_iff]
      intro h
      simp at h
      exact e (by omega)
    rw [this, decide_eq_false e]
theorem leftM (v j : Nat) (hv : v < 10) : left (bM v j).toks (goes (bM v j) 0 1) = (tksM j).tail := by
  rw [bM_eq] 
  show left (tksM j) (goes ⟨pM v, [], tksM j, (j : Int) + 2⟩ 0 1) = _
  rw [← bM_eq v j]
  refine left_tail _ _ _ (by rw [goesM v j hv]; rfl) (fun k _ => by rw [goesM v j hv]; simp)
theorem outWaysM (v j : Nat) (hv : v < 10) : outWays (bM v j) 1 = (0, (List.range v).map (· + 2)) := by
  have h : outWays (bM v j) 1 = (0, outsB (bM v j).p ((1 : Nat) : Int)) := by
    rw [bM_eq]; rfl
  rw [h, bM_eq]
  dsimp only
  rw [show ((1 : Nat) : Int) = 1 from rfl, outsM v hv]
def mvM (v j : Nat) : Bd := moved (bM v j) (goes (bM v j) 0 1) ((List.range v).map (· + 2))
theorem mvM_len (v j : Nat) (hv : v < 10) : (mvM v j).toks.length = j + v := by
  unfold mvM moved Bd.put
  dsimp only
  rw [List.length_append, numb_len, leftM v j hv]
  unfold come tksM
  simp
theorem mvM_next (v j : Nat) : (mvM v j).next = (j : Int) + 2 + v := by
  unfold mvM moved Bd.put
  dsimp only
  rw [bM_eq]
  unfold come
  simp
theorem bstepM (v j : Nat) (hv : v < 10) : bstep (bM v j) 0 = if 40 < j + v then (stuckAt (bM v j) 0, false, no, 104) else (mvM v j, true, no, 0) := by
  have h0 : (bM v j).toks[0]!.node.toNat = 1 := by rw [bM_eq]; rfl
  have hk : (bM v j).p.nodes[1]!.kind = 6 := by rw [bM_eq]; rfl
  unfold bstep
  dsimp only
  rw [h0, outWaysM v j hv, hk]
  dsimp only
  have hm : moved (bM v j) (goes (bM v j) 0 1) ((List.range v).map (· + 2)) = mvM v j := rfl
  rw [hm, mvM_len v j hv]
  by_cases h : 40 < j + v
  · simp [h]
  · simp [h]
theorem stuckM (v j : Nat) : (stuckAt (bM v j) 0).toks.length = j + 1 ∧ (stuckAt (bM v j) 0).toks[0]!.stuck = true := by
  rw [bM_eq]
  refine ⟨?_, rfl⟩
  unfold stuckAt
  dsimp only
  rw [List.length_modify, tksM_len]
theorem noCond {l : List Fl} (h : ∀ x ∈ l, x.cond = no) (f : Nat) : l[f]!.cond = no := by
  by_cases hf : f < l.length
  · rw [getElem!_pos l f hf]
    exact h _ (List.getElem_mem hf)
  · rw [getElem!_neg l f hf]
    rfl
theorem condM (v f : Nat) : (flowsM v)[f]!.cond = no := by
  refine noCond (fun x hx => ?_) f
  unfold flowsM at hx
  rcases List.mem_append.1 hx with hx | hx
  · rcases List.mem_cons.1 hx with rfl | hx
    · rfl
    · obtain rfl := List.mem_singleton.1 hx
      rfl
  · rw [(List.mem_replicate.1 hx).2]
end Pr
end Go.Proofs.YtlmlhjepolefaaaGreatDoor
namespace Go.Proofs.YtlmlhjepolefaaaGreatDoor
open Go.RowKit

namespace Pr
def nodesJ : List Nd := [Nd.plain 1, Nd.plain 6, Nd.plain 6, Nd.plain 2]
def pJ (v : Nat) : P := ⟨bs [112], nodesJ, flowsM v⟩
def bJ (v : Nat) : Bd := ⟨pJ v, [], [⟨1, 1, 0, false⟩], 2⟩
def tkJ (i : Nat) : Tk := ⟨2 + (i : Int), 2, 2 + (i : Int), false⟩
def dT (T : Nat → Bool) (j : Nat) : List Tk := ((List.range j).filter T).map tkJ
def dJ (v : Nat) (T : Nat → Bool) : Bd := ⟨pJ v, [], dT T v, (v : Int) + 2⟩
def cJ (v : Nat) : Bd := ⟨pJ v, [], (List.range v).map tkJ, (v : Int) + 2⟩
def fJ (v : Nat) : Bd := ⟨pJ v, [], [⟨(v : Int) + 2, 3, 1, false⟩], (v : Int) + 3⟩
theorem cJ_eq (v : Nat) : cJ v = dJ v fun _ => true := by
  unfold cJ dJ dT
  rw [List.filter_eq_self.2 (fun _ _ => rfl)]
theorem dT_snoc (T : Nat → Bool) (j : Nat) : dT T (j + 1) = dT T j ++ (if T j = true then [tkJ j] else []) := by
  unfold dT
  rw [List.range_succ, List.filter_append, List.map_append]
  congr 1
  cases h : T j <;> simp [h]
theorem dT_asc (T : Nat → Bool) (j : Nat) : Asc (dT T j) := by
  unfold Asc dT
  rw [List.pairwise_map]
  refine List.Pairwise.imp ?_ ((List.pairwise_lt_range (n := j)).filter T)
  intro a c h
  show 2 + (a : Int) < 2 + (c : Int)
  omega
theorem dT_len (T : Nat → Bool) (j : Nat) : (dT T j).length ≤ j := by
  unfold dT
  rw [List.length_map]
  exact Nat.le_trans (List.length_filter_le _ _) (by rw [List.length_range]; exact Nat.le_refl _)
theorem dT_mem {T : Nat → Bool} {j : Nat} {t : Tk} (h : t ∈ dT T j) : ∃ i, i < j ∧ T i = true ∧ t = tkJ i := by
  obtain ⟨i, hi, rfl⟩ := List.mem_map.1 h
  obtain ⟨h1, h2⟩ := List.mem_filter.1 hi
  exact ⟨i, List.mem_range.1 h1, h2, rfl⟩
theorem dT_get {T : Nat → Bool} {j k : Nat} (h : k < (dT T j).length) : ∃ i, i < j ∧ T i = true ∧ (dT T j)[k]! = tkJ i := by
  rw [getElem!_pos _ k h]
  exact dT_mem (List.getElem_mem h)
theorem insJ : ∀ v, v < 6 → insB (pJ v) 2 = (List.range v).map (· + 2) := by decide +kernel
theorem insJ1 : ∀ v, v < 6 → insB (pJ v) 1 = [0] := by decide +kernel
theorem outsJ : ∀ v, v < 6 → outsB (pJ v) 1 = (List.range v).map (· + 2) := by decide +kernel
theorem pJ_n (v : Nat) : (pJ v).n = 4 := rfl
theorem pJ_m (v : Nat) : (pJ v).m = v + 2 := flowsM_len v
theorem few_J {v : Nat} {l : List Tk} {k : Int} (hv : v < 6) (hl : l.length ≤ 100) (h0 : 0 ≤ k) (h1 : k ≤ 100) : Bd.Few ⟨pJ v, [], l, k⟩ :=
  ⟨by show (pJ v).n ≤ 100000; rw [pJ_n]; omega, by show (pJ v).m ≤ 100000; rw [pJ_m]; omega, Nat.zero_le _, by show l.length ≤ 100000; omega, by show (-1000000000 : Int) ≤ k; omega, by show k ≤ 1000000000; omega⟩
theorem rdyJ0 (v : Nat) (hv : v < 6) : Rdy (bJ v) (0 : Nat) := by
  refine ⟨0, rfl, Nat.zero_lt_one, rfl, 1, rfl, by show 1 < (pJ v).n; rw [pJ_n]; decide, by show (6 : Int) ≠ 4; decide, fun _ h => ?_, fun h => ?_⟩
  · have h : 2 ≤ (insB (pJ v) ((1 : Nat) : Int)).length := h
    rw [show ((1 : Nat) : Int) = 1 from rfl, insJ1 v hv] at h
    exact absurd h (by decide)
  · have h : (6 : Int) = 7 := h
    exact absurd h (by decide)
/-- A token of the join is ready: where all came, the first one. -/
theorem rdyJ (v : Nat) (T : Nat → Bool) (hv : v < 6) (hv2 : 2 ≤ v) (k : Nat) (hk : k < (dT T v).length) : Rdy (dJ v T) (k : Int) ↔ ((List.range v).all T = true ∧ k = 0) := by
  obtain ⟨i, hi, hTi, hget⟩ := dT_get hk
  have hu : (dJ v T).toks[k]!.node = ((2 : Nat) : Int) := by show (dT T v)[k]!.node = 2; rw [hget]; rfl
  have hs : (dJ v T).toks[k]!.stuck = false := by show (dT T v)[k]!.stuck = false; rw [hget]; rfl
  have hl : 0 < (dT T v).length := by omega
  have hf0 : fst (atN ((2 : Nat) : Int)) (dT T v) = (0 : Nat) := by
    refine fst_hit hl ?_ (fun j hj => absurd hj (Nat.not_lt_zero j))
    obtain ⟨i0, _, _, hg0⟩ := dT_get hl
    rw [hg0]; rfl
  rw [rdy_u (b := dJ v T) (k := k) (u := 2) hk hs hu (by show 2 < (pJ v).n; rw [pJ_n]; decide)]
  have h6 : (dJ v T).p.nodes[2]!.kind = 6 := rfl
  have hin : insB (dJ v T).p ((2 : Nat) : Int) = (List.range v).map (· + 2) := insJ v hv
  have ht : (dJ v T).toks = dT T v := rfl
  rw [h6, hin, ht, hf0]
  constructor
  · rintro ⟨_, h, _⟩
    obtain ⟨h1, h2⟩ := h rfl (by simpa using hv2)
    refine ⟨?_, by omega⟩
    rw [List.all_eq_true]
    intro j hj
    have hn := h2 (j + 2) (List.mem_map.2 ⟨j, hj, rfl⟩)
    rcases fst_cases (atB ((2 : Nat) : Int) ((j + 2 : Nat) : Int)) (dT T v) with ⟨h3, _⟩ | ⟨k', _, hk', hq, _⟩
    · exact absurd h3 hn
    · obtain ⟨i', hi', hT', hg'⟩ := dT_get hk'
      rw [hg'] at hq
      unfold atB tkJ at hq
      simp only [Bool.and_eq_true, beq_iff_eq] at hq
      obtain rfl : i' = j := by omega
      exact hT'
  · rintro ⟨hall, rfl⟩
    refine ⟨by decide, fun _ _ => ⟨rfl, fun f hf => ?_⟩, fun h => absurd h (by decide)⟩
    obtain ⟨j, hj, rfl⟩ := List.mem_map.1 hf
    have hTj := List.all_eq_true.1 hall j hj
    rcases fst_cases (atB ((2 : Nat) : Int) ((j + 2 : Nat) : Int)) (dT T v) with ⟨_, h3⟩ | ⟨k', h4, _⟩
    · have hm : tkJ j ∈ dT T v := List.mem_map.2 ⟨j, List.mem_filter.2 ⟨hj, hTj⟩, rfl⟩
      obtain ⟨q, hq, he⟩ := List.mem_iff_getElem.1 hm
      have := h3 q hq
      rw [getElem!_pos _ q hq, he] at this
      have h9 : (2 : Int) + (j : Int) = ((j + 2 : Nat) : Int) := by omega
      unfold atB tkJ at this
      rw [h9] at this
      simp at this
    · omega
theorem v_cases {v : Nat} (hv : v < 6) (hv2 : 2 ≤ v) : v = 2 ∨ v = 3 ∨ v = 4 ∨ v = 5 := by omega
theorem bstepJ (v : Nat) (hv : v < 6) (hv2 : 2 ≤ v) : bstep (bJ v) 0 = (cJ v, true, no, 0) := by
  rcases v_cases hv hv2 with rfl | rfl | rfl | rfl <;> rfl
theorem bstepJ2 (v : Nat) (hv : v < 6) (hv2 : 2 ≤ v) : bstep (cJ v) 0 = (fJ v, true, no, 0) := by
  rcases v_cases hv hv2 with rfl | rfl | rfl | rfl <;> rfl
theorem rdyJ2 (v : Nat) (hv : v < 6) (hv2 : 2 ≤ v) : Rdy (cJ v) (0 : Nat) := by
  rw [cJ_eq]
  refine (rdyJ v _ hv hv2 0 ?_).2 ⟨by simp, rfl⟩
  unfold dT
  rw [List.filter_eq_self.2 (fun _ _ => rfl)]
  simp
  omega
theorem cJ_get {v i : Nat} (hi : i < v) : (cJ v).toks[i]! = tkJ i := by
  show ((List.range v).map tkJ)[i]! = tkJ i
  rw [getElem!_pos _ i (by simpa using hi)]
  simp
theorem all_snoc (T : Nat → Bool) (j : Nat) : (List.range (j + 1)).all T = ((List.range j).all T && T j) := by
  rw [List.range_succ, List.all_append]
  simp
end Pr
end Go.Proofs.YtlmlhjepolefaaaGreatDoor
