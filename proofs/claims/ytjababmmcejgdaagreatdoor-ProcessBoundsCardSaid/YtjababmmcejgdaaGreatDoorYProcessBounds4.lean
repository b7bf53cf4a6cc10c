/- The program's withoutPlace. An expression's six cells. Mathematics of processes: what is owed nothing is fine. -/
import Derived.Test.YtjababmmcejgdaaGreatDoorAs
import Derived.Test.YtjababmmcejgdaaGreatDoorYProcessBounds2
import Derived.Test.YtjababmmcejgdaaGreatDoorGoY
namespace Go.Proofs.YtjababmmcejgdaaGreatDoor
open Go.RowKit

/-- The type 'error' as errors.As holds it. -/
def ErrTy (w : World) : Prop := w.cell? ⟨7, 0, none⟩ = some (.iface 162 (.agg #[.pointer (some ⟨26, 33, none⟩)]))
theorem ErrTy.below {w w' : World} (h : ErrTy w) (hb : Below w.heap.size w w') : ErrTy w' := below_cells hb h
set_option maxHeartbeats 800000 in
theorem wop_nil (w : World) : Calls Tryz.prog 58 #[.nilIface] w fun e w' => e = .returned .nilIface ∧ Below w.heap.size w w' := by
  have HB := Lib.hid ((Below.refl w.heap.size w).alloc (Nat.le_refl _) (.cells #[.pointer none] 65))
  go_enter Tryz.func58, Tryz.ntmps58
  go_wp2_with (go_at_call 79; refine (as_nil _ _).mono ?_; rintro e w' ⟨rfl, rfl⟩)
  go_ret
  exact ⟨rfl, HB.out⟩
set_option maxHeartbeats 1600000 in
theorem wop_at (w : World) (b : Nat) (k : Int) (v : Value) (hT : ErrTy w) (hb : w.heap[b]? = some (.cells #[.int .i64 k, v] 67 (0, 0))) :
    Calls Tryz.prog 58 #[.iface 65 (.pointer (some ⟨b, 0, none⟩))] w fun e w' => e = .returned v ∧ Below w.heap.size w w' := by
  have hbl : b < w.heap.size := blk_lt hb
  have hba : Below w.heap.size w (w.alloc (.cells #[.pointer none] 65)) := (Below.refl w.heap.size w).alloc (Nat.le_refl _) _
  have hTa := hT.below hba
  have hta : (w.alloc (.cells #[.pointer none] 65)).cell? ⟨w.heap.size, 0, none⟩ = some (.pointer none) := by simp
  have hfa : (w.alloc (.cells #[.pointer none] 65)).frozen? ⟨w.heap.size, 0, none⟩ = false := by simp
  have hb1 : (w.alloc (.cells #[.pointer none] 65)).heap[b]? = some (.cells #[.int .i64 k, v] 67 (0, 0)) := (hba.block b hbl).trans hb
  have HH := Lib.hid (as_hit ⟨b, 0, none⟩ ⟨w.heap.size, 0, none⟩ (.pointer none) _ hTa hta hfa)
  have HBA := Lib.hid hba
  have HB1 := Lib.hid hb1
  have hw1 : w.heap.size < (w.alloc (.cells #[.pointer none] 65)).heap.size := by simp
  clear hT hb hba hTa hta hfa hb1
  go_enter Tryz.func58, Tryz.ntmps58
  go_upto_region 2 with (fail)
  generalize hwa : w.alloc _ = wa at *
  go_upto_region 3 with (go_at_call 79; refine HH.out.mono ?_; rintro e w' ⟨rfl, hw'⟩)
  have hbb : Below wa.heap.size wa ((((wa.alloc (.cells #[.pointer (some ⟨w.heap.size, 0, none⟩)] 131)).alloc (.cells #[.pointer (some ⟨26, 131, none⟩), .pointer (some ⟨wa.heap.size, 0, none⟩), .int .u64 150] 148)).alloc (.cells #[.pointer (some ⟨26, 131, none⟩), .pointer (some ⟨wa.heap.size, 0, none⟩), .int .u64 150] 148)).alloc (.cells #[.pointer (some ⟨b, 0, none⟩)] 65)) :=
    ((((Below.refl _ _).alloc (Nat.le_refl _) _).alloc (by simp) _).alloc (by simp; omega) _).alloc (by simp; omega) _
  generalize (((wa.alloc _).alloc _).alloc _).alloc _ = wx at *
  subst hw'
  have hbs := HBA.out.trans ((hbb.mono HBA.out.size).setCell (p := ⟨w.heap.size, 0, none⟩) (Nat.le_refl _) (.pointer (some ⟨b, 0, none⟩)))
  have c0 : (wx.setCell ⟨w.heap.size, 0, none⟩ (.pointer (some ⟨b, 0, none⟩))).cell? ⟨w.heap.size, 0, none⟩ = some (.pointer (some ⟨b, 0, none⟩)) := by
    have h0 : wx.cell? ⟨w.heap.size, 0, none⟩ = some (.pointer none) := (hbb.cell (p := ⟨w.heap.size, 0, none⟩) hw1).trans (by rw [← hwa]; simp)
    exact World.cell?_setCell_same _ _ _ h0
  have c1 : (wx.setCell ⟨w.heap.size, 0, none⟩ (.pointer (some ⟨b, 0, none⟩))).cell? ⟨b, 1, none⟩ = some v := by
    have hne : (⟨w.heap.size, 0, none⟩ : Addr) ≠ ⟨b, 1, none⟩ := by intro h; cases h
    rw [World.cell?_setCell_other _ _ _ _ hne]
    refine (hbb.cell (p := ⟨b, 1, none⟩) (Nat.lt_trans hbl hw1)).trans ?_
    exact cell_of_row wa b 1 #[.int .i64 k, v] 67 (0, 0) HB1.out
  have HBS := Lib.hid hbs
  clear hbb hbs hwa
  generalize wx.setCell _ _ = wy at *
  go_wp2
  go_ret
  exact ⟨rfl, HBS.out⟩
end Go.Proofs.YtjababmmcejgdaaGreatDoor
namespace Go.Proofs.YtjababmmcejgdaaGreatDoor
open Go.RowKit

/-- The six cells of an expression. -/
def Ex.list (x : Ex) : List Value := [.int .i64 x.op, .int .i64 x.kind, .int .i64 x.num, .string x.txt, .string x.name, .slice x.A x.n x.c]
theorem Cel.six_of {w : World} {z : Nat} {y : Ex} (h : Cel w z y.list) : (w.cell? ⟨z, 0, none⟩ = some (.int .i64 y.op) ∧ w.cell? ⟨z, 1, none⟩ = some (.int .i64 y.kind) ∧ w.cell? ⟨z, 2, none⟩ = some (.int .i64 y.num) ∧
    w.cell? ⟨z, 3, none⟩ = some (.string y.txt) ∧ w.cell? ⟨z, 4, none⟩ = some (.string y.name) ∧ w.cell? ⟨z, 5, none⟩ = some (.slice y.A y.n y.c)) ∧
    (w.frozen? ⟨z, 0, none⟩ = false ∧ w.frozen? ⟨z, 1, none⟩ = false ∧ w.frozen? ⟨z, 2, none⟩ = false ∧ w.frozen? ⟨z, 3, none⟩ = false ∧ w.frozen? ⟨z, 4, none⟩ = false ∧ w.frozen? ⟨z, 5, none⟩ = false) :=
  ⟨⟨h.cell 0 _ rfl, h.cell 1 _ rfl, h.cell 2 _ rfl, h.cell 3 _ rfl, h.cell 4 _ rfl, h.cell 5 _ rfl⟩,
    h.froz 0 (by simp [Ex.list]), h.froz 1 (by simp [Ex.list]), h.froz 2 (by simp [Ex.list]), h.froz 3 (by simp [Ex.list]), h.froz 4 (by simp [Ex.list]), h.froz 5 (by simp [Ex.list])⟩
def Ex.zero : Ex := ⟨0, 0, 0, ⟨#[]⟩, ⟨#[]⟩, none, 0, 0⟩
/-- An expression's six cells are written. -/
def set6 (w : World) (z : Nat) (x : Ex) : World :=
  (((((w.setCell ⟨z, 0, none⟩ (.int .i64 x.op)).setCell ⟨z, 1, none⟩ (.int .i64 x.kind)).setCell ⟨z, 2, none⟩ (.int .i64 x.num)).setCell ⟨z, 3, none⟩ (.string x.txt)).setCell ⟨z, 4, none⟩ (.string x.name)).setCell ⟨z, 5, none⟩ (.slice x.A x.n x.c)
theorem set6_grown (w : World) (z : Nat) (x : Ex) : w.grownBy (set6 w z x) (some z) :=
  set_grown (set_grown (set_grown (set_grown (set_grown (set_grown (World.grownBy.refl _ _) 0 _) 1 _) 2 _) 3 _) 4 _) 5 _
theorem Cel.six {w : World} {z : Nat} {y : Ex} (h : Cel w z y.list) (x : Ex) : Cel (set6 w z x) z x.list :=
  (((((h.set (i := 0) (by simp [Ex.list]) _).set (i := 1) (by simp [Ex.list]) _).set (i := 2) (by simp [Ex.list]) _).set (i := 3) (by simp [Ex.list]) _).set (i := 4) (by simp [Ex.list]) _).set (i := 5) (by simp [Ex.list]) _
end Go.Proofs.YtjababmmcejgdaaGreatDoor
namespace Go.Proofs.YtjababmmcejgdaaGreatDoor
open Go.RowKit

namespace Pr
theorem cond_ok (k : Int) : ((bs (conds k)).size = 0 ∨ condBad (bs (conds k)) = 0) ∧ (bs (conds k)).size ≤ 80 := by
  unfold conds
  have h : (nmb k 12).toNat < 12 := by unfold nmb; omega
  have : ∀ j : Nat, j < 12 → ((bs condL[j]!).size = 0 ∨ condBad (bs condL[j]!) = 0) ∧ (bs condL[j]!).size ≤ 80 := by decide +kernel
  exact this _ h
theorem fl_mem {p : P} {j : Nat} (h : j < p.m) : p.flows[j]! ∈ p.flows := by
  have h' : j < p.flows.length := h
  rw [getElem!_pos p.flows j h']
  exact List.getElem_mem h'
theorem flow_fine {p : P} {f : Fl} (h : FlowOk p f) : flowBad p f = 0 := by
  obtain ⟨⟨a, b, h1, h2, h3, h4, h5⟩, h6⟩ := h
  unfold flowBad
  have hw : (within f.frm 0 (p.n - 1) && within f.til 0 (p.n - 1)) = true := by
    unfold within
    simp only [Bool.and_eq_true, decide_eq_true_eq]
    omega
  rw [hw, if_neg (by decide)]
  rcases h6 with h6 | ⟨h6, k, h7⟩
  · rw [h6, if_pos (by decide)]
  · by_cases h0 : f.cond.size = 0
    · rw [if_pos h0]
    · rw [if_neg h0, if_neg (by omega), h7]
      exact (cond_ok k).1.resolve_left (by rw [← h7]; exact h0)
theorem into_first {p : P} (h : ∀ f ∈ p.flows, FlowOk p f) : cI p 0 = 0 := by
  unfold cI
  rw [List.countP_eq_zero]
  intro f hf
  obtain ⟨a, b, h1, h2, h3, h4, h5⟩ := (h f hf).ends
  rw [h2]
  simp
  omega
theorem no_size : no.size = 0 := rfl
theorem txC_size : txC.size = 6 := rfl
theorem shape_fine {p : P} (h : Inv p (fun _ => 0) (fun _ => False)) {i : Nat} (hi : i < p.n) : shaped p i = true := by
  have hf := h.field i hi
  obtain ⟨o1, o2, o3, o4, o5, _, _⟩ := h.outs i hi
  have hs := h.start i hi
  unfold shaped
  simp only [ins_len, outs_len]
  generalize (p.nodes[i]!) = x at *
  by_cases h1 : x.kind = 1
  · have h0 := hs.1 h1
    subst h0
    have := o1 h1
    rw [into_first h.flow]
    simp [h1]
    omega
  · have h0 : i ≠ 0 := fun e => h1 (hs.2 e)
    have hin := h.ins i (by omega) hi (fun e => e)
    have e1 : (x.kind == 1) = false := by rw [beq_eq_false_iff_ne]; exact h1
    have e2 : (i == 0) = false := by rw [beq_eq_false_iff_ne]; exact h0
    rw [e1, e2, if_neg (by decide), if_neg h1]
    by_cases h2 : x.kind = 2 ∨ x.kind = 3
    · rw [if_pos h2]
      have h2' : x.kind = 2 := by rcases hf.kind with e | e | e | e | e | e <;> omega
      have := o2 h2'
      simp [hin, this]
    · rw [if_neg h2]
      by_cases h4 : x.kind = 4
      · rw [if_pos h4]
        rcases hf.caught with hc | ⟨_, hc⟩
        · have := o3 h4 hc
          have hb : cO p i = 1 := by omega
          rw [hc, no_size, hb]
          simp [hin]
        · have hne : x.caught ≠ no := by rw [hc]; exact txC_ne
          have := (o4 h4 hne).1
          have hb : cO p i = 2 := by omega
          have hsz : x.caught.size = 6 := by rw [hc]; rfl
          rw [hsz, hb]
          simp [hin]
      · rw [if_neg h4]
        have h5 : x.kind = 5 ∨ x.kind = 6 ∨ x.kind = 7 := by rcases hf.kind with e | e | e | e | e | e <;> omega
        rw [if_pos h5]
        have := o5 h5
        simp [hin]
        omega
theorem nm_txC : nm txC = true := by decide +kernel
theorem node_fine {p : P} (h : Inv p (fun _ => 0) (fun _ => False)) {i : Nat} (hi : i < p.n) : nodeBad p i = 0 := by
  have hf := h.field i hi
  have ho := h.outs i hi
  unfold nodeBad
  rw [shape_fine h hi]
  have hD : (p.nodes[i]!).dflt ≠ -1 → ((p.nodes[i]!).kind = 5 ∨ (p.nodes[i]!).kind = 7) ∧ has (outsL p i) (p.nodes[i]!).dflt = true := by
    intro hne
    rcases ho.dflt with e | ⟨hk, j, hj, e, hfr⟩
    · exact absurd e hne
    · exact ⟨hk, by rw [e]; exact has_of hj hfr⟩
  have hT : (p.nodes[i]!).caught ≠ no → has (outsL p i) (p.nodes[i]!).tgt = true := by
    intro hne
    have hk4 : (p.nodes[i]!).kind = 4 := by
      rcases hf.caught with e | ⟨e, _⟩
      · exact absurd e hne
      · exact e
    obtain ⟨_, j, hj, e, hfr⟩ := ho.wk1 hk4 hne
    rw [e]; exact has_of hj hfr
  have hto := ho.tgt
  simp only []
  generalize has (outsL p i) (p.nodes[i]!).dflt = bd at *
  generalize has (outsL p i) (p.nodes[i]!).tgt = bt at *
  generalize (p.nodes[i]!) = x at *
  clear ho
  have c3 : (x.kind == 3) = false := by rw [beq_eq_false_iff_ne]; rcases hf.kind with e | e | e | e | e | e <;> omega
  have hcs : x.code.size = 0 := by rw [hf.code]; rfl
  by_cases h4 : x.kind = 4
  · have e4 : (x.kind == 4) = true := by rw [beq_iff_eq]; exact h4
    obtain ⟨w1, w2, w3⟩ := hf.wk h4
    have hdf : x.dflt = -1 := by
      by_cases e : x.dflt = -1
      · exact e
      · have := (hD e).1; omega
    have e5 : (x.dflt == -1) = true := by rw [beq_iff_eq]; exact hdf
    rw [if_neg (by decide)]
    rcases hf.caught with hc | ⟨_, hc⟩
    · have et : (x.tgt == -1) = true := by rw [beq_iff_eq]; exact hto hc
      have hsz : x.caught.size = 0 := by rw [hc]; rfl
      simp [e4, w1, w2, w3, c3, hcs, hsz, e5, et]
    · have hne : x.caught ≠ no := by rw [hc]; exact txC_ne
      have hsz : x.caught.size = 6 := by rw [hc]; rfl
      have hnm : nm x.caught = true := by rw [hc]; exact nm_txC
      have := hT hne
      simp [e4, w1, w2, w3, c3, hcs, hsz, e5, hnm, this]
  · have e4 : (x.kind == 4) = false := by rw [beq_eq_false_iff_ne]; exact h4
    obtain ⟨w1, w2, w3⟩ := hf.nowk h4
    have hts : x.topic.size = 0 := by rw [w1]; rfl
    have hc : x.caught = no := by
      rcases hf.caught with e | ⟨e, _⟩
      · exact e
      · exact absurd e h4
    have hsz : x.caught.size = 0 := by rw [hc]; rfl
    have et : (x.tgt == -1) = true := by rw [beq_iff_eq]; exact hto hc
    rw [if_neg (by decide)]
    by_cases hdf : x.dflt = -1
    · have e5 : (x.dflt == -1) = true := by rw [beq_iff_eq]; exact hdf
      simp [e4, hts, w2, w3, c3, hcs, hsz, e5, et]
    · obtain ⟨hk, hb⟩ := hD hdf
      have eg : (x.kind == 5 || x.kind == 7) = true := by rw [Bool.or_eq_true, beq_iff_eq, beq_iff_eq]; exact hk
      simp [e4, hts, w2, w3, c3, hcs, hsz, et, eg, hb]
theorem check_of {p : P} (h : Inv p (fun _ => 0) (fun _ => False)) (h2 : 2 ≤ p.n) (h30 : p.n ≤ 30) (h60 : p.m ≤ 60) (hn : nm p.name = true) : check p = (0, none) := by
  unfold check
  rw [hn, if_neg (by decide)]
  have hw : (within p.n 2 30 && decide (p.m ≤ 60)) = true := by
    unfold within
    simp only [Bool.and_eq_true, decide_eq_true_eq]
    omega
  rw [hw, if_neg (by decide)]
  have f1 : (List.range p.m).find? (fun j => !(flowBad p p.flows[j]! == 0)) = none := by
    rw [List.find?_eq_none]
    intro j hj
    rw [flow_fine (h.flow _ (fl_mem (List.mem_range.1 hj)))]
    decide
  have f2 : (List.range p.n).find? (fun i => !(nodeBad p i == 0)) = none := by
    rw [List.find?_eq_none]
    intro i hi
    rw [node_fine h (List.mem_range.1 hi)]
    decide
  rw [f1]
  simp only []
  rw [f2]
theorem nm_p : nm (bs [112]) = true := by decide +kernel
theorem check_good (kinds more : List Int) (rings : Bool) : check (good kinds more rings) = (0, none) := by
  obtain ⟨h1, h2, h3, h4, h5⟩ := good_inv kinds more rings
  exact check_of h1 h2 (by omega) (by omega) (by rw [h5]; exact nm_p)
end Pr
end Go.Proofs.YtjababmmcejgdaaGreatDoor
