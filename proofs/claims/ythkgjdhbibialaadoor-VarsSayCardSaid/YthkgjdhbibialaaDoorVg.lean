/- Walks of package vars: the library's Insert of one variable, where there is no room. -/
import Derived.Test.YthkgjdhbibialaaDoorVj
namespace Go.Proofs.YthkgjdhbibialaaDoor
open Go.RowKit

theorem zeroCells_size (z : Array Value) (n : Nat) : (Builtin.zeroCells z n).size = n * z.size := by simp [Builtin.zeroCells]
/-- A row that was filled from three parts. -/
theorem fill_three {α : Type} (F V D Z R : List α) :
    ((((F ++ Z ++ R).take F.length ++ V ++ (F ++ Z ++ R).drop (F.length + V.length)).take (F.length + V.length) ++ D ++ ((F ++ Z ++ R).take F.length ++ V ++ (F ++ Z ++ R).drop (F.length + V.length)).drop (F.length + V.length + D.length))).take (F.length + V.length + D.length) = F ++ V ++ D := by
  have e1 : (F ++ Z ++ R).take F.length = F := by rw [List.append_assoc, List.take_left]
  rw [e1]
  have e2 : (F ++ V ++ (F ++ Z ++ R).drop (F.length + V.length)).take (F.length + V.length) = F ++ V := by
    rw [← List.length_append, List.take_left]
  rw [e2, ← List.length_append, ← List.length_append, List.take_left]
theorem fill_three_len {α : Type} (F V D Z R : List α) (hZ : Z.length = V.length + D.length) :
    ((((F ++ Z ++ R).take F.length ++ V ++ (F ++ Z ++ R).drop (F.length + V.length)).take (F.length + V.length) ++ D ++ ((F ++ Z ++ R).take F.length ++ V ++ (F ++ Z ++ R).drop (F.length + V.length)).drop (F.length + V.length + D.length))).length = F.length + Z.length + R.length := by
  simp; omega

section
variable {w : World}
set_option maxRecDepth 100000 in
set_option maxHeartbeats 4000000 in
theorem insert_grow (base : Nat) (A : Option Addr) (n c : Nat) (l : List Vr.V) (i vb : Nat) (v : Vr.V) (ho : OwnVars w base 45 A n c l) (hi : i < n) (hroom : c < n + 1) (hn : n ≤ 1000000) (hbase : base ≤ w.heap.size)
    (hvb : w.heap[vb]? = some (.cells #[.string v.name, .int .i64 v.kind, .int .i64 v.num, .string v.text] 45 (0, 0))) :
    Calls Tryd.prog 53 #[.slice A n c, .int .i64 i, .slice (some ⟨vb, 0, none⟩) 1 1] w fun e w' => ∃ A' c', e = .returned (.slice A' (n + 1) c') ∧ OwnVars w' base 45 A' (n + 1) c' (l.take i ++ v :: l.drop i) ∧ Below base w w' := by
  obtain ⟨i0, hi0, hz0, hz1, hz2⟩ := info_parts info_var
  have hll := ho.len
  obtain ⟨g, cur, rfl, hbg, hh, hnc, hcm, hcs, hct⟩ := own_block ho (by omega)
  have hgl : g < w.heap.size := by
    rcases Nat.lt_or_ge g w.heap.size with h | h
    · exact h
    · rw [Array.getElem?_eq_none h] at hh; cases hh
  have hvl : vb < w.heap.size := by
    rcases Nat.lt_or_ge vb w.heap.size with h | h
    · exact h
    · rw [Array.getElem?_eq_none h] at hvb; cases hvb
  obtain rfl : c = n := by omega
  have hsz : (Tryd.prog.info? 45).map (·.size) = some 4 := by rw [hi0]; simp [hz1]
  have hxl : (l.flatMap Vr.V.cells).length = c * 4 := by rw [flat4_len, hll]
  have hcur : cur.toList = l.flatMap Vr.V.cells := by rw [← hct, List.take_of_length_le (by simp; omega)]
  have hcell : ∀ j u, (l.flatMap Vr.V.cells)[j]? = some u → w.cell? ⟨g, j, none⟩ = some u := fun j u hj => by
    rw [cell_of_row w g j cur _ (0, 0) hh]
    rw [← hcur] at hj
    simpa using hj
  have hfl : ((l.flatMap Vr.V.cells).take (i * 4)).length = i * 4 := by rw [List.length_take, hxl]; omega
  have hdl : ((l.flatMap Vr.V.cells).drop (i * 4)).length = (c - i) * 4 := by rw [List.length_drop, hxl, Nat.sub_mul]
  have hcF : ∀ j u, ((l.flatMap Vr.V.cells).take (i * 4))[j]? = some u → w.cell? ⟨g, j, none⟩ = some u := fun j u hj => by
    rw [List.getElem?_take] at hj
    split at hj
    · exact hcell j u hj
    · cases hj
  have hcD : ∀ j u, ((l.flatMap Vr.V.cells).drop (i * 4))[j]? = some u → w.cell? ⟨g, i * 4 + j, none⟩ = some u := fun j u hj => hcell _ u (by rwa [List.getElem?_drop] at hj)
  have hD1 : ∀ u ∈ (l.flatMap Vr.V.cells).drop (i * 4), u.oneCell' = true := fun u hu => flat4_one l u (List.mem_of_mem_drop hu)
  have hput := Vr.flat_put l i v
  generalize (l.flatMap Vr.V.cells).take (i * 4) = F at *
  generalize (l.flatMap Vr.V.cells).drop (i * 4) = D at *
  have h1v : ∀ u ∈ v.cells, u.oneCell' = true := fun u hu => by
    simp only [Vr.V.cells, List.mem_cons, List.not_mem_nil, or_false] at hu
    rcases hu with rfl | rfl | rfl | rfl <;> rfl
  obtain ⟨z, hz⟩ : ∃ z : Value, z = .agg #[.string ⟨#[]⟩, .int .i64 0, .int .i64 0, .string ⟨#[]⟩] := ⟨_, rfl⟩
  have hzc : z.cells.size = 4 := by rw [hz]; rfl
  rw [← hz] at hz0
  have hik : i + (c + 1 - i) = c + 1 := by omega
  have hkk : (c : Int) + 1 - (i : Int) = ((c + 1 - i : Nat) : Int) := by omega
  obtain ⟨G, hG⟩ : ∃ G, G = grownCap w (c + 1) c 45 := ⟨_, rfl⟩
  have hGn : c + 1 ≤ G := by rw [hG]; exact grownCap_ge w _ _ _
  have hG63 : G ≤ maxLen := by rw [hG]; exact grownCap_le_maxLen w (c + 1) c 45 (by unfold maxLen; omega)
  obtain ⟨Z, hZ⟩ : ∃ Z, Z = (Builtin.zeroCells z.cells (c + 1 - i)).toList := ⟨_, rfl⟩
  obtain ⟨R, hR⟩ : ∃ R, R = (Builtin.zeroCells z.cells (G - (c + 1))).toList := ⟨_, rfl⟩
  have hZl : Z.length = v.cells.length + D.length := by rw [hZ, Array.length_toList, zeroCells_size, hzc, hdl, Vr.V.cells_len]; omega
  have hRl : R.length = (G - (c + 1)) * 4 := by rw [hR, Array.length_toList, zeroCells_size, hzc]
  have hrz : ∀ ty, (Builtin.append_ #[22, 3] ty #[.slice (some ⟨g, 0, none⟩) i c, .int .i64 ((c : Int) + 1 - (i : Int))]).run Tryd.prog w =
      .ok (.slice (some ⟨w.heap.size, 0, none⟩) (c + 1) G) (w.drew.alloc (.cells (F ++ Z ++ R).toArray 45)) := fun ty => by
    have h := Lib.run_append_grow_zeros w 22 3 ty 45 i0 z .i64 .i64 Tryd.underlying22 Tryd.underlying3 hi0 hz0 (some ⟨g, 0, none⟩) i c F
      (by rw [hz1]; exact run_firstCells_some w.drew 4 i ⟨g, 0, none⟩ i c F hfl (fun j u hj => by rw [addr_add, Nat.zero_add]; exact hcF j u hj)) (c + 1 - i) (by omega) (by omega) (by omega) (by omega) (by rw [hz2]; omega) (by rw [hz2, hik]; exact growslice_fits (by omega) (by omega))
    rw [hik, ← hG] at h
    rw [hkk, h, hZ, hR]
    have e : ∀ a b : Array Value, (F ++ a.toList ++ b.toList).toArray = F.toArray ++ a ++ b := fun a b => by apply Array.toList_inj.1; simp
    rw [e]
  have h4 : i * 4 = F.length := hfl.symm
  have h8 : (i + 1) * 4 = F.length + v.cells.length := by rw [hfl, Vr.V.cells_len]; omega
  have h12 : (c + 1) * 4 = F.length + v.cells.length + D.length := by rw [hfl, hdl, Vr.V.cells_len]; omega
  obtain ⟨r1, hr1⟩ : ∃ r1, r1 = (F ++ Z ++ R).take F.length ++ v.cells ++ (F ++ Z ++ R).drop (F.length + v.cells.length) := ⟨_, rfl⟩
  obtain ⟨r2, hr2⟩ : ∃ r2, r2 = r1.take (F.length + v.cells.length) ++ D ++ r1.drop (F.length + v.cells.length + D.length) := ⟨_, rfl⟩
  have hr0l : (F ++ Z ++ R).length = G * 4 := by simp only [List.length_append]; omega
  have hr1l : r1.length = G * 4 := by rw [hr1]; simp only [List.length_append, List.length_take, List.length_drop] at hr0l ⊢; omega
  have hr2l : r2.length = G * 4 := by rw [hr2]; simp only [List.length_append, List.length_take, List.length_drop]; omega
  have hr2t : r2.take ((c + 1) * 4) = (l.take i ++ v :: l.drop i).flatMap Vr.V.cells := by rw [hput, hr2, hr1, h12]; exact fill_three F v.cells D Z R
  have f1 : ∀ W, W = w.drew.alloc (.cells (F ++ Z ++ R).toArray 45) → W.heap[w.heap.size]? = some (.cells (F ++ Z ++ R).toArray 45 (0, 0)) ∧ Below w.heap.size w W := fun W hW => by
    subst hW
    exact ⟨heap_alloc_new w.drew _, (Below.refl _ _).drew.alloc (Nat.le_refl _) _⟩
  have hcpA : ∀ W, W.heap[w.heap.size]? = some (.cells (F ++ Z ++ R).toArray 45 (0, 0)) → Below w.heap.size w W → ∀ ty dc sc, (Builtin.copy_ #[22, 22] ty #[.slice (some ⟨w.heap.size, i * 4, none⟩) (c + 1 - i) dc, .slice (some ⟨vb, 0, none⟩) 1 sc]).run Tryd.prog W = .ok (goInt (Nat.min 1 (c + 1 - i))) (W.setRow w.heap.size r1.toArray) := fun W hW hB ty dc sc => by
    have hvW : W.heap[vb]? = _ := (hB.block vb hvl).trans hvb
    have h := run_copy_rowS Tryd.prog W 22 22 ty 45 w.heap.size (i * 4) (c + 1 - i) dc ⟨vb, 0, none⟩ 1 sc _ 45 v.cells 4 Tryd.underlying22 hsz hW (by rw [Vr.V.cells_len, show Nat.min 1 (c + 1 - i) = 1 from Nat.min_eq_left (by omega)]) (fun j u hj => by
      rw [addr_add, cell_of_row W vb (0 + j) _ _ (0, 0) hvW, Nat.zero_add]
      simpa [Vr.V.cells] using hj) (by rw [List.size_toArray, hr0l, Vr.V.cells_len]; omega) h1v
    rw [h, hr1, ← h4]
  have hcpB : ∀ W, W.heap[w.heap.size]? = some (.cells r1.toArray 45 (0, 0)) → Below w.heap.size w W → ∀ ty dc sc, (Builtin.copy_ #[22, 22] ty #[.slice (some ⟨w.heap.size, (i + 1) * 4, none⟩) (c - i) dc, .slice (some ⟨g, i * 4, none⟩) (c - i) sc]).run Tryd.prog W = .ok (goInt (Nat.min (c - i) (c - i))) (W.setRow w.heap.size r2.toArray) := fun W hW hB ty dc sc => by
    have h := run_copy_rowS Tryd.prog W 22 22 ty 45 w.heap.size ((i + 1) * 4) (c - i) dc ⟨g, i * 4, none⟩ (c - i) sc _ 45 D 4 Tryd.underlying22 hsz hW (by rw [hdl, show Nat.min (c - i) (c - i) = c - i from Nat.min_self _]) (fun j u hj => by
      rw [addr_add]
      exact (hB.cell (p := ⟨g, i * 4 + j, none⟩) hgl).trans (hcD j u hj)) (by rw [List.size_toArray, hr1l, hdl]; omega) hD1
    rw [h, hr2, ← h8]
  have f2 : ∀ W W' : World, W.heap[w.heap.size]? = some (.cells (F ++ Z ++ R).toArray 45 (0, 0)) → Below w.heap.size w W → W' = W.setRow w.heap.size r1.toArray → W'.heap[w.heap.size]? = some (.cells r1.toArray 45 (0, 0)) ∧ Below w.heap.size w W' := fun W W' h hB e => by
    subst e
    exact ⟨setRow_heap W _ _ _ _ _ h, below_setRow_ hB (Nat.le_refl _) _⟩
  have f3 : ∀ W W' : World, W.heap[w.heap.size]? = some (.cells r1.toArray 45 (0, 0)) → Below w.heap.size w W → W' = W.setRow w.heap.size r2.toArray → OwnVars W' base 45 (some ⟨w.heap.size, 0, none⟩) (c + 1) G (l.take i ++ v :: l.drop i) ∧ Below base w W' := fun W W' h hB e => by
    subst e
    refine ⟨⟨by rw [flat4_len]; simp; omega, .inr ⟨w.heap.size, G, r2.toArray, rfl, hbase, setRow_heap W _ _ _ _ _ h, hGn, hG63, by rw [List.size_toArray]; exact hr2l, by rw [List.toList_toArray]; exact hr2t⟩⟩, (below_setRow_ hB (Nat.le_refl _) _).mono hbase⟩
  unfold maxLen at hG63 hcm
  have hz2' : ((i : Int) == (c : Int)) = false := by rw [beq_eq_false_iff_ne]; omega
  have hw1 : IntKind.i64.wrap ((i : Int) + 1) = (i : Int) + 1 := by rw [IntKind.wrap_i64]; omega
  have hb1 : (0 : Int) ≤ (i : Int) + 1 := by omega
  have htn : ((i : Int) + 1).toNat = i + 1 := by omega
  have hin : i ≤ c := by omega
  have hGi : ¬ (G = i) := by omega
  have hGim : ¬ (G = i + 1) := by omega
  have hci : ¬ (c = i) := by omega
  have hin1 : (i : Int) ≤ (c : Int) + 1 := by omega
  have hin2 : (i : Int) ≤ (c : Int) := by omega
  have hG1 : c + 1 ≤ G := hGn
  clear ho hll hbg hh hnc hcs hct hsz hxl hcur hcell hfl hdl hcF hcD hD1 hput h1v hz hzc hz0 hik hkk hG hGn hZ hR hZl hRl h4 h8 h12 hr1 hr2 hr0l hr1l hr2l hr2t hvb
  have HRZ := Lib.hid hrz
  have HF1 := Lib.hid f1
  have HF2 := Lib.hid f2
  have HF3 := Lib.hid f3
  have HA := Lib.hid hcpA
  have HB := Lib.hid hcpB
  clear hrz f1 f2 f3 hcpA hcpB
  go_enter Tryd.func53, Tryd.ntmps53
  go_wp2_with (first
    | (at_builtin; refine append_listV rfl (.tmp 34) (.tmp 39) _ _ rfl _ _ rfl rfl (HRZ.out _) ?_; intro W1 hW1; have k1 := HF1.out W1 hW1; clear hW1; have K1 := Lib.hid k1.1; have B1 := k1.2; clear k1)
    | ((with_reducible refine copy_listV rfl (.tmp 43) (.tmp 44) 22 22 rfl _ _ rfl rfl (HA.out _ K1.out B1 _ _ _) ?_); intro W2 hW2; have k2 := HF2.out _ W2 K1.out B1 hW2; clear hW2; have K2 := Lib.hid k2.1; have B2 := k2.2; clear k2))
  have hcp := fun ty dc sc => HB.out W2.drew K2.out B2.drew ty dc sc
  have k3 := Lib.hid (HF3.out W2.drew _ K2.out B2.drew rfl)
  go_region
  all_goals
    go_wp2
    go_ret
    exact ⟨_, _, rfl, k3.out.1, k3.out.2⟩
end
end Go.Proofs.YthkgjdhbibialaaDoor
