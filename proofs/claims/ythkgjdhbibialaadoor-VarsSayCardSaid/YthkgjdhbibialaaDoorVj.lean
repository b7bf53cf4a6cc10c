/- Walks of package vars: the library's Insert of one variable. -/
import Derived.Test.YthkgjdhbibialaaDoorVl
import Derived.Test.YthkgjdhbibialaaDoorTl
namespace Go.Proofs.YthkgjdhbibialaaDoor
open Go.RowKit

theorem own_block {w : World} {base n c : Nat} {e : TypeId} {A : Option Addr} {l : List Vr.V} (h : OwnVars w base e A n c l) (hn : 0 < n) :
    ∃ g cur, A = some ⟨g, 0, none⟩ ∧ base ≤ g ∧ w.heap[g]? = some (.cells cur e (0, 0)) ∧ n ≤ c ∧ c ≤ maxLen ∧ cur.size = c * 4 ∧ cur.toList.take (n * 4) = l.flatMap Vr.V.cells := by
  rcases h.2 with ⟨_, h0⟩ | ⟨g, cap, cur, hv, hg, hh, h1, h2, h3, h4⟩
  · omega
  · injection hv with hA _ hc
    subst hc
    exact ⟨g, cur, hA, hg, hh, h1, h2, h3, h4⟩
theorem below_setRow_ {B g : Nat} {w0 w : World} (hb : Below B w0 w) (hBg : B ≤ g) (cs : Array Value) : Below B w0 (w.setRow g cs) :=
  hb.trans ⟨rfl, rfl, rfl, by simp [World.setRow], fun k hk => setRow_other w g k cs (by omega)⟩

section
variable {P : Program} {w w' : World} {ops : Array Oper} {rest : List Oper} {o : Oper} {a : Act} {K : Act → World → Prop} {Q : Exit → Act → World → Prop} {E : Prop} {v' : Value}
theorem copy_listV (hgd : o.guard = none) (d x : Operand) (dT sT : TypeId) (ho : o.op = .call { callee := .builtin .copy, args := #[d, x], argTypes := #[dT, sT] }) (v u : Value) (hd : a.eval d = v) (hx : a.eval x = u)
    (hr : (Builtin.copy_ #[dT, sT] o.type #[v, u]).run P w = .ok v' w') (h : ∀ W, W = w' → wpList P ops Q rest (a.put o.dst v') W) : wpList P ops Q (o :: rest) a w := copy_list hgd d x dT sT ho v u hd hx hr (h _ rfl)
theorem copy_stepV (hgd : o.guard = none) (d x : Operand) (dT sT : TypeId) (ho : o.op = .call { callee := .builtin .copy, args := #[d, x], argTypes := #[dT, sT] }) (v u : Value) (hd : a.eval d = v) (hx : a.eval x = u)
    (hr : (Builtin.copy_ #[dT, sT] o.type #[v, u]).run P w = .ok v' w') (h : ∀ W, W = w' → K (a.put o.dst v') W) : if Region.wanted o (yielded ops a.tmps) = true then Oper.wp P o a w K Q else E := copy_step hgd d x dT sT ho v u hd hx hr (h _ rfl)
theorem append_listV (hgd : o.guard = none) (s x : Operand) (t tn : TypeId) (ho : o.op = .call { callee := .builtin .append, args := #[s, x], argTypes := #[t, tn] }) (vs vx : Value) (hs : a.eval s = vs) (hx : a.eval x = vx)
    (hr : (Builtin.append_ #[t, tn] o.type #[vs, vx]).run P w = .ok v' w') (h : ∀ W, W = w' → wpList P ops Q rest (a.put o.dst v') W) : wpList P ops Q (o :: rest) a w := Lib.wpList_append_run w hgd s x t tn ho vs vx hs hx v' w' hr (h _ rfl)
end

section
variable {w : World}
set_option maxRecDepth 100000 in
set_option maxHeartbeats 4000000 in
/-- There is room, and it does not stand at the end: in place. -/
theorem insert_room (base : Nat) (A : Option Addr) (n c : Nat) (l : List Vr.V) (i vb : Nat) (v : Vr.V) (ho : OwnVars w base 45 A n c l) (hi : i < n) (hroom : n + 1 ≤ c) (hn : n ≤ 1000000)
    (hvb : w.heap[vb]? = some (.cells #[.string v.name, .int .i64 v.kind, .int .i64 v.num, .string v.text] 45 (0, 0))) (hne : ∀ a, A = some a → a.block ≠ vb) :
    Calls Tryd.prog 53 #[.slice A n c, .int .i64 i, .slice (some ⟨vb, 0, none⟩) 1 1] w fun e w' => ∃ A' c', e = .returned (.slice A' (n + 1) c') ∧ OwnVars w' base 45 A' (n + 1) c' (l.take i ++ v :: l.drop i) ∧ Below base w w' := by
  obtain ⟨i0, hi0, hz0, hz1, hz2⟩ := info_parts info_var
  have hll := ho.len
  obtain ⟨g, cur, rfl, hbg, hh, hnc, hcm, hcs, hct⟩ := own_block ho (by omega)
  have hgv : g ≠ vb := hne _ rfl
  have hsz : (Tryd.prog.info? 45).map (·.size) = some 4 := by rw [hi0]; simp [hz1]
  unfold maxLen at hcm
  have hsa : w.shape? vb = some (45, 4) := by unfold World.shape?; rw [hvb]; rfl
  have hsb : w.shape? g = some (45, cur.size) := by unfold World.shape?; rw [hh]
  have hfa : w.frozen? ⟨vb, 0, none⟩ = false := by unfold World.frozen?; rw [hvb]; rfl
  have hfe : w.frozen? ⟨vb, 4, none⟩ = false := by unfold World.frozen?; rw [hvb]; rfl
  have hov : ∀ o lb cb, (callFunc 60 #[.slice (some ⟨vb, 0, none⟩) 1 1, .slice (some ⟨g, o, none⟩) lb cb]).run Tryd.prog w = .ok (.value (.bool false)) w := fun o lb cb => by
    rw [run_callFunc_extern Tryd.func60 (by kernel_rfl) (by kernel_rfl) (by kernel_rfl) (e := Extern.SlicesOverlaps.overlaps #[22, 22] #[4]) (by kernel_rfl),
      Lib.run_overlaps_apart w 22 4 45 Tryd.underlying22 4 (fun _ => by kernel_rfl) ⟨vb, 0, none⟩ ⟨g, o, none⟩ 1 1 lb cb (fun e => hgv e.symm) 45 45 4 cur.size hsa hsb (by omega) hfa hfe]
    rfl
  have hz2' : ¬ ((i : Int) = (n : Int)) := by omega
  have hw1 : IntKind.i64.wrap ((i : Int) + 1) = (i : Int) + 1 := by rw [IntKind.wrap_i64]; omega
  have hb1 : (0 : Int) ≤ (i : Int) + 1 := by omega
  have htn : ((i : Int) + 1).toNat = i + 1 := by omega
  have hin : i ≤ n := by omega
  have hb2 : ¬ (c = i + 1) := by omega
  have hb4 : ¬ (c = i) := by omega
  have hci : (n : Int) + 1 ≤ (c : Int) := by omega
  have hin1 : (i : Int) ≤ (n : Int) + 1 := by omega
  have hxl : (l.flatMap Vr.V.cells).length = n * 4 := by rw [flat4_len, hll]
  have hdl : ((l.flatMap Vr.V.cells).drop (i * 4)).length = (n - i) * 4 := by rw [List.length_drop, hxl, Nat.sub_mul]
  have hcl : cur.toList.length = c * 4 := by simpa using hcs
  have hcells : ∀ j u, ((l.flatMap Vr.V.cells).drop (i * 4))[j]? = some u → w.cell? ((⟨g, i * 4, none⟩ : Addr).add j) = some u := fun j u hj => by
    rw [addr_add]
    rw [List.getElem?_drop, ← hct, List.getElem?_take] at hj
    split at hj
    · rw [cell_of_row w g (i * 4 + j) cur _ (0, 0) hh]
      simpa using hj
    · cases hj
  have hD1 : ∀ u ∈ (l.flatMap Vr.V.cells).drop (i * 4), u.oneCell' = true := fun u hu => flat4_one l u (List.mem_of_mem_drop hu)
  obtain ⟨D, hD⟩ : ∃ D, D = (l.flatMap Vr.V.cells).drop (i * 4) := ⟨_, rfl⟩
  rw [← hD] at hdl hcells hD1
  obtain ⟨cur1, hcur1⟩ : ∃ cur1 : Array Value, cur1 = (cur.toList.take ((i + 1) * 4) ++ D ++ cur.toList.drop ((i + 1) * 4 + D.length)).toArray := ⟨_, rfl⟩
  have hcur1s : cur1.toList.length = cur.toList.length := by rw [hcur1]; simp; omega
  have hcp1 : ∀ ty dc sc, (Builtin.copy_ #[22, 22] ty #[.slice (some ⟨g, (i + 1) * 4, none⟩) (n - i) dc, .slice (some ⟨g, i * 4, none⟩) (n + 1 - i) sc]).run Tryd.prog w.drew = .ok (goInt (Nat.min (n + 1 - i) (n - i))) (w.drew.setRow g cur1) := fun ty dc sc => by
    rw [hcur1]
    exact run_copy_rowS Tryd.prog w.drew _ _ ty 45 g ((i + 1) * 4) (n - i) dc ⟨g, i * 4, none⟩ (n + 1 - i) sc cur 45 D 4 Tryd.underlying22 hsz hh (by rw [hdl, show Nat.min (n + 1 - i) (n - i) = n - i from Nat.min_eq_right (by omega)]) hcells (by omega) hD1
  have hh1 : (w.drew.setRow g cur1).heap[g]? = some (.cells cur1 45 (0, 0)) := setRow_heap w.drew g cur _ _ _ hh
  have hv1 : (w.drew.setRow g cur1).heap[vb]? = some (.cells #[.string v.name, .int .i64 v.kind, .int .i64 v.num, .string v.text] 45 (0, 0)) := (setRow_other w.drew g vb _ (fun e => hgv e.symm)).trans hvb
  have hb1' : Below base w (w.drew.setRow g cur1) := below_setRow_ (Below.refl _ _).drew hbg _
  generalize w.drew.setRow g cur1 = W1 at *
  obtain ⟨cur2, hcur2⟩ : ∃ cur2 : Array Value, cur2 = (cur1.toList.take (i * 4) ++ v.cells ++ cur1.toList.drop (i * 4 + v.cells.length)).toArray := ⟨_, rfl⟩
  have hcp2 : ∀ ty dc sc, (Builtin.copy_ #[22, 22] ty #[.slice (some ⟨g, i * 4, none⟩) (n + 1 - i) dc, .slice (some ⟨vb, 0, none⟩) 1 sc]).run Tryd.prog W1 = .ok (goInt (Nat.min 1 (n + 1 - i))) (W1.setRow g cur2) := fun ty dc sc => by
    rw [hcur2]
    exact run_copy_rowS Tryd.prog W1 _ _ ty 45 g (i * 4) (n + 1 - i) dc ⟨vb, 0, none⟩ 1 sc cur1 45 v.cells 4 Tryd.underlying22 hsz hh1 (by rw [Vr.V.cells_len, show Nat.min 1 (n + 1 - i) = 1 from Nat.min_eq_left (by omega)]) (fun j u hj => by
      rw [addr_add, cell_of_row W1 vb (0 + j) _ _ (0, 0) hv1, Nat.zero_add]
      simpa [Vr.V.cells] using hj) (by rw [Vr.V.cells_len]; have : cur1.toList.length = cur1.size := by simp
                                       omega) (fun u hu => by
      simp only [Vr.V.cells, List.mem_cons, List.not_mem_nil, or_false] at hu
      rcases hu with rfl | rfl | rfl | rfl <;> rfl)
  have hh2 : (W1.setRow g cur2).heap[g]? = some (.cells cur2 45 (0, 0)) := setRow_heap W1 g cur1 _ _ _ hh1
  have hb2' : Below base w (W1.setRow g cur2) := below_setRow_ hb1' hbg _
  have hfin : OwnVars (W1.setRow g cur2) base 45 (some ⟨g, 0, none⟩) (n + 1) c (l.take i ++ v :: l.drop i) := by
    have h4 : (i + 1) * 4 = i * 4 + v.cells.length := by rw [Vr.V.cells_len]; omega
    have hlen2 : cur2.toList.length = cur.toList.length := by
      rw [hcur2, hcur1, h4]
      have := put_between_len cur.toList D v.cells (i * 4) (by rw [Vr.V.cells_len]; omega)
      simpa using this
    refine ⟨by rw [flat4_len]; simp; omega, .inr ⟨g, c, cur2, rfl, hbg, hh2, hroom, by unfold maxLen; omega, ?_, ?_⟩⟩
    · have : cur2.toList.length = cur2.size := by simp
      omega
    · rw [Vr.flat_put, hcur2, hcur1, h4, hD]
      have := put_between cur.toList (l.flatMap Vr.V.cells) v.cells (i * 4) (n * 4) hct (by omega) (by rw [Vr.V.cells_len]; omega)
      rw [Vr.V.cells_len] at this
      rw [show (n + 1) * 4 = n * 4 + 4 from by omega]
      simpa using this
  generalize W1.setRow g cur2 = W2 at *
  clear hct hll hxl hdl hcl hcells hD1 hD hcur1 hcur1s hh1 hv1 hcur2 hh2 hsa hsb hfa hfe hb1'
  go_enter Tryd.func53, Tryd.ntmps53
  go_wp2_with (simp only [hov])
  go_region_law (refine copy_step rfl _ _ 22 22 rfl _ _ (by simp [Act.eval, Act.put]) (by simp [Act.eval, Act.put]) (hcp1 _ _ _) ?_)
  go_wp2_with (at_builtin; refine copy_list rfl _ _ 22 22 rfl _ _ rfl rfl (hcp2 _ _ _) ?_)
  go_ret
  exact ⟨_, _, rfl, hfin, hb2'⟩

set_option maxRecDepth 100000 in
set_option maxHeartbeats 4000000 in
/-- At the end. -/
theorem insert_end (base : Nat) (A : Option Addr) (n c : Nat) (l : List Vr.V) (vb : Nat) (v : Vr.V) (ho : OwnVars w base 45 A n c l) (hn : n ≤ 1000000) (hbase : base ≤ w.heap.size)
    (hvb : w.heap[vb]? = some (.cells #[.string v.name, .int .i64 v.kind, .int .i64 v.num, .string v.text] 45 (0, 0))) :
    Calls Tryd.prog 53 #[.slice A n c, .int .i64 n, .slice (some ⟨vb, 0, none⟩) 1 1] w fun e w' => ∃ A' c', e = .returned (.slice A' (n + 1) c') ∧ OwnVars w' base 45 A' (n + 1) c' (l ++ [v]) ∧ Below base w w' := by
  obtain ⟨i0, hi0, hz0, hz1, hz2⟩ := info_parts info_var
  have hrow : RowS w w.heap.size 4 (some ⟨vb, 0, none⟩) 1 v.cells := by
    refine ⟨rfl, fun _ => ⟨vb, 0, rfl, ?_, fun j u hj => ?_⟩⟩
    · rcases Nat.lt_or_ge vb w.heap.size with h | h
      · exact h
      · rw [Array.getElem?_eq_none h] at hvb; cases hvb
    · rw [cell_of_row w vb (0 + j) _ _ (0, 0) hvb, Nat.zero_add]
      simpa [Vr.V.cells] using hj
  have h1v : ∀ u ∈ v.cells, u.oneCell' = true := fun u hu => by
    simp only [Vr.V.cells, List.mem_cons, List.not_mem_nil, or_false] at hu
    rcases hu with rfl | rfl | rfl | rfl <;> rfl
  have hnc := ho.cap
  have hA := ho.nn
  have hself : ((n : Int) == (n : Int)) = true := by simp
  have hcm := ho.most
  unfold maxLen at hcm
  have hfl : (l ++ [v]).flatMap Vr.V.cells = l.flatMap Vr.V.cells ++ v.cells := by simp
  by_cases hcn : c = n
  · subst hcn
    go_enter Tryd.func53, Tryd.ntmps53
    go_wp2_with (at_builtin; refine append_row rfl (.tmp 23) (.tmp 24) _ rfl 45 i0 _ 4 48 Tryd.underlying22 hi0 hz0 hz1 hz2 rfl (by decide) base _ _ (l.flatMap Vr.V.cells) rfl ho w.heap.size _ 1 1 v.cells rfl (fun h => by cases h) hrow h1v ?h5 ?h6 hbase ?_)
    case h5 => unfold maxLen; omega
    case h6 => omega
    intro v2 w2 ho2 hg2 _
    obtain ⟨A2, c2, rfl, _⟩ := own_form ho2
    go_wp2
    go_ret
    exact ⟨A2, c2, rfl, by unfold OwnVars; rw [hfl]; exact ho2, (Below.refl _ _).grown hg2 hbase fun k hk => (ho.lt k hk).1⟩
  · go_enter Tryd.func53, Tryd.ntmps53
    go_wp2_with (at_builtin; refine append_row rfl (.tmp 23) (.tmp 24) _ rfl 45 i0 _ 4 48 Tryd.underlying22 hi0 hz0 hz1 hz2 rfl (by decide) base _ _ (l.flatMap Vr.V.cells) rfl ho w.heap.size _ 1 1 v.cells rfl (fun h => by cases h) hrow h1v ?h5 ?h6 hbase ?_)
    case h5 => unfold maxLen; omega
    case h6 => omega
    intro v2 w2 ho2 hg2 _
    obtain ⟨A2, c2, rfl, _⟩ := own_form ho2
    go_wp2
    go_ret
    exact ⟨A2, c2, rfl, by unfold OwnVars; rw [hfl]; exact ho2, (Below.refl _ _).grown hg2 hbase fun k hk => (ho.lt k hk).1⟩
end
end Go.Proofs.YthkgjdhbibialaaDoor
