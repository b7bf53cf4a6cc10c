/- Walks of package vars: rows of variables of the call's own are copied, written, grown. -/
import Derived.Test.YtlmlhjepolefaaaGreatDoorViY
import Derived.Test.YtlmlhjepolefaaaGreatDoorYTokenWaits12
import Derived.OwnWalk
import Derived.Laws.CopyRow
import Derived.Lib.Overlaps
import Derived.Lib.AppendZerosOnto
import Derived.Laws.Externs
import Derived.Laws.NewBlocks
import Derived.Deep.RegionLaw
namespace Go.Proofs.YtlmlhjepolefaaaGreatDoor
open Go.RowKit

theorem info_var : (Tryz.prog.info? 52).map (fun i => (i.zero, i.size, i.bytes)) = some (some (.agg #[.string ⟨#[]⟩, .int .i64 0, .int .i64 0, .string ⟨#[]⟩]), 4, 48) := by kernel_rfl

/-- A copy of elements of several cells, into a row that is known whole. -/
theorem run_copy_rowS (P : Program) (w : World) (dT sT ty elem : TypeId) (g o dLen dCap : Nat) (a : Addr) (sLen sCap : Nat) (cur : Array Value) (t : TypeId) (cs : List Value) (sz : Nat)
    (hu : P.underlying dT = some (.slice elem)) (hs : (P.info? elem).map (·.size) = some sz)
    (hg : w.heap[g]? = some (.cells cur t (0, 0))) (hn : cs.length = Nat.min sLen dLen * sz)
    (hsrc : ∀ j v, cs[j]? = some v → w.cell? (a.add j) = some v) (hfit : o + cs.length ≤ cur.size) (h1 : ∀ v ∈ cs, v.oneCell' = true) :
    (Builtin.copy_ #[dT, sT] ty #[.slice (some ⟨g, o, none⟩) dLen dCap, .slice (some a) sLen sCap]).run P w =
      .ok (goInt (Nat.min sLen dLen)) (w.setRow g (cur.toList.take o ++ cs ++ cur.toList.drop (o + cs.length)).toArray) := by
  have hl := run_loadCells_list (P := P) w a cs hsrc
  have hst := run_storeCells_at P g o t cs 0 cur w hg (by simpa using hfit) h1
  cases hq : P.info? elem with
  | none => simp [hq] at hs
  | some i =>
    have hi : i.size = sz := by simpa [hq] using hs
    simp [Builtin.copy_, run_underlying hu, Builtin.lenOf, Builtin.firstCells, sizeOf, typeInfo, hq, hi, ← hn, hl, hst]

section
variable {P : Program} {w w' : World} {ops : Array Oper} {rest : List Oper} {o : Oper} {a : Act} {K : Act → World → Prop} {Q : Exit → Act → World → Prop} {E : Prop} {v' : Value}
theorem copy_wp (d x : Operand) (dT sT : TypeId) (ho : o.op = .call { callee := .builtin .copy, args := #[d, x], argTypes := #[dT, sT] }) (v u : Value) (hd : a.eval d = v) (hx : a.eval x = u)
    (hr : (Builtin.copy_ #[dT, sT] o.type #[v, u]).run P w = .ok v' w') (h : K (a.put o.dst v') w') : o.wp P a w K Q := by
  unfold Oper.wp execOp
  simp only [ho, resolve, invoke, builtin, Sem.run_bind, Sem.run_pure, Result.andThen_ok, List.map_toArray, List.map_cons, List.map_nil, hd, hx, hr]
  exact h
theorem copy_list (hgd : o.guard = none) (d x : Operand) (dT sT : TypeId) (ho : o.op = .call { callee := .builtin .copy, args := #[d, x], argTypes := #[dT, sT] }) (v u : Value) (hd : a.eval d = v) (hx : a.eval x = u)
    (hr : (Builtin.copy_ #[dT, sT] o.type #[v, u]).run P w = .ok v' w') (h : wpList P ops Q rest (a.put o.dst v') w') : wpList P ops Q (o :: rest) a w :=
  wpList_plain hgd fun _ hK => copy_wp d x dT sT ho v u hd hx hr (hK _ _ h)
theorem copy_step (hgd : o.guard = none) (d x : Operand) (dT sT : TypeId) (ho : o.op = .call { callee := .builtin .copy, args := #[d, x], argTypes := #[dT, sT] }) (v u : Value) (hd : a.eval d = v) (hx : a.eval x = u)
    (hr : (Builtin.copy_ #[dT, sT] o.type #[v, u]).run P w = .ok v' w') (h : K (a.put o.dst v') w') : if Region.wanted o (yielded ops a.tmps) = true then Oper.wp P o a w K Q else E := by
  rw [if_pos (by simp [Region.wanted, hgd])]
  exact copy_wp d x dT sT ho v u hd hx hr h
end

/-- The parts of a row into which one is put. -/
theorem put_between {α : Type} (L xs V : List α) (a m : Nat) (hx : L.take m = xs) (ham : a ≤ m) (hm : m + V.length ≤ L.length) :
    (((L.take (a + V.length) ++ xs.drop a ++ L.drop (a + V.length + (xs.drop a).length)).take a ++ V ++ (L.take (a + V.length) ++ xs.drop a ++ L.drop (a + V.length + (xs.drop a).length)).drop (a + V.length))).take (m + V.length) = xs.take a ++ V ++ xs.drop a := by
  have hxl : xs.length = m := by rw [← hx, List.length_take]; omega
  have h2 : L.take a = xs.take a := by rw [← hx, List.take_take, Nat.min_eq_left ham]
  have hD : (xs.drop a).length = m - a := by rw [List.length_drop, hxl]
  have hta : (xs.take a).length = a := by rw [List.length_take]; omega
  generalize xs.drop a = D at *
  generalize xs.take a = F at *
  obtain ⟨R, hR⟩ : ∃ R, R = L.drop (a + V.length + D.length) := ⟨_, rfl⟩
  obtain ⟨X, hX⟩ : ∃ X, X = L.take (a + V.length) := ⟨_, rfl⟩
  have hXl : X.length = a + V.length := by rw [hX, List.length_take]; omega
  have hXa : X.take a = F := by rw [hX, List.take_take, Nat.min_eq_left (by omega), h2]
  rw [← hR, ← hX]
  have e1 : (X ++ D ++ R).take a = F := by rw [List.append_assoc, List.take_append_of_le_length (by omega), hXa]
  have e2 : (X ++ D ++ R).drop (a + V.length) = D ++ R := by rw [List.append_assoc, ← hXl, List.drop_left]
  have e3 : (F ++ V ++ D).length = m + V.length := by simp only [List.length_append]; omega
  rw [e1, e2, ← List.append_assoc, ← e3, List.take_left]
theorem put_between_len {α : Type} (L D V : List α) (a : Nat) (hm : a + V.length + D.length ≤ L.length) :
    ((L.take (a + V.length) ++ D ++ L.drop (a + V.length + D.length)).take a ++ V ++ (L.take (a + V.length) ++ D ++ L.drop (a + V.length + D.length)).drop (a + V.length)).length = L.length := by
  simp; omega

namespace Vr
/-- One in the place of the one of its name, or where its name belongs. -/
def place (l : List V) (s : ByteArray) : Nat := if idx (behind s) l < 0 then l.length else (idx (behind s) l).toNat
def setOne (l : List V) (v : V) : List V := if 0 ≤ idx (named v.name) l then l.set (idx (named v.name) l).toNat v else l.take (place l v.name) ++ v :: l.drop (place l v.name)
theorem place_le (l : List V) (s : ByteArray) : place l s ≤ l.length := by
  unfold place
  rcases idx_cases (behind s) l with ⟨h, _⟩ | ⟨k, h, hk, _⟩
  · rw [h]; simp
  · rw [h, if_neg (by omega)]; simp; omega
theorem setOne_len (l : List V) (v : V) : l.length ≤ (setOne l v).length ∧ (setOne l v).length ≤ l.length + 1 := by
  unfold setOne
  have := place_le l v.name
  split
  · simp
  · simp; omega
theorem flat_set : ∀ (l : List V) (k : Nat) (v : V), k < l.length → ((((l.flatMap V.cells).set (k * 4) (.string v.name)).set (k * 4 + 1) (.int .i64 v.kind)).set (k * 4 + 2) (.int .i64 v.num)).set (k * 4 + 3) (.string v.text) = (l.set k v).flatMap V.cells
  | y :: l, 0, v, _ => by simp [V.cells]
  | y :: l, k + 1, v, h => by
    have ih := flat_set l k v (by simpa using h)
    rw [List.set_cons_succ, List.flatMap_cons, List.flatMap_cons, ← ih]
    have e : y.cells = [.string y.name, .int .i64 y.kind, .int .i64 y.num, .string y.text] := rfl
    rw [e]
    simp [Nat.add_mul]
theorem flat_take (l : List V) (k : Nat) : (l.take k).flatMap V.cells = (l.flatMap V.cells).take (k * 4) := by
  induction l generalizing k with
  | nil => simp
  | cons y l ih =>
    cases k with
    | zero => simp
    | succ k =>
      rw [List.take_succ_cons, List.flatMap_cons, List.flatMap_cons, ih, show (k + 1) * 4 = y.cells.length + k * 4 from by simp only [V.cells_len]; omega, List.take_length_add_append]
theorem flat_drop (l : List V) (k : Nat) : (l.drop k).flatMap V.cells = (l.flatMap V.cells).drop (k * 4) := by
  induction l generalizing k with
  | nil => simp
  | cons y l ih =>
    cases k with
    | zero => simp
    | succ k =>
      rw [List.drop_succ_cons, List.flatMap_cons, ih, show (k + 1) * 4 = y.cells.length + k * 4 from by simp only [V.cells_len]; omega, List.drop_length_add_append]
theorem flat_put (l : List V) (k : Nat) (v : V) : (l.take k ++ v :: l.drop k).flatMap V.cells = (l.flatMap V.cells).take (k * 4) ++ v.cells ++ (l.flatMap V.cells).drop (k * 4) := by
  rw [List.flatMap_append, List.flatMap_cons, flat_take, flat_drop, List.append_assoc]
end Vr

set_option maxHeartbeats 400000 in
theorem vclone_any (A : Option Addr) (n c : Nat) (l : List Vr.V) (w : World) (hr : VRow w w.heap.size A n l) (hA : A = none → n = 0 ∧ c = 0) (hn : n ≤ 1099511627776) :
    Calls Tryz.prog 24 #[.slice A n c] w fun e w' => ∃ A' c', e = .returned (.slice A' n c') ∧ OwnVars w' w.heap.size 52 A' n c' l ∧ Below w.heap.size w w' := by
  obtain ⟨i0, hi0, hz0, hz1, hz2⟩ := info_parts info_var
  have q0 : ∀ (w : World) (a : Option Addr) (n c n' c' : Nat), (binOp .eql 36 (.slice a n c) (.slice none n' c')).run Tryz.prog w = .ok (.bool a.isNone) w := fun w a n c n' c' => Lib.run_eql_slice_nil w _ _ a n c n' c' Tryz.underlying36
  cases A with
  | none =>
    obtain ⟨rfl, rfl⟩ := hA rfl
    go_enter Tryz.func24, Tryz.ntmps24
    go_wp2
    go_ret
    have hl : l = [] := List.eq_nil_of_length_eq_zero hr.len
    subst hl
    exact ⟨none, 0, rfl, World.ownsRow_nil _ _ _ _, Below.refl _ _⟩
  | some a =>
    go_enter Tryz.func24, Tryz.ntmps24
    have hb1 : Below w.heap.size w (w.alloc (.cells #[] 52)) := (Below.refl _ _).alloc (Nat.le_refl _) _
    go_wp2_with (at_builtin; refine append_row rfl (.tmp 5) (.tmp 6) _ rfl 52 i0 _ 4 48 Tryz.underlying36 hi0 hz0 hz1 hz2 rfl (by decide) w.heap.size _ 0 [] rfl (World.ownsRow_lit w #[] 0 (Nat.le_refl _) (by decide) rfl) w.heap.size _ n c (l.flatMap Vr.V.cells) rfl hA (hr.below hb1 (Nat.le_refl _)) (flat4_one l) ?h5 ?h6 hb1.size ?_)
    case h5 => unfold maxLen; omega
    case h6 => omega
    intro v2 w2 ho2 hg2 hat2
    obtain ⟨A2, c2, rfl, hA2⟩ := own_form ho2
    go_wp2
    go_ret
    refine ⟨A2, c2, ?_, ?_, hb1.grown hg2 hb1.size fun k hk => ?_⟩
    · simp
    · simpa [OwnVars] using ho2
    · simp [Value.ownBlock] at hk; omega
end Go.Proofs.YtlmlhjepolefaaaGreatDoor
