/- Mathematics of package cond: what the texts of the walks are as conditions. Walks of package vars: rows of variables of the call's own are copied, written, grown. Mathematics of package token: tokens on a board, which can go on, one move. -/
import Derived.Test.YtkffnfgdmcebdaaGreatDoorYJoint10
import Derived.Test.YtkffnfgdmcebdaaGreatDoorYJoint22
import Derived.OwnWalk
import Derived.Laws.CopyRow
import Derived.Lib.Overlaps
import Derived.Lib.AppendZerosOnto
import Derived.Laws.Externs
import Derived.Laws.NewBlocks
import Derived.Deep.RegionLaw
import Derived.Test.YtkffnfgdmcebdaaGreatDoorYJoint8
import Derived.Test.YtkffnfgdmcebdaaGreatDoorQfY
import Derived.Test.YtkffnfgdmcebdaaGreatDoorYJoint12
namespace Go.Proofs.YtkffnfgdmcebdaaGreatDoor
open Go.RowKit

namespace Co
/-- A text of a walk, and its condition. -/
structure Tx where
  s : List UInt8
  t : Tr
instance : Inhabited Tx := ⟨⟨[], .none⟩⟩
def Tx.ok (x : Tx) : Prop := parse x.s = some (x.t, .none)
def txB0 : Tx := ⟨[112, 32, 111, 114, 32, 113], (.two 3 (.leaf 2 0 0 [] [112]) (.leaf 2 0 0 [] [113]))⟩
theorem txB0_ok : txB0.ok := by unfold Tx.ok; kernel_rfl
def txB1 : Tx := ⟨[112, 32, 97, 110, 100, 32, 113], (.two 4 (.leaf 2 0 0 [] [112]) (.leaf 2 0 0 [] [113]))⟩
theorem txB1_ok : txB1.ok := by unfold Tx.ok; kernel_rfl
def txB2 : Tx := ⟨[110, 111, 116, 32, 112], (.one 5 (.leaf 2 0 0 [] [112]))⟩
theorem txB2_ok : txB2.ok := by unfold Tx.ok; kernel_rfl
def txB3 : Tx := ⟨[112, 32, 61, 61, 32, 113], (.two 6 (.leaf 2 0 0 [] [112]) (.leaf 2 0 0 [] [113]))⟩
theorem txB3_ok : txB3.ok := by unfold Tx.ok; kernel_rfl
def txB4 : Tx := ⟨[112, 32, 33, 61, 32, 113], (.two 7 (.leaf 2 0 0 [] [112]) (.leaf 2 0 0 [] [113]))⟩
theorem txB4_ok : txB4.ok := by unfold Tx.ok; kernel_rfl
def txB5 : Tx := ⟨[97, 32, 60, 32, 98], (.two 8 (.leaf 2 0 0 [] [97]) (.leaf 2 0 0 [] [98]))⟩
theorem txB5_ok : txB5.ok := by unfold Tx.ok; kernel_rfl
def txB6 : Tx := ⟨[97, 32, 60, 61, 32, 98], (.two 9 (.leaf 2 0 0 [] [97]) (.leaf 2 0 0 [] [98]))⟩
theorem txB6_ok : txB6.ok := by unfold Tx.ok; kernel_rfl
def txB7 : Tx := ⟨[97, 32, 62, 32, 98], (.two 10 (.leaf 2 0 0 [] [97]) (.leaf 2 0 0 [] [98]))⟩
theorem txB7_ok : txB7.ok := by unfold Tx.ok; kernel_rfl
def txB8 : Tx := ⟨[97, 32, 62, 61, 32, 98], (.two 11 (.leaf 2 0 0 [] [97]) (.leaf 2 0 0 [] [98]))⟩
theorem txB8_ok : txB8.ok := by unfold Tx.ok; kernel_rfl
def txB9 : Tx := ⟨[97, 32, 61, 61, 32, 98], (.two 6 (.leaf 2 0 0 [] [97]) (.leaf 2 0 0 [] [98]))⟩
theorem txB9_ok : txB9.ok := by unfold Tx.ok; kernel_rfl
def txB10 : Tx := ⟨[97, 32, 33, 61, 32, 98], (.two 7 (.leaf 2 0 0 [] [97]) (.leaf 2 0 0 [] [98]))⟩
theorem txB10_ok : txB10.ok := by unfold Tx.ok; kernel_rfl
def txB13 : Tx := ⟨[97, 32, 60, 32, 98, 32, 111, 114, 32, 97, 32, 61, 61, 32, 98, 32, 111, 114, 32, 97, 32, 62, 32, 98], (.two 3 (.two 3 (.two 8 (.leaf 2 0 0 [] [97]) (.leaf 2 0 0 [] [98])) (.two 6 (.leaf 2 0 0 [] [97]) (.leaf 2 0 0 [] [98]))) (.two 10 (.leaf 2 0 0 [] [97]) (.leaf 2 0 0 [] [98])))⟩
theorem txB13_ok : txB13.ok := by unfold Tx.ok; kernel_rfl
def txBl : Tx := ⟨[40, 110, 111, 116, 32, 40, 112, 32, 97, 110, 100, 32, 113, 41, 41, 32, 61, 61, 32, 40, 110, 111, 116, 32, 112, 32, 111, 114, 32, 110, 111, 116, 32, 113, 41], (.two 6 (.one 5 (.two 4 (.leaf 2 0 0 [] [112]) (.leaf 2 0 0 [] [113]))) (.two 3 (.one 5 (.leaf 2 0 0 [] [112])) (.one 5 (.leaf 2 0 0 [] [113]))))⟩
theorem txBl_ok : txBl.ok := by unfold Tx.ok; kernel_rfl
def txF : Tx := ⟨[49, 32, 60, 32, 50, 32, 97, 110, 100, 32, 110, 111, 116, 32, 102, 97, 108, 115, 101], (.two 4 (.two 8 (.leaf 1 1 1 [] []) (.leaf 1 1 2 [] [])) (.one 5 (.leaf 1 2 0 [] [])))⟩
theorem txF_ok : txF.ok := by unfold Tx.ok; kernel_rfl
def txN0 : Tx := ⟨[97, 32, 43, 32, 98, 32, 42, 32, 99], (.two 12 (.leaf 2 0 0 [] [97]) (.two 14 (.leaf 2 0 0 [] [98]) (.leaf 2 0 0 [] [99])))⟩
theorem txN0_ok : txN0.ok := by unfold Tx.ok; kernel_rfl
def txN1 : Tx := ⟨[97, 32, 45, 32, 98, 32, 45, 32, 99], (.two 13 (.two 13 (.leaf 2 0 0 [] [97]) (.leaf 2 0 0 [] [98])) (.leaf 2 0 0 [] [99]))⟩
theorem txN1_ok : txN1.ok := by unfold Tx.ok; kernel_rfl
def txN2 : Tx := ⟨[40, 97, 32, 43, 32, 98, 41, 32, 42, 32, 99], (.two 14 (.two 12 (.leaf 2 0 0 [] [97]) (.leaf 2 0 0 [] [98])) (.leaf 2 0 0 [] [99]))⟩
theorem txN2_ok : txN2.ok := by unfold Tx.ok; kernel_rfl
def txN3 : Tx := ⟨[45, 97], (.one 17 (.leaf 2 0 0 [] [97]))⟩
theorem txN3_ok : txN3.ok := by unfold Tx.ok; kernel_rfl
def txN4 : Tx := ⟨[97, 32, 42, 32, 45, 98], (.two 14 (.leaf 2 0 0 [] [97]) (.one 17 (.leaf 2 0 0 [] [98])))⟩
theorem txN4_ok : txN4.ok := by unfold Tx.ok; kernel_rfl
def txNl : Tx := ⟨[97, 32, 47, 32, 98, 32, 42, 32, 98, 32, 43, 32, 97, 32, 37, 32, 98, 32, 61, 61, 32, 97], (.two 6 (.two 12 (.two 14 (.two 15 (.leaf 2 0 0 [] [97]) (.leaf 2 0 0 [] [98])) (.leaf 2 0 0 [] [98])) (.two 16 (.leaf 2 0 0 [] [97]) (.leaf 2 0 0 [] [98]))) (.leaf 2 0 0 [] [97]))⟩
theorem txNl_ok : txNl.ok := by unfold Tx.ok; kernel_rfl
def txZo0 : Tx := ⟨[112, 32, 111, 114, 32, 120], (.two 3 (.leaf 2 0 0 [] [112]) (.leaf 2 0 0 [] [120]))⟩
theorem txZo0_ok : txZo0.ok := by unfold Tx.ok; kernel_rfl
def txZa0 : Tx := ⟨[112, 32, 97, 110, 100, 32, 120], (.two 4 (.leaf 2 0 0 [] [112]) (.leaf 2 0 0 [] [120]))⟩
theorem txZa0_ok : txZa0.ok := by unfold Tx.ok; kernel_rfl
def txZb0 : Tx := ⟨[120, 32, 111, 114, 32, 112], (.two 3 (.leaf 2 0 0 [] [120]) (.leaf 2 0 0 [] [112]))⟩
theorem txZb0_ok : txZb0.ok := by unfold Tx.ok; kernel_rfl
def txZo1 : Tx := ⟨[112, 32, 111, 114, 32, 49, 32, 47, 32, 48, 32, 61, 61, 32, 49], (.two 3 (.leaf 2 0 0 [] [112]) (.two 6 (.two 15 (.leaf 1 1 1 [] []) (.leaf 1 1 0 [] [])) (.leaf 1 1 1 [] [])))⟩
theorem txZo1_ok : txZo1.ok := by unfold Tx.ok; kernel_rfl
def txZa1 : Tx := ⟨[112, 32, 97, 110, 100, 32, 49, 32, 47, 32, 48, 32, 61, 61, 32, 49], (.two 4 (.leaf 2 0 0 [] [112]) (.two 6 (.two 15 (.leaf 1 1 1 [] []) (.leaf 1 1 0 [] [])) (.leaf 1 1 1 [] [])))⟩
theorem txZa1_ok : txZa1.ok := by unfold Tx.ok; kernel_rfl
def txZb1 : Tx := ⟨[49, 32, 47, 32, 48, 32, 61, 61, 32, 49, 32, 111, 114, 32, 112], (.two 3 (.two 6 (.two 15 (.leaf 1 1 1 [] []) (.leaf 1 1 0 [] [])) (.leaf 1 1 1 [] [])) (.leaf 2 0 0 [] [112]))⟩
theorem txZb1_ok : txZb1.ok := by unfold Tx.ok; kernel_rfl
def txZo2 : Tx := ⟨[112, 32, 111, 114, 32, 49], (.two 3 (.leaf 2 0 0 [] [112]) (.leaf 1 1 1 [] []))⟩
theorem txZo2_ok : txZo2.ok := by unfold Tx.ok; kernel_rfl
def txZa2 : Tx := ⟨[112, 32, 97, 110, 100, 32, 49], (.two 4 (.leaf 2 0 0 [] [112]) (.leaf 1 1 1 [] []))⟩
theorem txZa2_ok : txZa2.ok := by unfold Tx.ok; kernel_rfl
def txZb2 : Tx := ⟨[49, 32, 111, 114, 32, 112], (.two 3 (.leaf 1 1 1 [] []) (.leaf 2 0 0 [] [112]))⟩
theorem txZb2_ok : txZb2.ok := by unfold Tx.ok; kernel_rfl
def txZo3 : Tx := ⟨[112, 32, 111, 114, 32, 110, 111, 116, 32, 49], (.two 3 (.leaf 2 0 0 [] [112]) (.one 5 (.leaf 1 1 1 [] [])))⟩
theorem txZo3_ok : txZo3.ok := by unfold Tx.ok; kernel_rfl
def txZa3 : Tx := ⟨[112, 32, 97, 110, 100, 32, 110, 111, 116, 32, 49], (.two 4 (.leaf 2 0 0 [] [112]) (.one 5 (.leaf 1 1 1 [] [])))⟩
theorem txZa3_ok : txZa3.ok := by unfold Tx.ok; kernel_rfl
def txZb3 : Tx := ⟨[110, 111, 116, 32, 49, 32, 111, 114, 32, 112], (.two 3 (.one 5 (.leaf 1 1 1 [] [])) (.leaf 2 0 0 [] [112]))⟩
theorem txZb3_ok : txZb3.ok := by unfold Tx.ok; kernel_rfl
def txZo4 : Tx := ⟨[112, 32, 111, 114, 32, 34, 97, 34, 32, 60, 32, 49], (.two 3 (.leaf 2 0 0 [] [112]) (.two 8 (.leaf 1 3 0 [97] []) (.leaf 1 1 1 [] [])))⟩
theorem txZo4_ok : txZo4.ok := by unfold Tx.ok; kernel_rfl
def txZa4 : Tx := ⟨[112, 32, 97, 110, 100, 32, 34, 97, 34, 32, 60, 32, 49], (.two 4 (.leaf 2 0 0 [] [112]) (.two 8 (.leaf 1 3 0 [97] []) (.leaf 1 1 1 [] [])))⟩
theorem txZa4_ok : txZa4.ok := by unfold Tx.ok; kernel_rfl
def txZb4 : Tx := ⟨[34, 97, 34, 32, 60, 32, 49, 32, 111, 114, 32, 112], (.two 3 (.two 8 (.leaf 1 3 0 [97] []) (.leaf 1 1 1 [] [])) (.leaf 2 0 0 [] [112]))⟩
theorem txZb4_ok : txZb4.ok := by unfold Tx.ok; kernel_rfl
def txT0 : Tx := ⟨[97, 32, 61, 61, 32, 98], (.two 6 (.leaf 2 0 0 [] [97]) (.leaf 2 0 0 [] [98]))⟩
theorem txT0_ok : txT0.ok := by unfold Tx.ok; kernel_rfl
def txT1 : Tx := ⟨[97, 32, 33, 61, 32, 98], (.two 7 (.leaf 2 0 0 [] [97]) (.leaf 2 0 0 [] [98]))⟩
theorem txT1_ok : txT1.ok := by unfold Tx.ok; kernel_rfl
def txT2 : Tx := ⟨[97, 32, 60, 32, 98], (.two 8 (.leaf 2 0 0 [] [97]) (.leaf 2 0 0 [] [98]))⟩
theorem txT2_ok : txT2.ok := by unfold Tx.ok; kernel_rfl
def txT3 : Tx := ⟨[97, 32, 60, 61, 32, 98], (.two 9 (.leaf 2 0 0 [] [97]) (.leaf 2 0 0 [] [98]))⟩
theorem txT3_ok : txT3.ok := by unfold Tx.ok; kernel_rfl
def txT4 : Tx := ⟨[97, 32, 62, 32, 98], (.two 10 (.leaf 2 0 0 [] [97]) (.leaf 2 0 0 [] [98]))⟩
theorem txT4_ok : txT4.ok := by unfold Tx.ok; kernel_rfl
def txT5 : Tx := ⟨[97, 32, 62, 61, 32, 98], (.two 11 (.leaf 2 0 0 [] [97]) (.leaf 2 0 0 [] [98]))⟩
theorem txT5_ok : txT5.ok := by unfold Tx.ok; kernel_rfl
def txX0 : Tx := ⟨[97, 32, 61, 61, 32, 110], (.two 6 (.leaf 2 0 0 [] [97]) (.leaf 2 0 0 [] [110]))⟩
theorem txX0_ok : txX0.ok := by unfold Tx.ok; kernel_rfl
def txX1 : Tx := ⟨[110, 32, 60, 32, 112], (.two 8 (.leaf 2 0 0 [] [110]) (.leaf 2 0 0 [] [112]))⟩
theorem txX1_ok : txX1.ok := by unfold Tx.ok; kernel_rfl
def txX2 : Tx := ⟨[112, 32, 60, 32, 112], (.two 8 (.leaf 2 0 0 [] [112]) (.leaf 2 0 0 [] [112]))⟩
theorem txX2_ok : txX2.ok := by unfold Tx.ok; kernel_rfl
def txX3 : Tx := ⟨[97, 32, 45, 32, 98], (.two 13 (.leaf 2 0 0 [] [97]) (.leaf 2 0 0 [] [98]))⟩
theorem txX3_ok : txX3.ok := by unfold Tx.ok; kernel_rfl
def txX4 : Tx := ⟨[110, 111, 116, 32, 97], (.one 5 (.leaf 2 0 0 [] [97]))⟩
theorem txX4_ok : txX4.ok := by unfold Tx.ok; kernel_rfl
def txX5 : Tx := ⟨[110, 32, 97, 110, 100, 32, 112], (.two 4 (.leaf 2 0 0 [] [110]) (.leaf 2 0 0 [] [112]))⟩
theorem txX5_ok : txX5.ok := by unfold Tx.ok; kernel_rfl
def txX6 : Tx := ⟨[112, 32, 43, 32, 112], (.two 12 (.leaf 2 0 0 [] [112]) (.leaf 2 0 0 [] [112]))⟩
theorem txX6_ok : txX6.ok := by unfold Tx.ok; kernel_rfl
def txX7 : Tx := ⟨[45, 97], (.one 17 (.leaf 2 0 0 [] [97]))⟩
theorem txX7_ok : txX7.ok := by unfold Tx.ok; kernel_rfl
def txTl : Tx := ⟨[97, 32, 43, 32, 98], (.two 12 (.leaf 2 0 0 [] [97]) (.leaf 2 0 0 [] [98]))⟩
theorem txTl_ok : txTl.ok := by unfold Tx.ok; kernel_rfl
/-- So many brackets, nots, signs. -/
def deepT (o i c : List UInt8) (n : Nat) : List UInt8 := (List.replicate n o).flatten ++ i ++ (List.replicate n c).flatten
/-- The tree of it, where it is none too deep. -/
def deepR (l : List UInt8) : Option (Option (Int × Nat)) := (parse l).map (·.2)
theorem deep0 : (List.range 20).all (fun n => decide (deepR (deepT [40] [97] [41] n) = some (if n ≤ 12 then .none else some (112, 12)))) = true := by decide +kernel
theorem deep1 : (List.range 20).all (fun n => decide (deepR (deepT [110, 111, 116, 32] [112] [] n) = some (if n ≤ 12 then .none else if 80 < (deepT [110, 111, 116, 32] [112] [] n).length then some (105, 80) else some (112, 48)))) = true := by decide +kernel
theorem deep2 : (List.range 20).all (fun n => decide (deepR (deepT [45] [97] [] n) = some (if n ≤ 12 then .none else some (112, 12)))) = true := by decide +kernel
end Co
end Go.Proofs.YtkffnfgdmcebdaaGreatDoor
namespace Go.Proofs.YtkffnfgdmcebdaaGreatDoor
open Go.RowKit

theorem info_var : (Tryz.prog.info? 96).map (fun i => (i.zero, i.size, i.bytes)) = some (some (.agg #[.string ⟨#[]⟩, .int .i64 0, .int .i64 0, .string ⟨#[]⟩]), 4, 48) := by kernel_rfl

/-- A copy of elements of several cells, into a row that is known whole. -/
theorem run_copy_rowS (P : Program) (w : World) (dT sT ty elem : TypeId) (g o dLen dCap : Nat) (a : Addr) (sLen sCap : Nat) (cur : Array Value) (t : TypeId) (cs : List Value) (sz : Nat)
    (hu : P.underlying dT = some (.slice elem)) (hs : (P.info? elem).map (·.size) = some sz)
    (hg : w.heap[g]? = some (.cells cur t (0, 0))) (hn : cs.length = Nat.min sLen dLen * sz)
    (hsrc : ∀ j v, cs[j]? = some v → w.cell? (a.add j) = some v) (hfit : o + cs.length ≤ cur.size) (h1 : ∀ v ∈ cs, v.oneCell' = true) :
    (Builtin.copy_ #[dT, sT] ty #[.slice (some ⟨g, o, none⟩) dLen dCap, .slice (some a) sLen sCap]).run P w =
      .ok (goInt (Nat.min sLen dLen)) (w.setRow g (cur.toList.take o ++ cs ++ cur.toList.drop (o + cs.length)).toArray) := by
  have hl := run_loadCells_list (P := P) w a cs hsrc
  have hst := run_storeCells_at P g o t cs 0 cur w hg (by simpa using hfit) h1
  cases hq : P.info? elem with
  | none => simp [hq] at hs
  | some i =>
    have hi : i.size = sz := by simpa [hq] using hs
    simp [Builtin.copy_, run_underlying hu, Builtin.lenOf, Builtin.firstCells, sizeOf, typeInfo, hq, hi, ← hn, hl, hst]

section
variable {P : Program} {w w' : World} {ops : Array Oper} {rest : List Oper} {o : Oper} {a : Act} {K : Act → World → Prop} {Q : Exit → Act → World → Prop} {E : Prop} {v' : Value}
theorem copy_wp (d x : Operand) (dT sT : TypeId) (ho : o.op = .call { callee := .builtin .copy, args := #[d, x], argTypes := #[dT, sT] }) (v u : Value) (hd : a.eval d = v) (hx : a.eval x = u)
    (hr : (Builtin.copy_ #[dT, sT] o.type #[v, u]).run P w = .ok v' w') (h : K (a.put o.dst v') w') : o.wp P a w K Q := by
  unfold Oper.wp execOp
  simp only [ho, resolve, invoke, builtin, Sem.run_bind, Sem.run_pure, Result.andThen_ok, List.map_toArray, List.map_cons, List.map_nil, hd, hx, hr]
  exact h
theorem copy_list (hgd : o.guard = none) (d x : Operand) (dT sT : TypeId) (ho : o.op = .call { callee := .builtin .copy, args := #[d, x], argTypes := #[dT, sT] }) (v u : Value) (hd : a.eval d = v) (hx : a.eval x = u)
    (hr : (Builtin.copy_ #[dT, sT] o.type #[v, u]).run P w = .ok v' w') (h : wpList P ops Q rest (a.put o.dst v') w') : wpList P ops Q (o :: rest) a w :=
  wpList_plain hgd fun _ hK => copy_wp d x dT sT ho v u hd hx hr (hK _ _ h)
theorem copy_step (hgd : o.guard = none) (d x : Operand) (dT sT : TypeId) (ho : o.op = .call { callee := .builtin .copy, args := #[d, x], argTypes := #[dT, sT] }) (v u : Value) (hd : a.eval d = v) (hx : a.eval x = u)
    (hr : (Builtin.copy_ #[dT, sT] o.type #[v, u]).run P w = .ok v' w') (h : K (a.put o.dst v') w') : if Region.wanted o (yielded ops a.tmps) = true then Oper.wp P o a w K Q else E := by
  rw [if_pos (by simp [Region.wanted, hgd])]
  exact copy_wp d x dT sT ho v u hd hx hr h
end

/-- The parts of a row into which one is put. -/
theorem put_between {α : Type} (L xs V : List α) (a m : Nat) (hx : L.take m = xs) (ham : a ≤ m) (hm : m + V.length ≤ L.length) :
    (((L.take (a + V.length) ++ xs.drop a ++ L.drop (a + V.length + (xs.drop a).length)).take a ++ V ++ (L.take (a + V.length) ++ xs.drop a ++ L.drop (a + V.length + (xs.drop a).length)).drop (a + V.length))).take (m + V.length) = xs.take a ++ V ++ xs.drop a := by
  have hxl : xs.length = m := by rw [← hx, List.length_take]; omega
  have h2 : L.take a = xs.take a := by rw [← hx, List.take_take, Nat.min_eq_left ham]
  have hD : (xs.drop a).length = m - a := by rw [List.length_drop, hxl]
  have hta : (xs.take a).length = a := by rw [List.length_take]; omega
  generalize xs.drop a = D at *
  generalize xs.take a = F at *
  obtain ⟨R, hR⟩ : ∃ R, R = L.drop (a + V.length + D.length) := ⟨_, rfl⟩
  obtain ⟨X, hX⟩ : ∃ X, X = L.take (a + V.length) := ⟨_, rfl⟩
  have hXl : X.length = a + V.length := by rw [hX, List.length_take]; omega
  have hXa : X.take a = F := by rw [hX, List.take_take, Nat.min_eq_left (by omega), h2]
  rw [← hR, ← hX]
  have e1 : (X ++ D ++ R).take a = F := by rw [List.append_assoc, List.take_append_of_le_length (by omega), hXa]
  have e2 : (X ++ D ++ R).drop (a + V.length) = D ++ R := by rw [List.append_assoc, ← hXl, List.drop_left]
  have e3 : (F ++ V ++ D).length = m + V.length := by simp only [List.length_append]; omega
  rw [e1, e2, ← List.append_assoc, ← e3, List.take_left]
theorem put_between_len {α : Type} (L D V : List α) (a : Nat) (hm : a + V.length + D.length ≤ L.length) :
    ((L.take (a + V.length) ++ D ++ L.drop (a + V.length + D.length)).take a ++ V ++ (L.take (a + V.length) ++ D ++ L.drop (a + V.length + D.length)).drop (a + V.length)).length = L.length := by
  simp; omega

namespace Vr
/-- One in the place of the one of its name, or where its name belongs. -/
def place (l : List V) (s : ByteArray) : Nat := if idx (behind s) l < 0 then l.length else (idx (behind s) l).toNat
def setOne (l : List V) (v : V) : List V := if 0 ≤ idx (named v.name) l then l.set (idx (named v.name) l).toNat v else l.take (place l v.name) ++ v :: l.drop (place l v.name)
theorem place_le (l : List V) (s : ByteArray) : place l s ≤ l.length := by
  unfold place
  rcases idx_cases (behind s) l with ⟨h, _⟩ | ⟨k, h, hk, _⟩
  · rw [h]; simp
  · rw [h, if_neg (by omega)]; simp; omega
theorem setOne_len (l : List V) (v : V) : l.length ≤ (setOne l v).length ∧ (setOne l v).length ≤ l.length + 1 := by
  unfold setOne
  have := place_le l v.name
  split
  · simp
  · simp; omega
theorem flat_set : ∀ (l : List V) (k : Nat) (v : V), k < l.length → ((((l.flatMap V.cells).set (k * 4) (.string v.name)).set (k * 4 + 1) (.int .i64 v.kind)).set (k * 4 + 2) (.int .i64 v.num)).set (k * 4 + 3) (.string v.text) = (l.set k v).flatMap V.cells
  | y :: l, 0, v, _ => by simp [V.cells]
  | y :: l, k + 1, v, h => by
    have ih := flat_set l k v (by simpa using h)
    rw [List.set_cons_succ, List.flatMap_cons, List.flatMap_cons, ← ih]
    have e : y.cells = [.string y.name, .int .i64 y.kind, .int .i64 y.num, .string y.text] := rfl
    rw [e]
    simp [Nat.add_mul]
theorem flat_take (l : List V) (k : Nat) : (l.take k).flatMap V.cells = (l.flatMap V.cells).take (k * 4) := by
  induction l generalizing k with
  | nil => simp
  | cons y l ih =>
    cases k with
    | zero => simp
    | succ k =>
      rw [List.take_succ_cons, List.flatMap_cons, List.flatMap_cons, ih, show (k + 1) * 4 = y.cells.length + k * 4 from by simp only [V.cells_len]; omega, List.take_length_add_append]
theorem flat_drop (l : List V) (k : Nat) : (l.drop k).flatMap V.cells = (l.flatMap V.cells).drop (k * 4) := by
  induction l generalizing k with
  | nil => simp
  | cons y l ih =>
    cases k with
    | zero => simp
    | succ k =>
      rw [List.drop_succ_cons, List.flatMap_cons, ih, show (k + 1) * 4 = y.cells.length + k * 4 from by simp only [V.cells_len]; omega, List.drop_length_add_append]
theorem flat_put (l : List V) (k : Nat) (v : V) : (l.take k ++ v :: l.drop k).flatMap V.cells = (l.flatMap V.cells).take (k * 4) ++ v.cells ++ (l.flatMap V.cells).drop (k * 4) := by
  rw [List.flatMap_append, List.flatMap_cons, flat_take, flat_drop, List.append_assoc]
end Vr

set_option maxHeartbeats 400000 in
theorem vclone_any (A : Option Addr) (n c : Nat) (l : List Vr.V) (w : World) (hr : VRow w w.heap.size A n l) (hA : A = none → n = 0 ∧ c = 0) (hn : n ≤ 1099511627776) :
    Calls Tryz.prog 77 #[.slice A n c] w fun e w' => ∃ A' c', e = .returned (.slice A' n c') ∧ OwnVars w' w.heap.size 96 A' n c' l ∧ Below w.heap.size w w' := by
  obtain ⟨i0, hi0, hz0, hz1, hz2⟩ := info_parts info_var
  have q0 : ∀ (w : World) (a : Option Addr) (n c n' c' : Nat), (binOp .eql 32 (.slice a n c) (.slice none n' c')).run Tryz.prog w = .ok (.bool a.isNone) w := fun w a n c n' c' => Lib.run_eql_slice_nil w _ _ a n c n' c' Tryz.underlying32
  cases A with
  | none =>
    obtain ⟨rfl, rfl⟩ := hA rfl
    go_enter Tryz.func77, Tryz.ntmps77
    go_wp2
    go_ret
    have hl : l = [] := List.eq_nil_of_length_eq_zero hr.len
    subst hl
    exact ⟨none, 0, rfl, World.ownsRow_nil _ _ _ _, Below.refl _ _⟩
  | some a =>
    go_enter Tryz.func77, Tryz.ntmps77
    have hb1 : Below w.heap.size w (w.alloc (.cells #[] 96)) := (Below.refl _ _).alloc (Nat.le_refl _) _
    go_wp2_with (at_builtin; refine append_row rfl (.tmp 5) (.tmp 6) _ rfl 96 i0 _ 4 48 Tryz.underlying32 hi0 hz0 hz1 hz2 rfl (by decide) w.heap.size _ 0 [] rfl (World.ownsRow_lit w #[] 0 (Nat.le_refl _) (by decide) rfl) w.heap.size _ n c (l.flatMap Vr.V.cells) rfl hA (hr.below hb1 (Nat.le_refl _)) (flat4_one l) ?h5 ?h6 hb1.size ?_)
    case h5 => unfold maxLen; omega
    case h6 => omega
    intro v2 w2 ho2 hg2 hat2
    obtain ⟨A2, c2, rfl, hA2⟩ := own_form ho2
    go_wp2
    go_ret
    refine ⟨A2, c2, ?_, ?_, hb1.grown hg2 hb1.size fun k hk => ?_⟩
    · simp
    · simpa [OwnVars] using ho2
    · simp [Value.ownBlock] at hk; omega
end Go.Proofs.YtkffnfgdmcebdaaGreatDoor
namespace Go.Proofs.YtkffnfgdmcebdaaGreatDoor
open Go.RowKit

namespace Pr
/-- A token. -/
structure Tk where
  id : Int
  node : Int
  inn : Int
  stuck : Bool
instance : Inhabited Tk := ⟨⟨0, 0, 0, false⟩⟩
def Tk.cells (t : Tk) : List Value := [.int .i64 t.id, .int .i64 t.node, .int .i64 t.inn, .bool t.stuck]
def Tk.val (t : Tk) : Value := .agg #[.int .i64 t.id, .int .i64 t.node, .int .i64 t.inn, .bool t.stuck]
def Tk.κ : Cs Tk := ⟨4, Tk.cells, fun _ => rfl, by
  intro x u hu
  simp only [Tk.cells, List.mem_cons, List.not_mem_nil, or_false] at hu
  rcases hu with rfl | rfl | rfl | rfl <;> rfl⟩
/-- A board: a process, its variables, tokens, the next ID. -/
structure Bd where
  p : P
  vars : List Vr.V
  toks : List Tk
  next : Int
/-- Tokens with IDs from k on. -/
def numb (k : Int) : List Tk → List Tk
  | [] => []
  | t :: l => { t with id := k } :: numb (k + 1) l
theorem numb_len : ∀ (k : Int) (l : List Tk), (numb k l).length = l.length
  | _, [] => rfl
  | k, _ :: l => congrArg (· + 1) (numb_len (k + 1) l)
theorem numb_snoc : ∀ (k : Int) (l : List Tk) (t : Tk), numb k (l ++ [t]) = numb k l ++ [{ t with id := k + l.length }]
  | k, [], t => by simp [numb]
  | k, y :: l, t => by
    rw [List.cons_append, numb, numb_snoc (k + 1) l t, numb, List.cons_append]
    rw [List.length_cons, show k + 1 + (l.length : Int) = k + ((l.length + 1 : Nat) : Int) from by push_cast; omega]
theorem numb_take_succ {l : List Tk} {j : Nat} (hj : j < l.length) (k : Int) : numb k (l.take (j + 1)) = numb k (l.take j) ++ [{ l[j]! with id := k + j }] := by
  rw [List.take_add_one, List.getElem?_eq_getElem hj, getElem!_pos l j hj]
  simp only [Option.toList_some]
  rw [numb_snoc, List.length_take, Nat.min_eq_left (Nat.le_of_lt hj)]
def Bd.put (b : Bd) (l : List Tk) : Bd := { b with toks := b.toks ++ numb b.next l, next := b.next + l.length }
/-- They stand by their IDs. -/
def Asc (l : List Tk) : Prop := l.Pairwise fun a b => a.id < b.id
/-- The place of the first one that is so; -1: there is none. -/
def fst (q : Tk → Bool) (l : List Tk) : Int := match l.findIdx? q with
  | some k => k
  | none => -1
theorem fst_cases (q : Tk → Bool) (l : List Tk) : (fst q l = -1 ∧ ∀ j, j < l.length → q l[j]! = false) ∨ ∃ k : Nat, fst q l = k ∧ k < l.length ∧ q l[k]! = true ∧ ∀ j, j < k → q l[j]! = false := by
  unfold fst
  cases h : l.findIdx? q with
  | none =>
    refine .inl ⟨rfl, fun j hj => ?_⟩
    rw [getElem!_pos l j hj]
    exact List.findIdx?_eq_none_iff.1 h _ (List.getElem_mem hj)
  | some k =>
    obtain ⟨hk, h1, h2⟩ := List.findIdx?_eq_some_iff_getElem.1 h
    refine .inr ⟨k, rfl, hk, by rw [getElem!_pos l k hk]; exact h1, fun j hj => ?_⟩
    rw [getElem!_pos l j (by omega)]
    simpa using h2 j hj
theorem fst_hit {q : Tk → Bool} {l : List Tk} {k : Nat} (hk : k < l.length) (h : q l[k]! = true) (h0 : ∀ j, j < k → q l[j]! = false) : fst q l = k := by
  unfold fst
  have : l.findIdx? q = some k := by
    rw [List.findIdx?_eq_some_iff_getElem]
    refine ⟨hk, by rw [← getElem!_pos l k hk]; exact h, fun j hj => ?_⟩
    rw [← getElem!_pos l j (by omega)]
    exact Bool.eq_false_iff.1 (h0 j hj)
  rw [this]
theorem fst_miss {q : Tk → Bool} {l : List Tk} (h0 : ∀ j, j < l.length → q l[j]! = false) : fst q l = -1 := by
  unfold fst
  have : l.findIdx? q = none := by
    rw [List.findIdx?_eq_none_iff]
    intro x hx
    obtain ⟨k, hk, rfl⟩ := List.mem_iff_getElem.1 hx
    rw [← getElem!_pos l k hk]
    exact h0 k hk
  rw [this]
theorem fst_le (q : Tk → Bool) (l : List Tk) : -1 ≤ fst q l ∧ fst q l < l.length := by
  rcases fst_cases q l with ⟨h, _⟩ | ⟨k, h, hk, _⟩ <;> rw [h] <;> omega
theorem fst_take {q : Tk → Bool} {l : List Tk} {j : Nat} (hj : j < l.length) :
    fst q (l.take (j + 1)) = if q l[j]! = true ∧ fst q (l.take j) = -1 then (j : Int) else fst q (l.take j) := by
  have e : l.take (j + 1) = l.take j ++ [l[j]!] := by
    rw [List.take_add_one, List.getElem?_eq_getElem hj, getElem!_pos l j hj]; rfl
  have hl : (l.take j).length = j := by rw [List.length_take]; omega
  unfold fst
  rw [e, List.findIdx?_append]
  cases h : (l.take j).findIdx? q with
  | some k => simp
  | none =>
    simp only [Option.none_or, List.findIdx?_singleton, hl]
    cases hq : q l[j]! <;> simp
theorem fst_asc {q : Tk → Bool} {l : List Tk} {j : Nat} (ha : Asc l) (hj : j < l.length) {k : Nat} (h : fst q (l.take j) = k) : l[k]!.id < l[j]!.id := by
  have hk := (fst_le q (l.take j)).2
  rw [h, List.length_take] at hk
  have hkj : k < j := by omega
  rw [getElem!_pos l k (by omega), getElem!_pos l j hj]
  exact List.pairwise_iff_getElem.1 ha k j _ _ hkj
/-- Is it a node's? -/
def atN (v : Int) (t : Tk) : Bool := t.node == v
def atB (v f : Int) (t : Tk) : Bool := t.node == v && t.inn == f
/-- Can a token of another node come to that one? -/
def More (b : Bd) (v : Int) : Prop := ∃ t ∈ b.toks, t.node ≠ v ∧ ∃ u : Nat, t.node = (u : Int) ∧ u < b.p.n ∧ Comes b.p.n (bck b.p.n b.p.flows b.p.m) v u
/-- P8.2: can the token at that place go on by itself? -/
def Rdy (b : Bd) (i : Int) : Prop := ∃ k : Nat, i = k ∧ k < b.toks.length ∧ b.toks[k]!.stuck = false ∧ ∃ u : Nat, b.toks[k]!.node = (u : Int) ∧ u < b.p.n ∧ b.p.nodes[u]!.kind ≠ 4 ∧
  (b.p.nodes[u]!.kind = 6 → 2 ≤ (insB b.p u).length → fst (atN u) b.toks = k ∧ ∀ f ∈ insB b.p u, fst (atB u f) b.toks ≠ -1) ∧
  (b.p.nodes[u]!.kind = 7 → 2 ≤ (insB b.p u).length → fst (atN u) b.toks = k ∧ ¬ More b u)
/-- A flow's condition: what is told, whether it holds. -/
def opens (vars : List Vr.V) (c : ByteArray) : Int × Bool :=
  if c.size = 0 then (0, true) else match Co.parse c.toList with
    | some (t, none) => Co.hold (Co.ev vars t)
    | _ => (0, false)
/-- What a gateway chooses: the error's number, the flows. -/
def finish (other : Int) (m : Nat) (acc : List Nat) : Int × List Nat :=
  if acc ≠ [] then (0, acc) else if 0 ≤ other ∧ other < m then (0, [other.toNat]) else (116, [])
def choose (b : Bd) (other : Int) (most : Nat) : List Nat → List Nat → Int × List Nat
  | [], acc => finish other b.p.m acc
  | f :: l, acc =>
    if acc.length = most then finish other b.p.m acc
    else if (f : Int) = other then choose b other most l acc
    else if (opens b.vars b.p.flows[f]!.cond).1 ≠ 0 then ((opens b.vars b.p.flows[f]!.cond).1, [])
    else choose b other most l (if (opens b.vars b.p.flows[f]!.cond).2 = true then acc ++ [f] else acc)
def outWays (b : Bd) (u : Nat) : Int × List Nat :=
  let nd := b.p.nodes[u]!
  let outs := outsB b.p u
  if nd.kind = 2 ∨ nd.kind = 3 then (0, [])
  else if nd.kind = 5 then if outs.length = 1 then (0, outs) else choose b nd.dflt 1 outs []
  else if nd.kind = 7 then choose b nd.dflt outs.length outs []
  else (0, outs)
/-- Which of the places go. -/
def goes (b : Bd) (i u : Nat) (k : Nat) : Bool :=
  let nd := b.p.nodes[u]!
  if nd.kind = 3 then true
  else if nd.kind = 6 then ((insB b.p u).map fun (f : Nat) => fst (atB (u : Int) (f : Int)) b.toks).contains (k : Int)
  else if nd.kind = 7 then b.toks[k]!.node == (u : Int)
  else decide (k = i)
def left (l : List Tk) (g : Nat → Bool) : List Tk := ((List.range l.length).filter fun k => !g k).map fun k => l[k]!
def come (p : P) (fs : List Nat) : List Tk := fs.map fun (f : Nat) => ⟨0, p.flows[f]!.til, (f : Int), false⟩
def moved (b : Bd) (g : Nat → Bool) (fs : List Nat) : Bd := Bd.put { b with toks := left b.toks g } (come b.p fs)
def stuckAt (b : Bd) (i : Nat) : Bd := { b with toks := b.toks.modify i fun t => { t with stuck := true } }
/-- P8.2: one move of a token that is ready: the board, whether it moved, the Code, the error's number. -/
def bstep (b : Bd) (i : Nat) : Bd × Bool × ByteArray × Int :=
  let u := b.toks[i]!.node.toNat
  let w := outWays b u
  let r := moved b (goes b i u) w.2
  let e := if w.1 ≠ 0 then w.1 else if 40 < r.toks.length then 104 else 0
  if e ≠ 0 then (stuckAt b i, false, no, e) else (r, true, if b.p.nodes[u]!.kind = 3 then b.p.nodes[u]!.code else no, 0)
end Pr
end Go.Proofs.YtkffnfgdmcebdaaGreatDoor
