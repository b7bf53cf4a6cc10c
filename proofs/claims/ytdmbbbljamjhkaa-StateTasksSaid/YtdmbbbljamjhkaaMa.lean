/- Package lease: a task in memory. -/
import Derived.Test.YtdmbbbljamjhkaaCel
import Derived.Test.YtdmbbbljamjhkaaVn
namespace Go.Proofs.Ytdmbbbljamjhkaa
open Go.RowKit

namespace Ls
/-- A task. -/
structure T where
  id : Int
  ins : Int
  tok : Int
  nod : Int
  top : ByteArray
  prio : Int
  wkr : ByteArray
  epo : Int
  exp : Int
  aft : Int
  ret : Int
  bro : Bool
def T.cells (x : T) : List Value := [.int .i64 x.id, .int .i64 x.ins, .int .i64 x.tok, .int .i64 x.nod, .string x.top, .int .i64 x.prio, .string x.wkr, .int .i64 x.epo, .int .i64 x.exp, .int .i64 x.aft, .int .i64 x.ret, .bool x.bro]
def T.val (x : T) : Value := .agg #[.int .i64 x.id, .int .i64 x.ins, .int .i64 x.tok, .int .i64 x.nod, .string x.top, .int .i64 x.prio, .string x.wkr, .int .i64 x.epo, .int .i64 x.exp, .int .i64 x.aft, .int .i64 x.ret, .bool x.bro]
def zero : T := ⟨0, 0, 0, 0, ⟨#[]⟩, 0, ⟨#[]⟩, 0, 0, 0, 0, false⟩
def T.avail (x : T) : Bool := !x.bro && decide (x.epo < 60)
def T.due (x : T) : Int := if x.aft < x.exp then x.exp else x.aft
def T.free (x : T) (now : Int) : Bool := x.avail && decide (x.due ≤ now)
def T.leave (x : T) : T := { x with wkr := ⟨#[]⟩, exp := 0 }
structure T.Good (x : T) : Prop where
  id : 1 ≤ x.id
  ins : 1 ≤ x.ins
  tok : 1 ≤ x.tok
  nod : 0 ≤ x.nod
  top : Vr.name x.top.data.toList = true
  topS : x.top.size ≤ 1000
  prio : 0 ≤ x.prio ∧ x.prio ≤ 9
  epo : 0 ≤ x.epo ∧ x.epo ≤ 60
  exp : 0 ≤ x.exp ∧ x.exp ≤ 2199023255552
  aft : 0 ≤ x.aft ∧ x.aft ≤ 2199023255552
  ret : 0 ≤ x.ret ∧ x.ret ≤ 9
  bro : x.bro = decide (x.ret = 0)
  held : (x.wkr.size = 0 ∧ x.exp = 0) ∨ (Vr.name x.wkr.data.toList = true ∧ 0 < x.wkr.size ∧ x.wkr.size ≤ 1000 ∧ 0 < x.exp ∧ 0 < x.epo)
theorem dz_facts {w : World} {z : Nat} {a0 a1 a2 a3 a4 a5 a6 a7 a8 a9 a10 a11 : Value} (h : Cel w z [a0, a1, a2, a3, a4, a5, a6, a7, a8, a9, a10, a11]) :
    (w.cell? ⟨z, 0, none⟩ = some a0 ∧ w.cell? ⟨z, 1, none⟩ = some a1 ∧ w.cell? ⟨z, 2, none⟩ = some a2 ∧ w.cell? ⟨z, 3, none⟩ = some a3 ∧ w.cell? ⟨z, 4, none⟩ = some a4 ∧ w.cell? ⟨z, 5, none⟩ = some a5 ∧ w.cell? ⟨z, 6, none⟩ = some a6 ∧ w.cell? ⟨z, 7, none⟩ = some a7 ∧ w.cell? ⟨z, 8, none⟩ = some a8 ∧ w.cell? ⟨z, 9, none⟩ = some a9 ∧ w.cell? ⟨z, 10, none⟩ = some a10 ∧ w.cell? ⟨z, 11, none⟩ = some a11) ∧
    (w.frozen? ⟨z, 0, none⟩ = false ∧ w.frozen? ⟨z, 1, none⟩ = false ∧ w.frozen? ⟨z, 2, none⟩ = false ∧ w.frozen? ⟨z, 3, none⟩ = false ∧ w.frozen? ⟨z, 4, none⟩ = false ∧ w.frozen? ⟨z, 5, none⟩ = false ∧ w.frozen? ⟨z, 6, none⟩ = false ∧ w.frozen? ⟨z, 7, none⟩ = false ∧ w.frozen? ⟨z, 8, none⟩ = false ∧ w.frozen? ⟨z, 9, none⟩ = false ∧ w.frozen? ⟨z, 10, none⟩ = false ∧ w.frozen? ⟨z, 11, none⟩ = false) :=
  ⟨⟨h.cell 0 _ rfl, h.cell 1 _ rfl, h.cell 2 _ rfl, h.cell 3 _ rfl, h.cell 4 _ rfl, h.cell 5 _ rfl, h.cell 6 _ rfl, h.cell 7 _ rfl, h.cell 8 _ rfl, h.cell 9 _ rfl, h.cell 10 _ rfl, h.cell 11 _ rfl⟩, h.froz 0 (by simp), h.froz 1 (by simp), h.froz 2 (by simp), h.froz 3 (by simp), h.froz 4 (by simp), h.froz 5 (by simp), h.froz 6 (by simp), h.froz 7 (by simp), h.froz 8 (by simp), h.froz 9 (by simp), h.froz 10 (by simp), h.froz 11 (by simp)⟩
theorem two_lit (w : World) (cs ds : Array Value) (t u : TypeId) : Cel ((w.alloc (.cells cs t)).alloc (.cells ds u)) w.heap.size cs.toList ∧ Cel ((w.alloc (.cells cs t)).alloc (.cells ds u)) (w.heap.size + 1) ds.toList ∧ Below w.heap.size w ((w.alloc (.cells cs t)).alloc (.cells ds u)) := by
  refine ⟨(Cel.lit w cs t).alloc _, ?_, ((Below.refl _ _).alloc (Nat.le_refl _) _).alloc (by simp) _⟩
  have h := Cel.lit (w.alloc (.cells cs t)) ds u
  have e : (w.alloc (.cells cs t)).heap.size = w.heap.size + 1 := by simp
  rw [e] at h
  exact h
theorem one_lit (w : World) (cs : Array Value) (t : TypeId) : Cel (w.alloc (.cells cs t)) w.heap.size cs.toList ∧ Below w.heap.size w (w.alloc (.cells cs t)) := ⟨Cel.lit w cs t, (Below.refl _ _).alloc (Nat.le_refl _) _⟩
/-- A task's twelve cells are written. -/
def dzn (w : World) (z : Nat) (x : T) : World := (((((((((((w.setCell ⟨z, 0, none⟩ (.int .i64 x.id)).setCell ⟨z, 1, none⟩ (.int .i64 x.ins)).setCell ⟨z, 2, none⟩ (.int .i64 x.tok)).setCell ⟨z, 3, none⟩ (.int .i64 x.nod)).setCell ⟨z, 4, none⟩ (.string x.top)).setCell ⟨z, 5, none⟩ (.int .i64 x.prio)).setCell ⟨z, 6, none⟩ (.string x.wkr)).setCell ⟨z, 7, none⟩ (.int .i64 x.epo)).setCell ⟨z, 8, none⟩ (.int .i64 x.exp)).setCell ⟨z, 9, none⟩ (.int .i64 x.aft)).setCell ⟨z, 10, none⟩ (.int .i64 x.ret)).setCell ⟨z, 11, none⟩ (.bool x.bro)
theorem dzn_cel {w : World} {z : Nat} {a0 a1 a2 a3 a4 a5 a6 a7 a8 a9 a10 a11 : Value} (h : Cel w z [a0, a1, a2, a3, a4, a5, a6, a7, a8, a9, a10, a11]) (x : T) : Cel (dzn w z x) z x.cells :=
  (((((((((((h.set (i := 0) (by simp) _).set (i := 1) (by simp) _).set (i := 2) (by simp) _).set (i := 3) (by simp) _).set (i := 4) (by simp) _).set (i := 5) (by simp) _).set (i := 6) (by simp) _).set (i := 7) (by simp) _).set (i := 8) (by simp) _).set (i := 9) (by simp) _).set (i := 10) (by simp) _).set (i := 11) (by simp) _
theorem dzn_below {B : Nat} {a w : World} (h : Below B a w) {z : Nat} (hz : B ≤ z) (x : T) : Below B a (dzn w z x) := (((((((((((h.setCell hz _).setCell hz _).setCell hz _).setCell hz _).setCell hz _).setCell hz _).setCell hz _).setCell hz _).setCell hz _).setCell hz _).setCell hz _).setCell hz _
theorem dzn_grown (w : World) (z : Nat) (x : T) : w.grownBy (dzn w z x) (some z) := set_grown (set_grown (set_grown (set_grown (set_grown (set_grown (set_grown (set_grown (set_grown (set_grown (set_grown (set_grown (World.grownBy.refl _ _) 0 _) 1 _) 2 _) 3 _) 4 _) 5 _) 6 _) 7 _) 8 _) 9 _) 10 _) 11 _
theorem empB (s : ByteArray) : s.toList.isEmpty = (s.size == 0) := by
  rw [ByteArray.toList_eq, Bool.eq_iff_iff, List.isEmpty_iff_length_eq_zero, beq_iff_eq]
  simp
end Ls
end Go.Proofs.Ytdmbbbljamjhkaa
