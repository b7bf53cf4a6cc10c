/- Mathematics of package cond: what a condition comes to. -/
import Derived.Test.YtpjdbccndlbbhaaGreatDoorCj
namespace Go.Proofs.YtpjdbccndlbbhaaGreatDoor
open Go.RowKit

/-- A value. -/
structure Vl where
  kind : Int
  num : Int
  txt : ByteArray
def Vl.val (v : Vl) : Value := .agg #[.int .i64 v.kind, .int .i64 v.num, .string v.txt]
def Vl.list (v : Vl) : List Value := [.int .i64 v.kind, .int .i64 v.num, .string v.txt]
def Vl.zero : Vl := ⟨0, 0, ⟨#[]⟩⟩
namespace Co
def truth (v : Vl) : Int × Bool := if v.kind = 2 then (0, !(v.num == 0)) else (110, false)
def bn (b : Bool) : Int := if b then 1 else 0
def flag (b : Bool) : Vl := ⟨2, bn b, ⟨#[]⟩⟩
def eqv (a b : Vl) : Bool := a.kind == b.kind && (a.num == b.num && a.txt.toList == b.txt.toList)
def same (op : Int) (a b : Vl) : Int × Vl := if a.kind = b.kind then (0, flag (eqv a b == (op == 6))) else (110, Vl.zero)
def cmpI (a b : Int) : Int := if a < b then -1 else if b < a then 1 else 0
def byOp (op c : Int) : Bool := if op = 8 then decide (c < 0) else if op = 9 then decide (c ≤ 0) else if op = 10 then decide (0 < c) else decide (0 ≤ c)
def ordered (op : Int) (a b : Vl) : Int × Vl :=
  if a.kind = 1 ∧ b.kind = 1 then (0, flag (byOp op (cmpI a.num b.num)))
  else if a.kind = 3 ∧ b.kind = 3 then (0, flag (byOp op (Lib.compareBytes a.txt.data.toList b.txt.data.toList))) else (110, Vl.zero)
def counted (op a b : Int) : Int × Vl :=
  if op = 12 then (0, ⟨1, wrap64 (a + b), ⟨#[]⟩⟩) else if op = 13 then (0, ⟨1, wrap64 (a - b), ⟨#[]⟩⟩) else if op = 14 then (0, ⟨1, wrap64 (a * b), ⟨#[]⟩⟩)
  else if b = 0 then (113, Vl.zero) else if op = 15 then (0, ⟨1, wrap64 (a.tdiv b), ⟨#[]⟩⟩) else (0, ⟨1, (a.tmod b), ⟨#[]⟩⟩)
def cut (s : ByteArray) : ByteArray := s.extract 0 (min s.size 60)
def two (op : Int) (a b : Vl) : Int × Vl :=
  if op ≤ 7 then same op a b else if op ≤ 11 then ordered op a b
  else if op = 12 ∧ a.kind = 3 ∧ b.kind = 3 then (0, ⟨3, 0, cut (a.txt ++ b.txt)⟩) else if a.kind = 1 ∧ b.kind = 1 then counted op a.num b.num else (110, Vl.zero)
def hold (r : Int × Vl) : Int × Bool := if r.1 = 0 then truth r.2 else (r.1, false)
def notR (r : Int × Bool) : Int × Vl := if r.1 = 0 then (0, flag (!r.2)) else (r.1, Vl.zero)
def negR (r : Int × Vl) : Int × Vl := if r.1 = 0 then if r.2.kind = 1 then (0, ⟨1, wrap64 (-r.2.num), ⟨#[]⟩⟩) else (110, Vl.zero) else (r.1, Vl.zero)
def flagR (r : Int × Bool) : Int × Vl := if r.1 = 0 then (0, flag r.2) else (r.1, Vl.zero)
def joinR (op : Int) (a b : Int × Bool) : Int × Vl := if a.1 = 0 ∧ a.2 ≠ (op == 3) then flagR b else flagR a
def twoR (op : Int) (a b : Int × Vl) : Int × Vl := if a.1 = 0 then if b.1 = 0 then two op a.2 b.2 else (b.1, Vl.zero) else (a.1, Vl.zero)
def named (l : List Vr.V) (s : ByteArray) : Int × Vl := if (Vr.get l s).2 = true then (0, ⟨(Vr.get l s).1.kind, (Vr.get l s).1.num, (Vr.get l s).1.text⟩) else (108, Vl.zero)
/-- What a condition comes to: an error's number, 0: none; a value. -/
def ev (l : List Vr.V) : Tr → Int × Vl
  | .leaf op kind num txt name => if op = 1 then (0, ⟨kind, num, ⟨txt.toArray⟩⟩) else named l ⟨name.toArray⟩
  | .one op a => if op = 5 then notR (hold (ev l a)) else negR (ev l a)
  | .two op a b => if op = 3 ∨ op = 4 then joinR op (hold (ev l a)) (hold (ev l b)) else twoR op (ev l a) (ev l b)
/-- Is it one that Parse may tell? -/
def wf : Tr → Bool
  | .leaf op _ _ _ _ => op == 1 || op == 2
  | .one op a => (op == 5 || op == 17) && wf a
  | .two op a b => decide (3 ≤ op) && decide (op ≤ 16) && !(op == 5) && wf a && wf b
end Co

section
variable {w : World} {z : Nat}
/-- A value's cells are written. -/
def tri (w : World) (z : Nat) (v : Vl) : World := ((w.setCell ⟨z, 0, none⟩ (.int .i64 v.kind)).setCell ⟨z, 1, none⟩ (.int .i64 v.num)).setCell ⟨z, 2, none⟩ (.string v.txt)
theorem tri_grown (w : World) (z : Nat) (v : Vl) : w.grownBy (tri w z v) (some z) := set_grown (set_grown (set_grown (World.grownBy.refl _ _) 0 _) 1 _) 2 _
theorem Cel.tri {u : Vl} (h : Cel w z u.list) (v : Vl) : Cel (tri w z v) z v.list :=
  ((h.set (i := 0) (by simp [Vl.list]) _).set (i := 1) (by simp [Vl.list]) _).set (i := 2) (by simp [Vl.list]) _
theorem Cel.tri_of {u : Vl} (h : Cel w z u.list) : (w.cell? ⟨z, 0, none⟩ = some (.int .i64 u.kind) ∧ w.cell? ⟨z, 1, none⟩ = some (.int .i64 u.num) ∧ w.cell? ⟨z, 2, none⟩ = some (.string u.txt)) ∧
    (w.frozen? ⟨z, 0, none⟩ = false ∧ w.frozen? ⟨z, 1, none⟩ = false ∧ w.frozen? ⟨z, 2, none⟩ = false) :=
  ⟨⟨h.cell 0 _ rfl, h.cell 1 _ rfl, h.cell 2 _ rfl⟩, h.froz 0 (by simp [Vl.list]), h.froz 1 (by simp [Vl.list]), h.froz 2 (by simp [Vl.list])⟩
theorem below_tri {B : Nat} {a w : World} (h : Below B a w) {z : Nat} (hz : B ≤ z) (v : Vl) : Below B a (tri w z v) := ((h.setCell hz _).setCell hz _).setCell hz _
end

theorem eflag_any (b : Bool) (w : World) :
    Calls Tryz.prog 34 #[.bool b] w fun e w' => e = .returned (.agg #[.int .i64 2, .int .i64 (Co.bn b), .string ⟨#[]⟩]) ∧ Below w.heap.size w w' := vflag_any b w
section
variable {E : Int → Option Addr} {V w : World}
set_option maxHeartbeats 800000 in
theorem etruth_any (hE : CoErrs V E) (hb : Below V.heap.size V w) (v : Vl) :
    Calls Tryz.prog 16 #[v.val] w fun r w' => (∃ e, r = .returned (.tuple #[.bool (Co.truth v).2, e]) ∧ SeenBy E e (Co.truth v).1) ∧ Below w.heap.size w w' := by
  obtain ⟨k, n, t⟩ := v
  unfold Vl.val Co.truth
  dsimp only
  have hb1 : Below w.heap.size w (w.alloc (.cells #[.int .i64 k, .int .i64 n, .string t] 24)) := (Below.refl _ _).alloc (Nat.le_refl _) _
  by_cases hk : k = 2
  · subst hk
    rw [if_pos rfl]
    clear hE hb
    go_enter Tryz.func16, Tryz.ntmps16
    go_wp2
    go_ret2
    exact ⟨⟨_, rfl, .nil⟩, hb1⟩
  · rw [if_neg hk]
    have hkI : (k == 2) = false := by rw [beq_eq_false_iff_ne]; exact hk
    obtain ⟨a, hka, hg⟩ := (hE.below hb).e110
    have hgl := cell_lt hg
    unfold errV at hg
    clear hE hb hk
    go_enter Tryz.func16, Tryz.ntmps16
    go_wp2_with fail
    go_quiet (fail)
    go_wp2
    go_ret2
    exact ⟨⟨_, rfl, .err 110 a hka (by decide)⟩, below_drewN hb1 _⟩
end
end Go.Proofs.YtpjdbccndlbbhaaGreatDoor
