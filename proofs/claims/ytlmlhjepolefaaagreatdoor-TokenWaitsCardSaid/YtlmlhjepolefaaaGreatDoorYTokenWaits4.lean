/- Mathematics of package cond: what a condition comes to. From the reading of an argument that is a slice to what a walk is told of it. -/
import Derived.Test.YtlmlhjepolefaaaGreatDoorCtY
import Derived.Test.YtlmlhjepolefaaaGreatDoorViY
import Derived.Lib.Bytealg
import Derived.Test.YtlmlhjepolefaaaGreatDoorYTokenWaits1
import Derived.Deep.Slices
import Derived.ChangeArms
import Derived.OpenShut
import Derived.ShutString
import Derived.ChangeOld
namespace Go.Proofs.YtlmlhjepolefaaaGreatDoor
open Go.RowKit

/-- A value. -/
structure Vl where
  kind : Int
  num : Int
  txt : ByteArray
def Vl.val (v : Vl) : Value := .agg #[.int .i64 v.kind, .int .i64 v.num, .string v.txt]
def Vl.list (v : Vl) : List Value := [.int .i64 v.kind, .int .i64 v.num, .string v.txt]
def Vl.zero : Vl := ⟨0, 0, ⟨#[]⟩⟩
namespace Co
def truth (v : Vl) : Int × Bool := if v.kind = 2 then (0, !(v.num == 0)) else (110, false)
def bn (b : Bool) : Int := if b then 1 else 0
def flag (b : Bool) : Vl := ⟨2, bn b, ⟨#[]⟩⟩
def eqv (a b : Vl) : Bool := a.kind == b.kind && (a.num == b.num && a.txt.toList == b.txt.toList)
def same (op : Int) (a b : Vl) : Int × Vl := if a.kind = b.kind then (0, flag (eqv a b == (op == 6))) else (110, Vl.zero)
def cmpI (a b : Int) : Int := if a < b then -1 else if b < a then 1 else 0
def byOp (op c : Int) : Bool := if op = 8 then decide (c < 0) else if op = 9 then decide (c ≤ 0) else if op = 10 then decide (0 < c) else decide (0 ≤ c)
def ordered (op : Int) (a b : Vl) : Int × Vl :=
  if a.kind = 1 ∧ b.kind = 1 then (0, flag (byOp op (cmpI a.num b.num)))
  else if a.kind = 3 ∧ b.kind = 3 then (0, flag (byOp op (Lib.compareBytes a.txt.data.toList b.txt.data.toList))) else (110, Vl.zero)
def counted (op a b : Int) : Int × Vl :=
  if op = 12 then (0, ⟨1, wrap64 (a + b), ⟨#[]⟩⟩) else if op = 13 then (0, ⟨1, wrap64 (a - b), ⟨#[]⟩⟩) else if op = 14 then (0, ⟨1, wrap64 (a * b), ⟨#[]⟩⟩)
  else if b = 0 then (113, Vl.zero) else if op = 15 then (0, ⟨1, wrap64 (a.tdiv b), ⟨#[]⟩⟩) else (0, ⟨1, (a.tmod b), ⟨#[]⟩⟩)
def cut (s : ByteArray) : ByteArray := s.extract 0 (min s.size 60)
def two (op : Int) (a b : Vl) : Int × Vl :=
  if op ≤ 7 then same op a b else if op ≤ 11 then ordered op a b
  else if op = 12 ∧ a.kind = 3 ∧ b.kind = 3 then (0, ⟨3, 0, cut (a.txt ++ b.txt)⟩) else if a.kind = 1 ∧ b.kind = 1 then counted op a.num b.num else (110, Vl.zero)
def hold (r : Int × Vl) : Int × Bool := if r.1 = 0 then truth r.2 else (r.1, false)
def notR (r : Int × Bool) : Int × Vl := if r.1 = 0 then (0, flag (!r.2)) else (r.1, Vl.zero)
def negR (r : Int × Vl) : Int × Vl := if r.1 = 0 then if r.2.kind = 1 then (0, ⟨1, wrap64 (-r.2.num), ⟨#[]⟩⟩) else (110, Vl.zero) else (r.1, Vl.zero)
def flagR (r : Int × Bool) : Int × Vl := if r.1 = 0 then (0, flag r.2) else (r.1, Vl.zero)
def joinR (op : Int) (a b : Int × Bool) : Int × Vl := if a.1 = 0 ∧ a.2 ≠ (op == 3) then flagR b else flagR a
def twoR (op : Int) (a b : Int × Vl) : Int × Vl := if a.1 = 0 then if b.1 = 0 then two op a.2 b.2 else (b.1, Vl.zero) else (a.1, Vl.zero)
def named (l : List Vr.V) (s : ByteArray) : Int × Vl := if (Vr.get l s).2 = true then (0, ⟨(Vr.get l s).1.kind, (Vr.get l s).1.num, (Vr.get l s).1.text⟩) else (108, Vl.zero)
/-- What a condition comes to: an error's number, 0: none; a value. -/
def ev (l : List Vr.V) : Tr → Int × Vl
  | .leaf op kind num txt name => if op = 1 then (0, ⟨kind, num, ⟨txt.toArray⟩⟩) else named l ⟨name.toArray⟩
  | .one op a => if op = 5 then notR (hold (ev l a)) else negR (ev l a)
  | .two op a b => if op = 3 ∨ op = 4 then joinR op (hold (ev l a)) (hold (ev l b)) else twoR op (ev l a) (ev l b)
/-- Is it one that Parse may tell? -/
def wf : Tr → Bool
  | .leaf op _ _ _ _ => op == 1 || op == 2
  | .one op a => (op == 5 || op == 17) && wf a
  | .two op a b => decide (3 ≤ op) && decide (op ≤ 16) && !(op == 5) && wf a && wf b
end Co
end Go.Proofs.YtlmlhjepolefaaaGreatDoor
namespace Go.Proofs.YtlmlhjepolefaaaGreatDoor
open Go.ChangeShapes Go.WideShapes Go.RowKit

/-- A slice that came in, its elements sz cells wide. -/
structure InRow (w : World) (sz : Nat) (A : Option Addr) (n c : Nat) (l : List Value) : Prop where
  row : RowS w w.heap.size sz A n l
  nn : A = none → n = 0 ∧ c = 0
  cap : n ≤ c
  most : c ≤ maxLen

theorem open_row1 {α : Type} [Inhabited α] {H : Type} {enc : TypeId × Value → H} {P : Program} {W : World} {t e : TypeId} {a : Option Addr} {len cap : Nat} {d : DataW H} {ps : List MemPlace}
    (f : α → Value) (ok : α → Prop) (ht : P.underlying t = some (.slice e)) (hc : P.cellsOf e = 1)
    (hel : ∀ n V x, DataW.trod enc P W 0 (fun _ => true) true n e [V] = some x → ∃ y, V = f y ∧ ok y)
    (h : DataW.Trod enc P W 0 (fun _ => true) true t (.slice a len cap) d ps) : ∃ l : List α, InRow W 1 a len cap (l.map f) ∧ ∀ y ∈ l, ok y := by
  obtain ⟨fuel, hf⟩ := h
  rcases Deep.open_slice1 ht hc hf with ⟨hcs, _⟩ | ⟨x, l, c, m, n, V, D, Pl, hcs, _, hl, hm, hmm, _, hx⟩
  · simp [Value.cells] at hcs
    obtain ⟨rfl, rfl, rfl⟩ := hcs
    exact ⟨[], ⟨RowS.nil _ _ _ _, fun _ => ⟨rfl, rfl⟩, Nat.le_refl _, by simp [maxLen]⟩, fun y h => by cases h⟩
  · simp [Value.cells] at hcs
    obtain ⟨rfl, rfl, rfl⟩ := hcs
    simp only [if_true] at hmm
    subst hmm
    obtain ⟨Y, hY⟩ := Deep.choose_lt (α := α) (p := fun i y => V i = f y ∧ ok y) (fun i hi => hel _ _ _ (hx i hi).2)
    refine ⟨(List.range len).map Y, ⟨⟨by simp, fun h0 => ?_⟩, (fun h => by cases h), hl, hm⟩, fun y hy => ?_⟩
    · have h1 := (hx 0 (by omega)).1
      obtain ⟨b, off, spot⟩ := x
      obtain rfl : spot = none := by simpa [Addr.add] using World.cell?_spot h1
      have hlt : b < W.heap.size := by simpa [Addr.add] using cell_lt h1
      refine ⟨b, off, rfl, hlt, fun k v hv => ?_⟩
      have hk : k < len := by simpa using (List.getElem?_eq_some_iff.1 hv).1
      rw [← addr_add b off k, (hx k (by omega)).1, (hY k (by omega)).1]
      simpa [hk] using hv
    · obtain ⟨i, hi, rfl⟩ := List.mem_map.1 hy
      exact (hY i (by have := List.mem_range.1 hi; omega)).2

section
variable {H : Type} {enc : TypeId × Value → H} {P : Program} {W : World} {t e : TypeId} {a : Option Addr} {len cap : Nat} {d : DataW H} {ps : List MemPlace}
theorem open_ints64 (ht : P.underlying t = some (.slice e)) (he : P.underlying e = some (.int .i64)) (hc : P.cellsOf e = 1) (h : DataW.Trod enc P W 0 (fun _ => true) true t (.slice a len cap) d ps) :
    ∃ l : List Int, InRow W 1 a len cap (l.map (Value.int .i64)) ∧ ∀ y ∈ l, -9223372036854775808 ≤ y ∧ y ≤ 9223372036854775807 :=
  open_row1 (Value.int .i64) _ ht hc (fun n V x hx => by
    obtain ⟨y, h1, _, h2⟩ := DataW.trod_int he hx
    have := bounds_i64 h2
    exact ⟨y, by simpa using h1, by omega⟩) h
theorem open_strs (ht : P.underlying t = some (.slice e)) (he : P.underlying e = some .string) (hc : P.cellsOf e = 1) (h : DataW.Trod enc P W 0 (fun _ => true) true t (.slice a len cap) d ps) :
    ∃ l : List ByteArray, InRow W 1 a len cap (l.map Value.string) ∧ ∀ y ∈ l, y.size ≤ maxLen :=
  open_row1 Value.string _ ht hc (fun n V x hx => by
    obtain ⟨y, h1, _, h2⟩ := DataW.trod_string he hx
    exact ⟨y, by simpa using h1, h2⟩) h
theorem open_boolrow (ht : P.underlying t = some (.slice e)) (he : P.underlying e = some .bool) (hc : P.cellsOf e = 1) (h : DataW.Trod enc P W 0 (fun _ => true) true t (.slice a len cap) d ps) :
    ∃ l : List Bool, InRow W 1 a len cap (l.map Value.bool) := by
  obtain ⟨l, h, _⟩ := open_row1 Value.bool (fun _ => True) ht hc (fun n V x hx => by
    obtain ⟨y, h1, _⟩ := DataW.trod_bool he hx
    exact ⟨y, by simpa using h1, trivial⟩) h
  exact ⟨l, h⟩
end
end Go.Proofs.YtlmlhjepolefaaaGreatDoor
