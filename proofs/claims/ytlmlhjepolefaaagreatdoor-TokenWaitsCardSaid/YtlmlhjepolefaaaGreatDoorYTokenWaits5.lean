/- From the reading of an argument to what a walk is told of it. Mathematics of package token: tokens on a board, which can go on, one move. -/
import Derived.Test.YtlmlhjepolefaaaGreatDoorLaidY
import Derived.OpenShut
import Derived.ShutString
import Derived.ChangeOld
import Derived.Test.YtlmlhjepolefaaaGreatDoorYTokenWaits10
import Derived.Test.YtlmlhjepolefaaaGreatDoorQfY
import Derived.Test.YtlmlhjepolefaaaGreatDoorYTokenWaits4
namespace Go.Proofs.YtlmlhjepolefaaaGreatDoor
open Go.ChangeShapes Go.WideShapes Go.ChangeAt Go.RowKit
open Go.ChangeMaps (open_string shut_string)

theorem wf_u8 {z : Int} (h : (Lit.int .u8 z).wf = true) : 0 ≤ z ∧ z < 256 := by
  have := bounds_u8 h
  omega
theorem wf_byte {z : Int} (h : (Lit.int .u8 z).wf = true) : ∃ x : UInt8, z = (x.toNat : Int) := by
  have hb := wf_u8 h
  refine ⟨UInt8.ofNat z.toNat, ?_⟩
  rw [UInt8.toNat_ofNat', Nat.mod_eq_of_lt (by omega)]
  omega
theorem wf_i64 {z : Int} (h : (Lit.int .i64 z).wf = true) : -9223372036854775808 ≤ z ∧ z ≤ 9223372036854775807 := by
  have := bounds_i64 h
  omega

/-- A byte slice that came in. -/
structure InBytes (w : World) (A : Option Addr) (n c : Nat) (l : List UInt8) : Prop where
  bytes : Bytes w w.heap.size A n l
  nn : A = none → n = 0 ∧ c = 0
  cap : n ≤ c
  most : c ≤ maxLen

theorem open_bytes {H : Type} {enc : TypeId × Value → H} {P : Program} {W : World} {t e : TypeId} {a : Option Addr} {len cap : Nat} {d : DataW H} {ps : List MemPlace}
    (ht : P.underlying t = some (.slice e)) (he : P.underlying e = some (.int .u8)) (hc : P.cellsOf e = 1)
    (h : DataW.Trod enc P W 0 (fun _ => true) true t (.slice a len cap) d ps) : ∃ l, InBytes W a len cap l := by
  obtain ⟨fuel, hf⟩ := h
  rcases open_ints ht he hc hf with ⟨hcs, _⟩ | ⟨x, l, c, zs, hcs, _, hl, hm, hz, _, hcell, hwz⟩
  · simp [Value.cells] at hcs
    obtain ⟨rfl, rfl, rfl⟩ := hcs
    exact ⟨[], Bytes.nil _ _ _, fun _ => ⟨rfl, rfl⟩, Nat.le_refl _, by simp [maxLen]⟩
  · simp [Value.cells] at hcs
    obtain ⟨rfl, rfl, rfl⟩ := hcs
    have hz' : zs.length = cap := by simpa using hz
    have hb : ∀ i, i < zs.length → ((UInt8.ofNat (zs.getD i 0).toNat).toNat : Int) = zs.getD i 0 := by
      intro i hi
      have hwi := wf_u8 (hwz (zs.getD i 0) (by simp [List.getD, List.getElem?_eq_getElem hi]))
      rw [UInt8.toNat_ofNat', Nat.mod_eq_of_lt (by omega)]
      omega
    refine ⟨(zs.take len).map fun z => UInt8.ofNat z.toNat, ⟨by simp; omega, fun h0 => ?_⟩, (fun h => by cases h), hl, hm⟩
    have hc0 := hcell 0 (by omega)
    obtain ⟨b, off, spot⟩ := x
    obtain rfl : spot = none := by simpa [Addr.add] using World.cell?_spot hc0
    have hlt : b < W.heap.size := by
      have : W.cell? ⟨b, off, none⟩ = some (.int .u8 (zs.getD 0 0)) := by simpa [Addr.add] using hc0
      rcases Nat.lt_or_ge b W.heap.size with h' | h'
      · exact h'
      · simp [World.cell?, Array.getElem?_eq_none h'] at this
    refine ⟨b, off, rfl, hlt, fun k v hv => ?_⟩
    have hk : k < len := by
      have := (List.getElem?_eq_some_iff.1 hv).1
      simp at this; omega
    have hkz : k < zs.length := by omega
    rw [← addr_add b off k, hcell k hkz]
    simp only [List.map_map, List.getElem?_map, List.getElem?_take, if_pos hk, List.getElem?_eq_getElem hkz, Option.map_some, Option.some.injEq] at hv
    rw [← hv]
    have := hb k hkz
    simp only [List.getD, List.getElem?_eq_getElem hkz, Option.getD_some, Function.comp, bv] at this ⊢
    rw [this]
end Go.Proofs.YtlmlhjepolefaaaGreatDoor
namespace Go.Proofs.YtlmlhjepolefaaaGreatDoor
open Go.RowKit

namespace Pr
/-- A token. -/
structure Tk where
  id : Int
  node : Int
  inn : Int
  stuck : Bool
instance : Inhabited Tk := ⟨⟨0, 0, 0, false⟩⟩
def Tk.cells (t : Tk) : List Value := [.int .i64 t.id, .int .i64 t.node, .int .i64 t.inn, .bool t.stuck]
def Tk.val (t : Tk) : Value := .agg #[.int .i64 t.id, .int .i64 t.node, .int .i64 t.inn, .bool t.stuck]
def Tk.κ : Cs Tk := ⟨4, Tk.cells, fun _ => rfl, by
  intro x u hu
  simp only [Tk.cells, List.mem_cons, List.not_mem_nil, or_false] at hu
  rcases hu with rfl | rfl | rfl | rfl <;> rfl⟩
/-- A board: a process, its variables, tokens, the next ID. -/
structure Bd where
  p : P
  vars : List Vr.V
  toks : List Tk
  next : Int
/-- Tokens with IDs from k on. -/
def numb (k : Int) : List Tk → List Tk
  | [] => []
  | t :: l => { t with id := k } :: numb (k + 1) l
theorem numb_len : ∀ (k : Int) (l : List Tk), (numb k l).length = l.length
  | _, [] => rfl
  | k, _ :: l => congrArg (· + 1) (numb_len (k + 1) l)
theorem numb_snoc : ∀ (k : Int) (l : List Tk) (t : Tk), numb k (l ++ [t]) = numb k l ++ [{ t with id := k + l.length }]
  | k, [], t => by simp [numb]
  | k, y :: l, t => by
    rw [List.cons_append, numb, numb_snoc (k + 1) l t, numb, List.cons_append]
    rw [List.length_cons, show k + 1 + (l.length : Int) = k + ((l.length + 1 : Nat) : Int) from by push_cast; omega]
theorem numb_take_succ {l : List Tk} {j : Nat} (hj : j < l.length) (k : Int) : numb k (l.take (j + 1)) = numb k (l.take j) ++ [{ l[j]! with id := k + j }] := by
  rw [List.take_add_one, List.getElem?_eq_getElem hj, getElem!_pos l j hj]
  simp only [Option.toList_some]
  rw [numb_snoc, List.length_take, Nat.min_eq_left (Nat.le_of_lt hj)]
def Bd.put (b : Bd) (l : List Tk) : Bd := { b with toks := b.toks ++ numb b.next l, next := b.next + l.length }
/-- They stand by their IDs. -/
def Asc (l : List Tk) : Prop := l.Pairwise fun a b => a.id < b.id
/-- The place of the first one that is so; -1: there is none. -/
def fst (q : Tk → Bool) (l : List Tk) : Int := match l.findIdx? q with
  | some k => k
  | none => -1
theorem fst_cases (q : Tk → Bool) (l : List Tk) : (fst q l = -1 ∧ ∀ j, j < l.length → q l[j]! = false) ∨ ∃ k : Nat, fst q l = k ∧ k < l.length ∧ q l[k]! = true ∧ ∀ j, j < k → q l[j]! = false := by
  unfold fst
  cases h : l.findIdx? q with
  | none =>
    refine .inl ⟨rfl, fun j hj => ?_⟩
    rw [getElem!_pos l j hj]
    exact List.findIdx?_eq_none_iff.1 h _ (List.getElem_mem hj)
  | some k =>
    obtain ⟨hk, h1, h2⟩ := List.findIdx?_eq_some_iff_getElem.1 h
    refine .inr ⟨k, rfl, hk, by rw [getElem!_pos l k hk]; exact h1, fun j hj => ?_⟩
    rw [getElem!_pos l j (by omega)]
    simpa using h2 j hj
theorem fst_hit {q : Tk → Bool} {l : List Tk} {k : Nat} (hk : k < l.length) (h : q l[k]! = true) (h0 : ∀ j, j < k → q l[j]! = false) : fst q l = k := by
  unfold fst
  have : l.findIdx? q = some k := by
    rw [List.findIdx?_eq_some_iff_getElem]
    refine ⟨hk, by rw [← getElem!_pos l k hk]; exact h, fun j hj => ?_⟩
    rw [← getElem!_pos l j (by omega)]
    exact Bool.eq_false_iff.1 (h0 j hj)
  rw [this]
theorem fst_miss {q : Tk → Bool} {l : List Tk} (h0 : ∀ j, j < l.length → q l[j]! = false) : fst q l = -1 := by
  unfold fst
  have : l.findIdx? q = none := by
    rw [List.findIdx?_eq_none_iff]
    intro x hx
    obtain ⟨k, hk, rfl⟩ := List.mem_iff_getElem.1 hx
    rw [← getElem!_pos l k hk]
    exact h0 k hk
  rw [this]
theorem fst_le (q : Tk → Bool) (l : List Tk) : -1 ≤ fst q l ∧ fst q l < l.length := by
  rcases fst_cases q l with ⟨h, _⟩ | ⟨k, h, hk, _⟩ <;> rw [h] <;> omega
theorem fst_take {q : Tk → Bool} {l : List Tk} {j : Nat} (hj : j < l.length) :
    fst q (l.take (j + 1)) = if q l[j]! = true ∧ fst q (l.take j) = -1 then (j : Int) else fst q (l.take j) := by
  have e : l.take (j + 1) = l.take j ++ [l[j]!] := by
    rw [List.take_add_one, List.getElem?_eq_getElem hj, getElem!_pos l j hj]; rfl
  have hl : (l.take j).length = j := by rw [List.length_take]; omega
  unfold fst
  rw [e, List.findIdx?_append]
  cases h : (l.take j).findIdx? q with
  | some k => simp
  | none =>
    simp only [Option.none_or, List.findIdx?_singleton, hl]
    cases hq : q l[j]! <;> simp
theorem fst_asc {q : Tk → Bool} {l : List Tk} {j : Nat} (ha : Asc l) (hj : j < l.length) {k : Nat} (h : fst q (l.take j) = k) : l[k]!.id < l[j]!.id := by
  have hk := (fst_le q (l.take j)).2
  rw [h, List.length_take] at hk
  have hkj : k < j := by omega
  rw [getElem!_pos l k (by omega), getElem!_pos l j hj]
  exact List.pairwise_iff_getElem.1 ha k j _ _ hkj
/-- Is it a node's? -/
def atN (v : Int) (t : Tk) : Bool := t.node == v
def atB (v f : Int) (t : Tk) : Bool := t.node == v && t.inn == f
/-- Can a token of another node come to that one? -/
def More (b : Bd) (v : Int) : Prop := ∃ t ∈ b.toks, t.node ≠ v ∧ ∃ u : Nat, t.node = (u : Int) ∧ u < b.p.n ∧ Comes b.p.n (bck b.p.n b.p.flows b.p.m) v u
/-- P8.2: can the token at that place go on by itself? -/
def Rdy (b : Bd) (i : Int) : Prop := ∃ k : Nat, i = k ∧ k < b.toks.length ∧ b.toks[k]!.stuck = false ∧ ∃ u : Nat, b.toks[k]!.node = (u : Int) ∧ u < b.p.n ∧ b.p.nodes[u]!.kind ≠ 4 ∧
  (b.p.nodes[u]!.kind = 6 → 2 ≤ (insB b.p u).length → fst (atN u) b.toks = k ∧ ∀ f ∈ insB b.p u, fst (atB u f) b.toks ≠ -1) ∧
  (b.p.nodes[u]!.kind = 7 → 2 ≤ (insB b.p u).length → fst (atN u) b.toks = k ∧ ¬ More b u)
/-- A flow's condition: what is told, whether it holds. -/
def opens (vars : List Vr.V) (c : ByteArray) : Int × Bool :=
  if c.size = 0 then (0, true) else match Co.parse c.toList with
    | some (t, none) => Co.hold (Co.ev vars t)
    | _ => (0, false)
/-- What a gateway chooses: the error's number, the flows. -/
def finish (other : Int) (m : Nat) (acc : List Nat) : Int × List Nat :=
  if acc ≠ [] then (0, acc) else if 0 ≤ other ∧ other < m then (0, [other.toNat]) else (116, [])
def choose (b : Bd) (other : Int) (most : Nat) : List Nat → List Nat → Int × List Nat
  | [], acc => finish other b.p.m acc
  | f :: l, acc =>
    if acc.length = most then finish other b.p.m acc
    else if (f : Int) = other then choose b other most l acc
    else if (opens b.vars b.p.flows[f]!.cond).1 ≠ 0 then ((opens b.vars b.p.flows[f]!.cond).1, [])
    else choose b other most l (if (opens b.vars b.p.flows[f]!.cond).2 = true then acc ++ [f] else acc)
def outWays (b : Bd) (u : Nat) : Int × List Nat :=
  let nd := b.p.nodes[u]!
  let outs := outsB b.p u
  if nd.kind = 2 ∨ nd.kind = 3 then (0, [])
  else if nd.kind = 5 then if outs.length = 1 then (0, outs) else choose b nd.dflt 1 outs []
  else if nd.kind = 7 then choose b nd.dflt outs.length outs []
  else (0, outs)
/-- Which of the places go. -/
def goes (b : Bd) (i u : Nat) (k : Nat) : Bool :=
  let nd := b.p.nodes[u]!
  if nd.kind = 3 then true
  else if nd.kind = 6 then ((insB b.p u).map fun (f : Nat) => fst (atB (u : Int) (f : Int)) b.toks).contains (k : Int)
  else if nd.kind = 7 then b.toks[k]!.node == (u : Int)
  else decide (k = i)
def left (l : List Tk) (g : Nat → Bool) : List Tk := ((List.range l.length).filter fun k => !g k).map fun k => l[k]!
def come (p : P) (fs : List Nat) : List Tk := fs.map fun (f : Nat) => ⟨0, p.flows[f]!.til, (f : Int), false⟩
def moved (b : Bd) (g : Nat → Bool) (fs : List Nat) : Bd := Bd.put { b with toks := left b.toks g } (come b.p fs)
def stuckAt (b : Bd) (i : Nat) : Bd := { b with toks := b.toks.modify i fun t => { t with stuck := true } }
/-- P8.2: one move of a token that is ready: the board, whether it moved, the Code, the error's number. -/
def bstep (b : Bd) (i : Nat) : Bd × Bool × ByteArray × Int :=
  let u := b.toks[i]!.node.toNat
  let w := outWays b u
  let r := moved b (goes b i u) w.2
  let e := if w.1 ≠ 0 then w.1 else if 40 < r.toks.length then 104 else 0
  if e ≠ 0 then (stuckAt b i, false, no, e) else (r, true, if b.p.nodes[u]!.kind = 3 then b.p.nodes[u]!.code else no, 0)
end Pr
end Go.Proofs.YtlmlhjepolefaaaGreatDoor
