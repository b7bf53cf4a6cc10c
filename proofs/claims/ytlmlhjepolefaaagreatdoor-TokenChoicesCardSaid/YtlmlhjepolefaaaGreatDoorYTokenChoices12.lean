/- Mathematics of package cond: what a condition comes to. Mathematics of processes: those without loops have no ring; their topics are few. Walks of leaseholdmake: a gateway, two or three ways, a gateway again. Walks of leaseholdmake: the number that is picked; a process that may be, out of few numbers. From the reading of an argument that is a slice to what a walk is told of it. Plain mathematics of package reach: an order, one by one the least that could come next. It names no program. Mathematics: nodes that nothing leads to are taken away, one by one; where each flow leads up all go. -/
import Derived.Test.YtlmlhjepolefaaaGreatDoorYTokenChoices14
import Derived.Test.YtlmlhjepolefaaaGreatDoorViY
import Derived.Lib.Bytealg
import Derived.Test.YtlmlhjepolefaaaGreatDoorYTokenChoices9
import Derived.Test.YtlmlhjepolefaaaGreatDoorYTokenChoices10
import Derived.Test.YtlmlhjepolefaaaGreatDoorYTokenChoices1
import Derived.Deep.Slices
import Derived.ChangeArms
import Derived.OpenShut
import Derived.ShutString
import Derived.ChangeOld
namespace Go.Proofs.YtlmlhjepolefaaaGreatDoor
open Go.RowKit

/-- A value. -/
structure Vl where
  kind : Int
  num : Int
  txt : ByteArray
def Vl.val (v : Vl) : Value := .agg #[.int .i64 v.kind, .int .i64 v.num, .string v.txt]
def Vl.list (v : Vl) : List Value := [.int .i64 v.kind, .int .i64 v.num, .string v.txt]
def Vl.zero : Vl := ⟨0, 0, ⟨#[]⟩⟩
namespace Co
def truth (v : Vl) : Int × Bool := if v.kind = 2 then (0, !(v.num == 0)) else (110, false)
def bn (b : Bool) : Int := if b then 1 else 0
def flag (b : Bool) : Vl := ⟨2, bn b, ⟨#[]⟩⟩
def eqv (a b : Vl) : Bool := a.kind == b.kind && (a.num == b.num && a.txt.toList == b.txt.toList)
def same (op : Int) (a b : Vl) : Int × Vl := if a.kind = b.kind then (0, flag (eqv a b == (op == 6))) else (110, Vl.zero)
def cmpI (a b : Int) : Int := if a < b then -1 else if b < a then 1 else 0
def byOp (op c : Int) : Bool := if op = 8 then decide (c < 0) else if op = 9 then decide (c ≤ 0) else if op = 10 then decide (0 < c) else decide (0 ≤ c)
def ordered (op : Int) (a b : Vl) : Int × Vl :=
  if a.kind = 1 ∧ b.kind = 1 then (0, flag (byOp op (cmpI a.num b.num)))
  else if a.kind = 3 ∧ b.kind = 3 then (0, flag (byOp op (Lib.compareBytes a.txt.data.toList b.txt.data.toList))) else (110, Vl.zero)
def counted (op a b : Int) : Int × Vl :=
  if op = 12 then (0, ⟨1, wrap64 (a + b), ⟨#[]⟩⟩) else if op = 13 then (0, ⟨1, wrap64 (a - b), ⟨#[]⟩⟩) else if op = 14 then (0, ⟨1, wrap64 (a * b), ⟨#[]⟩⟩)
  else if b = 0 then (113, Vl.zero) else if op = 15 then (0, ⟨1, wrap64 (a.tdiv b), ⟨#[]⟩⟩) else (0, ⟨1, (a.tmod b), ⟨#[]⟩⟩)
def cut (s : ByteArray) : ByteArray := s.extract 0 (min s.size 60)
def two (op : Int) (a b : Vl) : Int × Vl :=
  if op ≤ 7 then same op a b else if op ≤ 11 then ordered op a b
  else if op = 12 ∧ a.kind = 3 ∧ b.kind = 3 then (0, ⟨3, 0, cut (a.txt ++ b.txt)⟩) else if a.kind = 1 ∧ b.kind = 1 then counted op a.num b.num else (110, Vl.zero)
def hold (r : Int × Vl) : Int × Bool := if r.1 = 0 then truth r.2 else (r.1, false)
def notR (r : Int × Bool) : Int × Vl := if r.1 = 0 then (0, flag (!r.2)) else (r.1, Vl.zero)
def negR (r : Int × Vl) : Int × Vl := if r.1 = 0 then if r.2.kind = 1 then (0, ⟨1, wrap64 (-r.2.num), ⟨#[]⟩⟩) else (110, Vl.zero) else (r.1, Vl.zero)
def flagR (r : Int × Bool) : Int × Vl := if r.1 = 0 then (0, flag r.2) else (r.1, Vl.zero)
def joinR (op : Int) (a b : Int × Bool) : Int × Vl := if a.1 = 0 ∧ a.2 ≠ (op == 3) then flagR b else flagR a
def twoR (op : Int) (a b : Int × Vl) : Int × Vl := if a.1 = 0 then if b.1 = 0 then two op a.2 b.2 else (b.1, Vl.zero) else (a.1, Vl.zero)
def named (l : List Vr.V) (s : ByteArray) : Int × Vl := if (Vr.get l s).2 = true then (0, ⟨(Vr.get l s).1.kind, (Vr.get l s).1.num, (Vr.get l s).1.text⟩) else (108, Vl.zero)
/-- What a condition comes to: an error's number, 0: none; a value. -/
def ev (l : List Vr.V) : Tr → Int × Vl
  | .leaf op kind num txt name => if op = 1 then (0, ⟨kind, num, ⟨txt.toArray⟩⟩) else named l ⟨name.toArray⟩
  | .one op a => if op = 5 then notR (hold (ev l a)) else negR (ev l a)
  | .two op a b => if op = 3 ∨ op = 4 then joinR op (hold (ev l a)) (hold (ev l b)) else twoR op (ev l a) (ev l b)
/-- Is it one that Parse may tell? -/
def wf : Tr → Bool
  | .leaf op _ _ _ _ => op == 1 || op == 2
  | .one op a => (op == 5 || op == 17) && wf a
  | .two op a b => decide (3 ≤ op) && decide (op ≤ 16) && !(op == 5) && wf a && wf b
end Co
end Go.Proofs.YtlmlhjepolefaaaGreatDoor
namespace Go.Proofs.YtlmlhjepolefaaaGreatDoor
open Go.RowKit

namespace Pr
/-- Each flow leads to what ranks higher. -/
def Rk (p : P) (r : Nat → Nat) : Prop := ∀ f ∈ p.flows, ∃ a b : Nat, f.frm = a ∧ f.til = b ∧ a < p.n ∧ b < p.n ∧ r a < r b
def up (r : Nat → Nat) (k v : Nat) : Nat → Nat := fun i => if i = k then v else r i
theorem up_at (r : Nat → Nat) (k v : Nat) : up r k v k = v := if_pos rfl
theorem up_ne (r : Nat → Nat) {k i : Nat} (v : Nat) (h : i ≠ k) : up r k v i = r i := if_neg h
section
variable {p : P} {r : Nat → Nat} {at_ : Nat}
theorem Rk.node (h : Rk p r) (x : Nd) (v : Nat) : Rk (p.node x) (up r p.n v) := by
  intro f hf
  obtain ⟨a, b, h1, h2, h3, h4, h5⟩ := h f hf
  exact ⟨a, b, h1, h2, by rw [node_n]; omega, by rw [node_n]; omega, by rw [up_ne _ _ (Nat.ne_of_lt h3), up_ne _ _ (Nat.ne_of_lt h4)]; exact h5⟩
theorem Rk.join (h : Rk p r) {a b : Nat} (c : ByteArray) (ha : a < p.n) (hb : b < p.n) (hr : r a < r b) : Rk (p.join a b c) r := by
  intro f hf
  have hf' : f ∈ p.flows ++ [⟨a, b, c⟩] := hf
  rw [List.mem_append, List.mem_singleton] at hf'
  rcases hf' with hf' | rfl
  · exact h f hf'
  · exact ⟨a, b, rfl, rfl, ha, hb, hr⟩
theorem Rk.set (h : Rk p r) (k : Nat) (f : Nd → Nd) : Rk (p.set k f) r := by
  intro g hg
  obtain ⟨a, b, h1, h2, h3, h4, h5⟩ := h g hg
  exact ⟨a, b, h1, h2, by rw [set_n]; exact h3, by rw [set_n]; exact h4, h5⟩
theorem work_rk (h : Rk p r) (hl : at_ < p.n) (m : Int) : ∃ r', Rk (work p at_ m).1 r' := by
  have h1 := h.node (Nd.work (bs (topics m)) (nmb (m.tdiv 3) 10) (1 + nmb (m.tdiv 7) 3)) (r at_ + 1)
  have h2 := h1.join (a := at_) (b := p.n) no (by rw [node_n]; omega) (by rw [node_n]; omega) (by rw [up_at, up_ne _ _ (Nat.ne_of_lt hl)]; omega)
  have n2 : ((p.node (Nd.work (bs (topics m)) (nmb (m.tdiv 3) 10) (1 + nmb (m.tdiv 7) 3))).join at_ p.n no).n = p.n + 1 := by rw [join_n, node_n]
  unfold work
  by_cases hm : nmb (m.tdiv 5) 4 = 0
  · simp only [hm, if_true]
    rw [set_join_set]
    generalize (p.node (Nd.work (bs (topics m)) (nmb (m.tdiv 3) 10) (1 + nmb (m.tdiv 7) 3))).join at_ p.n no = p1 at *
    generalize hr1 : up r p.n (r at_ + 1) = r1 at *
    have h3 := h2.node (Nd.plain 2) (r1 p.n + 1)
    have h4 := h3.join (a := p.n) (b := p1.n) no (by rw [node_n]; omega) (by rw [node_n]; omega) (by rw [up_at, up_ne _ _ (by omega)]; omega)
    exact ⟨_, h4.set _ _⟩
  · simp only [hm, if_false]
    exact ⟨_, h2⟩
theorem way_rk {a b : Nat} (h : Rk p r) (ha : a < p.n) (hb : b < p.n) (hr : r a + 2 ≤ r b) (m open_ : Int) (j : Nat) :
    ∃ r', Rk (way a b m open_ j p) r' ∧ r' a = r a ∧ r' b = r b ∧ p.n ≤ (way a b m open_ j p).n := by
  have last : ∀ (q : P) (r1 : Nat → Nat) (t : Nat) (c : ByteArray) (d : Prop) [Decidable d], Rk q r1 → a < q.n → t < q.n → r1 a < r1 t → Rk (if d then (q.join a t c).set a (fun x => { x with dflt := q.m }) else q.join a t c) r1 ∧ (if d then (q.join a t c).set a (fun x => { x with dflt := q.m }) else q.join a t c).n = q.n := by
    intro q r1 t c d _ hq h1 h2 h3
    have := hq.join (a := a) (b := t) c h1 h2 h3
    by_cases hd : d
    · simp only [hd, if_true]; exact ⟨this.set _ _, by rw [set_n, join_n]⟩
    · simp only [hd, if_false]; exact ⟨this, by rw [join_n]⟩
  unfold way
  by_cases hm : nmb (m / 2 ^ j) 2 = 0
  · simp only [hm, if_true]
    have h1 := h.node (Nd.work (bs (topics (wrap64 (m + j)))) j 2) (r a + 1)
    have h2 := h1.join (a := p.n) (b := b) no (by rw [node_n]; omega) (by rw [node_n]; omega) (by rw [up_at, up_ne _ _ (Nat.ne_of_lt hb)]; omega)
    obtain ⟨k1, k2⟩ := last _ _ p.n _ (open_ ≠ 6 ∧ j = 0 ∧ 0 < nmb (m.tdiv 11) 4) h2 (by rw [join_n, node_n]; omega) (by rw [join_n, node_n]; omega) (by rw [up_at, up_ne _ _ (Nat.ne_of_lt ha)]; omega)
    exact ⟨_, k1, up_ne _ _ (Nat.ne_of_lt ha), up_ne _ _ (Nat.ne_of_lt hb), by rw [k2, join_n, node_n]; omega⟩
  · simp only [hm, if_false]
    obtain ⟨k1, k2⟩ := last p r b _ (open_ ≠ 6 ∧ j = 0 ∧ 0 < nmb (m.tdiv 11) 4) h ha hb (by omega)
    exact ⟨_, k1, rfl, rfl, by rw [k2]; omega⟩
theorem ways_rk {a b : Nat} (h : Rk p r) (ha : a < p.n) (hb : b < p.n) (hr : r a + 2 ≤ r b) (m open_ : Int) : ∀ j, ∃ r', Rk (ways a b m open_ j p) r' ∧ r' a = r a ∧ r' b = r b ∧ p.n ≤ (ways a b m open_ j p).n
  | 0 => ⟨r, h, rfl, rfl, Nat.le_refl _⟩
  | j + 1 => by
    obtain ⟨r1, h1, h2, h3, h4⟩ := ways_rk h ha hb hr m open_ j
    have hw : ways a b m open_ (j + 1) p = way a b m open_ j (ways a b m open_ j p) := rfl
    rw [hw]
    obtain ⟨r2, k1, k2, k3, k4⟩ := way_rk h1 (Nat.lt_of_lt_of_le ha h4) (Nat.lt_of_lt_of_le hb h4) (by rw [h2, h3]; exact hr) m open_ j
    exact ⟨r2, k1, k2.trans h2, k3.trans h3, by omega⟩
theorem parts_rk (h : Rk p r) (hl : at_ < p.n) (m open_ shut : Int) : ∃ r', Rk (parts p at_ m open_ shut).1 r' := by
  have h1 := h.node (Nd.plain open_) (r at_ + 1)
  have h2 := h1.join (a := at_) (b := p.n) no (by rw [node_n]; omega) (by rw [node_n]; omega) (by rw [up_at, up_ne _ _ (Nat.ne_of_lt hl)]; omega)
  have n2 : ((p.node (Nd.plain open_)).join at_ p.n no).n = p.n + 1 := by rw [join_n, node_n]
  unfold parts
  simp only []
  generalize (p.node (Nd.plain open_)).join at_ p.n no = p1 at *
  generalize hr1 : up r p.n (r at_ + 1) = r1 at *
  have h3 := h2.node (Nd.plain shut) (r1 p.n + 2)
  obtain ⟨r2, k1, _⟩ := ways_rk h3 (a := p.n) (b := p.n + 1) (by rw [node_n]; omega) (by rw [node_n]; omega) (by rw [n2, up_at, up_ne _ _ (by omega)]; omega) m open_ (2 + nmb m 2).toNat
  exact ⟨r2, k1⟩
theorem pieces_rk (kinds more : List Int) : ∀ i, ∃ r, Rk (pieces false kinds more i).1 r
  | 0 => ⟨fun _ => 0, fun f hf => by cases hf⟩
  | i + 1 => by
    obtain ⟨r, h⟩ := pieces_rk kinds more i
    have hl := (pieces_st false kinds more i).1.lt
    unfold pieces
    simp only []
    split
    · unfold piece
      simp only []
      split
      · exact work_rk h hl _
      split
      · exact parts_rk h hl _ _ _
      split
      · exact parts_rk h hl _ _ _
      split
      · exact parts_rk h hl _ _ _
      rw [if_neg (by decide)]
      exact work_rk h hl _
    · exact ⟨r, h⟩
theorem good_rk (kinds more : List Int) : ∃ r, Rk (good kinds more false) r := by
  obtain ⟨r, h⟩ := pieces_rk kinds more kinds.length
  have hl := (pieces_st false kinds more kinds.length).1.lt
  unfold good
  generalize pieces false kinds more kinds.length = q at *
  obtain ⟨q, at_⟩ := q
  dsimp only at *
  have h1 := h.node (Nd.plain 2) (r at_ + 1)
  exact ⟨_, h1.join (a := at_) (b := q.n) no (by rw [node_n]; omega) (by rw [node_n]; omega) (by rw [up_at, up_ne _ _ (Nat.ne_of_lt hl)]; omega)⟩
end
end Pr
end Go.Proofs.YtlmlhjepolefaaaGreatDoor
namespace Go.Proofs.YtlmlhjepolefaaaGreatDoor
open Go.RowKit

namespace Pr
/-- What a way is made of. -/
def wayC (m open_ : Int) (i : Nat) : ByteArray := if open_ = 6 then no else bs (conds (wrap64 (m.tdiv 3 + i)))
def wayQ (b : Nat) (m : Int) (i : Nat) (p : P) : P := if nmb (m / 2 ^ i) 2 = 0 then (p.node (Nd.work (bs (topics (wrap64 (m + i)))) i 2)).join p.n b no else p
def wayT (b : Nat) (m : Int) (i : Nat) (p : P) : Nat := if nmb (m / 2 ^ i) 2 = 0 then p.n else b
theorem way_eq (a b : Nat) (m open_ : Int) (i : Nat) (p : P) : way a b m open_ i p = if open_ ≠ 6 ∧ i = 0 ∧ 0 < nmb (m.tdiv 11) 4 then ((wayQ b m i p).join a (wayT b m i p) (wayC m open_ i)).set a (fun x => { x with dflt := (wayQ b m i p).m }) else (wayQ b m i p).join a (wayT b m i p) (wayC m open_ i) := rfl
theorem wayQ_size (b : Nat) (m : Int) (i : Nat) (p : P) : p.n ≤ (wayQ b m i p).n ∧ (wayQ b m i p).n ≤ p.n + 1 ∧ (wayQ b m i p).m ≤ p.m + 1 := by
  unfold wayQ
  split
  · rw [join_n, node_n, join_m, node_m]; omega
  · omega
theorem way_size (a b : Nat) (m open_ : Int) (i : Nat) (p : P) : p.n ≤ (way a b m open_ i p).n ∧ (way a b m open_ i p).n ≤ p.n + 1 ∧ (way a b m open_ i p).m ≤ p.m + 2 := by
  have h := wayQ_size b m i p
  rw [way_eq]
  split
  · rw [set_n, set_m, join_n, join_m]; omega
  · rw [join_n, join_m]; omega
theorem ways_size (a b : Nat) (m open_ : Int) (p : P) : ∀ i, p.n ≤ (ways a b m open_ i p).n ∧ (ways a b m open_ i p).n ≤ p.n + i ∧ (ways a b m open_ i p).m ≤ p.m + 2 * i
  | 0 => ⟨Nat.le_refl _, Nat.le_refl _, Nat.le_refl _⟩
  | i + 1 => by
    have h1 := ways_size a b m open_ p i
    have h2 := way_size a b m open_ i (ways a b m open_ i p)
    have e : ways a b m open_ (i + 1) p = way a b m open_ i (ways a b m open_ i p) := rfl
    rw [e]; omega
section
variable {w : World} {base q : Nat} {p : P}
end
end Pr
end Go.Proofs.YtlmlhjepolefaaaGreatDoor
namespace Go.Proofs.YtlmlhjepolefaaaGreatDoor
open Go.RowKit

namespace Pr
theorem pieces_stop (rings : Bool) (ks ms : List Int) (i : Nat) (h : ¬ (pieces rings ks ms i).1.n < 22) : ∀ d, pieces rings ks ms (i + d) = pieces rings ks ms i
  | 0 => rfl
  | d + 1 => by
    have ih := pieces_stop rings ks ms i h d
    show (let r := pieces rings ks ms (i + d); if r.1.n < 22 then _ else r) = _
    simp only [ih]
    rw [if_neg h]
def iv (k : Int) : Value := .int .i64 k
section
variable {w : World}
theorem piece_work {rings : Bool} {kd m : Int} {p : P} {at_ : Nat} (h : nmb kd 7 ≤ 2 ∨ (nmb kd 7 = 6 ∧ rings = false)) : piece rings kd m p at_ = work p at_ m := by
  unfold piece
  simp only []
  rcases h with h | ⟨h, rfl⟩
  · rw [if_pos h]
  · rw [h]; rfl
theorem piece_parts {rings : Bool} {kd m : Int} {p : P} {at_ : Nat} (k : Int) (h : nmb kd 7 = k) (hk : k = 3 ∨ k = 4 ∨ k = 5) : piece rings kd m p at_ = parts p at_ m (k + 2) (k + 2) := by
  unfold piece
  simp only []
  rcases hk with rfl | rfl | rfl <;> rw [h] <;> rfl
theorem piece_loop {kd m : Int} {p : P} {at_ : Nat} (h : nmb kd 7 = 6) : piece true kd m p at_ = loop p at_ m := by
  unfold piece
  simp only []
  rw [h]; rfl
theorem four_new (w : World) (o1 o2 o3 o4 : Obj) : ((((w.alloc o1).alloc o2).alloc o3).alloc o4).heap[w.heap.size]? = some o1 ∧ ((((w.alloc o1).alloc o2).alloc o3).alloc o4).heap[w.heap.size + 1]? = some o2 ∧
    ((((w.alloc o1).alloc o2).alloc o3).alloc o4).heap[w.heap.size + 1 + 1]? = some o3 ∧ ((((w.alloc o1).alloc o2).alloc o3).alloc o4).heap[w.heap.size + 1 + 1 + 1]? = some o4 := by
  obtain ⟨h1, h2, h3⟩ := three_new w o1 o2 o3
  have s3 : (((w.alloc o1).alloc o2).alloc o3).heap.size = w.heap.size + 1 + 1 + 1 := by simp
  have h4 := heap_alloc_new (((w.alloc o1).alloc o2).alloc o3) o4
  rw [s3] at h4
  have b4 : Below (((w.alloc o1).alloc o2).alloc o3).heap.size (((w.alloc o1).alloc o2).alloc o3) ((((w.alloc o1).alloc o2).alloc o3).alloc o4) := (Below.refl _ _).alloc (Nat.le_refl _) o4
  exact ⟨(b4.block _ (by omega)).trans h1, (b4.block _ (by omega)).trans h2, (b4.block _ (by omega)).trans h3, h4⟩
theorem cel_of {w : World} {b : Nat} {cs : Array Value} {T : TypeId} (h : w.heap[b]? = some (.cells cs T (0, 0))) : Cel w b cs.toList := by
  refine ⟨fun i v hi => ?_, fun i _ => ?_, blk_lt h⟩
  · rw [cell_of_row w b i cs T (0, 0) h]; simpa using hi
  · unfold World.frozen?; rw [h]; rfl
theorem C.cell1 {w : World} {base q : Nat} {p : P} (h : C w base q p) : ∃ (A : Option Addr) (c : Nat), w.cell? ⟨q, 1, none⟩ = some (.slice A p.n c) := by
  obtain ⟨A, n, c, F, m, d, hc, hn, _⟩ := h.ex
  obtain rfl : p.n = n := hn.len
  exact ⟨A, c, hc.cell 1 _ rfl⟩
theorem Cel.low {w w' : World} {b B : Nat} {cs : List Value} (h : Cel w b cs) (hb : Below B w w') (hB : b < B) : Cel w' b cs :=
  ⟨fun i v hi => (hb.cell (p := ⟨b, i, none⟩) hB).trans (h.cell i v hi), fun i hi => (hb.frozen (p := ⟨b, i, none⟩) hB).trans (h.froz i hi), Nat.lt_of_lt_of_le h.lt hb.size⟩
/-- The row of the one node that stands first. -/
theorem own_lit {w : World} {g : Nat} (h : w.heap[g]? = some (.cells #[.int .i64 1, .string ⟨#[]⟩, .int .i64 0, .int .i64 0, .int .i64 (-1), .string ⟨#[]⟩, .string ⟨#[]⟩, .int .i64 (-1)] 26 (0, 0))) {base : Nat} (hb : base ≤ g) :
    OwnK Nd.κ w base 26 (some ⟨g, 0, none⟩) 1 1 [Nd.plain 1] :=
  ⟨by decide, rfl, .inr ⟨g, 1, _, rfl, hb, h, by decide, by unfold maxLen; decide, rfl, rfl⟩⟩
end
end Pr
end Go.Proofs.YtlmlhjepolefaaaGreatDoor
namespace Go.Proofs.YtlmlhjepolefaaaGreatDoor
open Go.ChangeShapes Go.WideShapes Go.RowKit

/-- A slice that came in, its elements sz cells wide. -/
structure InRow (w : World) (sz : Nat) (A : Option Addr) (n c : Nat) (l : List Value) : Prop where
  row : RowS w w.heap.size sz A n l
  nn : A = none → n = 0 ∧ c = 0
  cap : n ≤ c
  most : c ≤ maxLen

theorem open_row1 {α : Type} [Inhabited α] {H : Type} {enc : TypeId × Value → H} {P : Program} {W : World} {t e : TypeId} {a : Option Addr} {len cap : Nat} {d : DataW H} {ps : List MemPlace}
    (f : α → Value) (ok : α → Prop) (ht : P.underlying t = some (.slice e)) (hc : P.cellsOf e = 1)
    (hel : ∀ n V x, DataW.trod enc P W 0 (fun _ => true) true n e [V] = some x → ∃ y, V = f y ∧ ok y)
    (h : DataW.Trod enc P W 0 (fun _ => true) true t (.slice a len cap) d ps) : ∃ l : List α, InRow W 1 a len cap (l.map f) ∧ ∀ y ∈ l, ok y := by
  obtain ⟨fuel, hf⟩ := h
  rcases Deep.open_slice1 ht hc hf with ⟨hcs, _⟩ | ⟨x, l, c, m, n, V, D, Pl, hcs, _, hl, hm, hmm, _, hx⟩
  · simp [Value.cells] at hcs
    obtain ⟨rfl, rfl, rfl⟩ := hcs
    exact ⟨[], ⟨RowS.nil _ _ _ _, fun _ => ⟨rfl, rfl⟩, Nat.le_refl _, by simp [maxLen]⟩, fun y h => by cases h⟩
  · simp [Value.cells] at hcs
    obtain ⟨rfl, rfl, rfl⟩ := hcs
    simp only [if_true] at hmm
    subst hmm
    obtain ⟨Y, hY⟩ := Deep.choose_lt (α := α) (p := fun i y => V i = f y ∧ ok y) (fun i hi => hel _ _ _ (hx i hi).2)
    refine ⟨(List.range len).map Y, ⟨⟨by simp, fun h0 => ?_⟩, (fun h => by cases h), hl, hm⟩, fun y hy => ?_⟩
    · have h1 := (hx 0 (by omega)).1
      obtain ⟨b, off, spot⟩ := x
      obtain rfl : spot = none := by simpa [Addr.add] using World.cell?_spot h1
      have hlt : b < W.heap.size := by simpa [Addr.add] using cell_lt h1
      refine ⟨b, off, rfl, hlt, fun k v hv => ?_⟩
      have hk : k < len := by simpa using (List.getElem?_eq_some_iff.1 hv).1
      rw [← addr_add b off k, (hx k (by omega)).1, (hY k (by omega)).1]
      simpa [hk] using hv
    · obtain ⟨i, hi, rfl⟩ := List.mem_map.1 hy
      exact (hY i (by have := List.mem_range.1 hi; omega)).2

section
variable {H : Type} {enc : TypeId × Value → H} {P : Program} {W : World} {t e : TypeId} {a : Option Addr} {len cap : Nat} {d : DataW H} {ps : List MemPlace}
theorem open_ints64 (ht : P.underlying t = some (.slice e)) (he : P.underlying e = some (.int .i64)) (hc : P.cellsOf e = 1) (h : DataW.Trod enc P W 0 (fun _ => true) true t (.slice a len cap) d ps) :
    ∃ l : List Int, InRow W 1 a len cap (l.map (Value.int .i64)) ∧ ∀ y ∈ l, -9223372036854775808 ≤ y ∧ y ≤ 9223372036854775807 :=
  open_row1 (Value.int .i64) _ ht hc (fun n V x hx => by
    obtain ⟨y, h1, _, h2⟩ := DataW.trod_int he hx
    have := bounds_i64 h2
    exact ⟨y, by simpa using h1, by omega⟩) h
theorem open_strs (ht : P.underlying t = some (.slice e)) (he : P.underlying e = some .string) (hc : P.cellsOf e = 1) (h : DataW.Trod enc P W 0 (fun _ => true) true t (.slice a len cap) d ps) :
    ∃ l : List ByteArray, InRow W 1 a len cap (l.map Value.string) ∧ ∀ y ∈ l, y.size ≤ maxLen :=
  open_row1 Value.string _ ht hc (fun n V x hx => by
    obtain ⟨y, h1, _, h2⟩ := DataW.trod_string he hx
    exact ⟨y, by simpa using h1, h2⟩) h
theorem open_boolrow (ht : P.underlying t = some (.slice e)) (he : P.underlying e = some .bool) (hc : P.cellsOf e = 1) (h : DataW.Trod enc P W 0 (fun _ => true) true t (.slice a len cap) d ps) :
    ∃ l : List Bool, InRow W 1 a len cap (l.map Value.bool) := by
  obtain ⟨l, h, _⟩ := open_row1 Value.bool (fun _ => True) ht hc (fun n V x hx => by
    obtain ⟨y, h1, _⟩ := DataW.trod_bool he hx
    exact ⟨y, by simpa using h1, trivial⟩) h
  exact ⟨l, h⟩
end
end Go.Proofs.YtlmlhjepolefaaaGreatDoor
namespace Go.Proofs.YtlmlhjepolefaaaGreatDoor.Rc

/-- How many ways to v come from those that have not come. -/
def pendL (L : Nat → List Nat) (out : List Nat) (v : Nat) (l : List Nat) : Nat := (l.map fun u => if u ∈ out then 0 else (L u).count v).sum
def pend (n : Nat) (L : Nat → List Nat) (out : List Nat) (v : Nat) : Nat := pendL L out v (List.range n)
theorem pendL_other {L : Nat → List Nat} {out : List Nat} {v u : Nat} : ∀ l : List Nat, u ∉ l → pendL L (out ++ [u]) v l = pendL L out v l
  | [], _ => rfl
  | x :: l, h => by
    rw [List.mem_cons, not_or] at h
    have ih := pendL_other (L := L) (out := out) (v := v) (u := u) l h.2
    unfold pendL at ih ⊢
    rw [List.map_cons, List.sum_cons, List.map_cons, List.sum_cons, ih]
    have : (x ∈ out ++ [u]) ↔ x ∈ out := by
      rw [List.mem_append, List.mem_singleton]
      exact ⟨fun h1 => h1.resolve_right (fun e => h.1 e.symm), .inl⟩
    by_cases hx : x ∈ out
    · rw [if_pos hx, if_pos (this.2 hx)]
    · rw [if_neg hx, if_neg (fun h1 => hx (this.1 h1))]
theorem pendL_snoc {L : Nat → List Nat} {out : List Nat} {v u : Nat} (hu : u ∉ out) : ∀ l : List Nat, l.Nodup → u ∈ l → pendL L out v l = pendL L (out ++ [u]) v l + (L u).count v
  | [], _, h => by cases h
  | x :: l, hn, h => by
    rw [List.nodup_cons] at hn
    by_cases e : x = u
    · subst e
      have h1 := pendL_other (L := L) (out := out) (v := v) l hn.1
      unfold pendL at h1 ⊢
      rw [List.map_cons, List.sum_cons, List.map_cons, List.sum_cons, h1, if_neg hu, if_pos (List.mem_append_right _ (List.mem_singleton.2 rfl))]
      omega
    · have hm : u ∈ l := by
        cases h with
        | head => exact absurd rfl e
        | tail _ h => exact h
      have ih := pendL_snoc (L := L) (out := out) (v := v) hu l hn.2 hm
      unfold pendL at ih ⊢
      rw [List.map_cons, List.sum_cons, List.map_cons, List.sum_cons, ih]
      have : (x ∈ out ++ [u]) ↔ x ∈ out := by
        rw [List.mem_append, List.mem_singleton]
        exact ⟨fun h1 => h1.resolve_right e, .inl⟩
      by_cases hx : x ∈ out
      · rw [if_pos hx, if_pos (this.2 hx)]; omega
      · rw [if_neg hx, if_neg (fun h1 => hx (this.1 h1))]; omega
theorem pend_snoc {n : Nat} {L : Nat → List Nat} {out : List Nat} {u : Nat} (v : Nat) (hu : u ∉ out) (hn : u < n) : pend n L out v = pend n L (out ++ [u]) v + (L u).count v :=
  pendL_snoc hu _ List.nodup_range (List.mem_range.2 hn)
theorem pendL_zero {L : Nat → List Nat} {out : List Nat} {v : Nat} : ∀ l : List Nat, pendL L out v l = 0 ↔ ∀ u ∈ l, u ∈ out ∨ v ∉ L u
  | [] => ⟨fun _ u h => (by cases h), fun _ => rfl⟩
  | x :: l => by
    have ih := pendL_zero (L := L) (out := out) (v := v) l
    unfold pendL at ih ⊢
    rw [List.map_cons, List.sum_cons, Nat.add_eq_zero_iff, ih]
    constructor
    · rintro ⟨h1, h2⟩ u hu
      cases hu with
      | head =>
        by_cases hx : x ∈ out
        · exact .inl hx
        · rw [if_neg hx] at h1; exact .inr (List.count_eq_zero.1 h1)
      | tail _ hu => exact h2 u hu
    · intro h
      refine ⟨?_, fun u hu => h u (List.mem_cons_of_mem _ hu)⟩
      by_cases hx : x ∈ out
      · rw [if_pos hx]
      · rw [if_neg hx]; exact List.count_eq_zero.2 ((h x (List.mem_cons_self)).resolve_left hx)
theorem pend_zero {n : Nat} {L : Nat → List Nat} {out : List Nat} {v : Nat} : pend n L out v = 0 ↔ ∀ u, u < n → u ∈ out ∨ v ∉ L u := by
  unfold pend
  rw [pendL_zero]
  exact ⟨fun h u hu => h u (List.mem_range.2 hu), fun h u hu => h u (List.mem_range.1 hu)⟩

/-- Could it come next? -/
def free (n : Nat) (L : Nat → List Nat) (out : List Nat) (i : Nat) : Bool := !out.contains i && (List.range n).all fun u => out.contains u || !(L u).contains i
theorem free_iff {n : Nat} {L : Nat → List Nat} {out : List Nat} {i : Nat} : free n L out i = true ↔ i ∉ out ∧ ∀ u, u < n → u ∈ out ∨ i ∉ L u := by
  unfold free
  simp [List.all_eq_true]
theorem free_pend {n : Nat} {L : Nat → List Nat} {out : List Nat} {i : Nat} : free n L out i = true ↔ i ∉ out ∧ pend n L out i = 0 := by
  rw [free_iff, pend_zero]
def nextOf (n : Nat) (L : Nat → List Nat) (out : List Nat) : Option Nat := (List.range n).find? (free n L out)
theorem nextOf_some {n : Nat} {L : Nat → List Nat} {out : List Nat} {u : Nat} (hu : u < n) (hf : free n L out u = true) (hl : ∀ v, v < u → free n L out v = false) : nextOf n L out = some u := by
  unfold nextOf
  rw [List.find?_range_eq_some]
  exact ⟨hf, List.mem_range.2 hu, fun j hj => by rw [hl j hj]; rfl⟩
theorem nextOf_of {n : Nat} {L : Nat → List Nat} {out : List Nat} {u : Nat} (h : nextOf n L out = some u) : u < n ∧ free n L out u = true ∧ ∀ v, v < u → free n L out v = false := by
  unfold nextOf at h
  rw [List.find?_range_eq_some] at h
  exact ⟨List.mem_range.1 h.2.1, h.1, fun v hv => by simpa using h.2.2 v hv⟩
theorem nextOf_none {n : Nat} {L : Nat → List Nat} {out : List Nat} (h : ∀ v, v < n → free n L out v = false) : nextOf n L out = none := by
  unfold nextOf
  rw [List.find?_eq_none]
  intro v hv
  rw [h v (List.mem_range.1 hv)]; decide
theorem none_of {n : Nat} {L : Nat → List Nat} {out : List Nat} (h : nextOf n L out = none) {v : Nat} (hv : v < n) : free n L out v = false := by
  unfold nextOf at h
  rw [List.find?_eq_none] at h
  simpa using h v (List.mem_range.2 hv)
def ordF (n : Nat) (L : Nat → List Nat) : Nat → List Nat → List Nat
  | 0, out => out
  | k + 1, out => match nextOf n L out with
    | none => out
    | some u => ordF n L k (out ++ [u])
def ord (n : Nat) (L : Nat → List Nat) : List Nat := ordF n L n []
theorem ordF_none {n : Nat} {L : Nat → List Nat} {out : List Nat} (h : nextOf n L out = none) : ∀ k, ordF n L k out = out
  | 0 => rfl
  | k + 1 => by unfold ordF; rw [h]
theorem ordF_some {n : Nat} {L : Nat → List Nat} {out : List Nat} {u k : Nat} (h : nextOf n L out = some u) : ordF n L (k + 1) out = ordF n L k (out ++ [u]) := by
  show (match nextOf n L out with | none => out | some u => ordF n L k (out ++ [u])) = _
  rw [h]
/-- Each comes behind all that lead to it. -/
structure Top (n : Nat) (L : Nat → List Nat) (out : List Nat) : Prop where
  nod : out.Nodup
  lt : ∀ v ∈ out, v < n
  lead : ∀ k v, out[k]? = some v → ∀ u, u < n → v ∈ L u → u ∈ out.take k
theorem Top.nil (n : Nat) (L : Nat → List Nat) : Top n L [] := ⟨List.nodup_nil, fun v h => (by cases h), fun k v h => (by simp at h)⟩
theorem Top.snoc {n : Nat} {L : Nat → List Nat} {out : List Nat} {u : Nat} (h : Top n L out) (hu : u < n) (hf : free n L out u = true) : Top n L (out ++ [u]) where
  nod := by
    rw [List.nodup_append]
    refine ⟨h.nod, (by simp), fun a ha b hb e => ?_⟩
    rw [List.mem_singleton] at hb
    subst hb; subst e
    exact (free_iff.1 hf).1 ha
  lt := fun v hv => by
    rcases List.mem_append.1 hv with h1 | h1
    · exact h.lt v h1
    · rw [List.mem_singleton.1 h1]; exact hu
  lead := fun k v hk x hx hv => by
    by_cases e : k < out.length
    · rw [List.getElem?_append_left e] at hk
      rw [List.take_append_of_le_length (by omega)]
      exact h.lead k v hk x hx hv
    · rw [List.getElem?_append_right (by omega)] at hk
      have hk0 : k - out.length = 0 := by
        rcases Nat.eq_zero_or_pos (k - out.length) with h0 | h0
        · exact h0
        · rw [List.getElem?_eq_none (by simp; omega)] at hk; cases hk
      rw [hk0] at hk
      have hvu : u = v := by simpa using hk
      subst hvu
      have hko : k = out.length := by omega
      subst hko
      rw [List.take_left]
      exact ((free_iff.1 hf).2 x hx).resolve_right (fun h1 => h1 hv)
theorem ordF_top {n : Nat} {L : Nat → List Nat} : ∀ k (out : List Nat), Top n L out → Top n L (ordF n L k out)
  | 0, _, h => h
  | k + 1, out, h => by
    cases hx : nextOf n L out with
    | none => rw [ordF_none hx]; exact h
    | some u =>
      rw [ordF_some hx]
      obtain ⟨h1, h2, _⟩ := nextOf_of hx
      exact ordF_top k _ (h.snoc h1 h2)
theorem ord_top (n : Nat) (L : Nat → List Nat) : Top n L (ord n L) := ordF_top n [] (Top.nil n L)
theorem sub_length : ∀ (l G : List Nat), l.Nodup → (∀ x ∈ l, x ∈ G) → l.length ≤ G.length
  | [], _, _, _ => Nat.zero_le _
  | x :: l, G, hn, hs => by
    rw [List.nodup_cons] at hn
    have h1 := sub_length l (G.erase x) hn.2 (fun y hy => (List.mem_erase_of_ne (fun e => hn.1 (by rw [← e]; exact hy))).2 (hs y (List.mem_cons_of_mem _ hy)))
    have h2 := hs x List.mem_cons_self
    rw [List.length_erase_of_mem h2] at h1
    have := List.length_pos_of_mem h2
    rw [List.length_cons]; omega
theorem Top.len {n : Nat} {L : Nat → List Nat} {out : List Nat} (h : Top n L out) : out.length ≤ n := by
  have := sub_length out (List.range n) h.nod (fun x hx => List.mem_range.2 (h.lt x hx))
  rwa [List.length_range] at this
/-- As many as there are: all. -/
theorem Top.all {n : Nat} {L : Nat → List Nat} {out : List Nat} (h : Top n L out) (hl : out.length = n) {v : Nat} (hv : v < n) : v ∈ out := by
  rcases Classical.em (v ∈ out) with h1 | h1
  · exact h1
  · exfalso
    have := sub_length (v :: out) (List.range n) (List.nodup_cons.2 ⟨h1, h.nod⟩) (fun x hx => by
      cases hx with
      | head => exact List.mem_range.2 hv
      | tail _ hx => exact List.mem_range.2 (h.lt x hx))
    rw [List.length_range, List.length_cons] at this
    omega
theorem ordF_full {n : Nat} {L : Nat → List Nat} {out : List Nat} (h : Top n L out) (hl : out.length = n) (k : Nat) : ordF n L k out = out :=
  ordF_none (nextOf_none fun v hv => by
    rw [Bool.eq_false_iff]
    intro hf
    exact (free_iff.1 hf).1 (h.all hl hv)) k
/-- Its place. -/
def rank (out : List Nat) (v : Nat) : Nat := out.idxOf v
theorem Top.rank {n : Nat} {L : Nat → List Nat} {out : List Nat} (h : Top n L out) (hl : out.length = n) {u v : Nat} (hu : u < n) (hv : v < n) (he : v ∈ L u) : rank out u < rank out v := by
  have hm := h.all hl hv
  have h1 : out.idxOf v < out.length := List.idxOf_lt_length_of_mem hm
  have h2 : out[out.idxOf v]? = some v := by
    rw [List.getElem?_eq_getElem h1, List.getElem_idxOf h1]
  have h3 := h.lead _ v h2 u hu he
  unfold Rc.rank
  have h4 : (out.take (out.idxOf v)).idxOf u < (out.take (out.idxOf v)).length := List.idxOf_lt_length_of_mem h3
  have h5 : out.idxOf u = (out.take (out.idxOf v)).idxOf u := by
    have h6 : out = out.take (out.idxOf v) ++ out.drop (out.idxOf v) := (List.take_append_drop _ _).symm
    have h7 : (out.take (out.idxOf v) ++ out.drop (out.idxOf v)).idxOf u = (out.take (out.idxOf v)).idxOf u := by rw [List.idxOf_append, if_pos h3]
    rw [← h6] at h7
    exact h7
  rw [List.length_take] at h4
  omega
/-- Where each step ranks higher all come. -/
theorem ord_full {n : Nat} {L : Nat → List Nat} {r : Nat → Nat} (hr : ∀ u v, u < n → v ∈ L u → r u < r v) : (ord n L).length = n := by
  have key : ∀ k (out : List Nat), Top n L out → out.length + k = n → (ordF n L k out).length = n := by
    intro k
    induction k with
    | zero => intro out _ h; exact h
    | succ k ih =>
      intro out ht hk
      cases hx : nextOf n L out with
      | some u =>
        rw [ordF_some hx]
        obtain ⟨h1, h2, _⟩ := nextOf_of hx
        exact ih _ (ht.snoc h1 h2) (by rw [List.length_append, List.length_singleton]; omega)
      | none =>
        exfalso
        have step : ∀ m v, v < n → v ∉ out → r v ≤ m → False := by
          intro m
          induction m with
          | zero =>
            intro v hv hvo hm
            have hf := none_of hx hv
            rw [Bool.eq_false_iff] at hf
            refine hf (free_iff.2 ⟨hvo, fun u hu => .inr fun he => ?_⟩)
            have := hr u v hu he
            omega
          | succ m ihm =>
            intro v hv hvo hm
            have hf := none_of hx hv
            rw [Bool.eq_false_iff] at hf
            refine hf (free_iff.2 ⟨hvo, fun u hu => ?_⟩)
            rcases Classical.em (u ∈ out) with h1 | h1
            · exact .inl h1
            · refine .inr fun he => ihm u hu h1 ?_
              have := hr u v hu he
              omega
        have : ∃ v, v < n ∧ v ∉ out := by
          rcases Classical.em (∃ v, v < n ∧ v ∉ out) with h | h
          · exact h
          · exfalso
            have := sub_length (List.range n) out List.nodup_range (fun x hx => by
              rcases Classical.em (x ∈ out) with h1 | h1
              · exact h1
              · exact absurd ⟨x, List.mem_range.1 hx, h1⟩ h)
            rw [List.length_range] at this
            omega
        obtain ⟨v, hv, hvo⟩ := this
        exact step (r v) v hv hvo (Nat.le_refl _)
  exact key n [] (Top.nil n L) (by simp)

/-- The state between two nodes, and in the midst of one: R leads on still. -/
structure Od (n : Nat) (L : Nat → List Nat) (out C : List Nat) (W : Nat → Nat) (R : List Nat) : Prop where
  cn : C.Nodup
  mem : ∀ v, v ∈ C ↔ v < n ∧ v ∉ out ∧ W v = 0
  onod : out.Nodup
  outz : ∀ v ∈ out, v < n ∧ W v = 0
  wdef : ∀ v, v < n → W v = pend n L out v + R.count v
section
variable {n : Nat} {L : Nat → List Nat} {out C C' : List Nat} {W : Nat → Nat} {R : List Nat}
theorem Od.perm (h : Od n L out C W R) (hp : C'.Perm C) : Od n L out C' W R := ⟨hp.nodup_iff.2 h.cn, fun v => by rw [hp.mem_iff]; exact h.mem v, h.onod, h.outz, h.wdef⟩
theorem Od.start (n : Nat) (L : Nat → List Nat) : Od n L [] ((List.range n).filter fun v => pend n L [] v == 0) (pend n L []) [] where
  cn := List.nodup_range.filter _
  mem := fun v => by simp [List.mem_filter]
  onod := List.nodup_nil
  outz := fun v h => by cases h
  wdef := fun v _ => by simp
theorem Od.free (h : Od n L out C W []) {v : Nat} (hv : v < n) : free n L out v = true ↔ v ∈ C := by
  rw [free_pend, h.mem v, h.wdef v hv, List.count_nil, Nat.add_zero]
  exact ⟨fun h1 => ⟨hv, h1⟩, fun h1 => h1.2⟩
theorem Od.none (h : Od n L out [] W []) : nextOf n L out = none := nextOf_none fun v hv => by
  rw [Bool.eq_false_iff]
  intro hf
  have := (h.free hv).1 hf
  cases this
theorem Od.some {u : Nat} (h : Od n L out C W []) (hu : u ∈ C) (hl : ∀ v ∈ C, u ≤ v) : nextOf n L out = some u := by
  have hun := ((h.mem u).1 hu).1
  refine nextOf_some hun ((h.free hun).2 hu) fun v hv => ?_
  rw [Bool.eq_false_iff]
  intro hf
  have := hl v ((h.free (by omega)).1 hf)
  omega
theorem Od.pick {u : Nat} (h : Od n L out C W []) (hp : C.Perm (u :: C')) : Od n L (out ++ [u]) C' W (L u) := by
  have hn := (hp.nodup_iff).1 h.cn
  rw [List.nodup_cons] at hn
  have hu := (h.mem u).1 (hp.mem_iff.2 List.mem_cons_self)
  refine ⟨hn.2, fun v => ?_, ?_, fun v hv => ?_, fun v hv => ?_⟩
  · have h1 := h.mem v
    rw [hp.mem_iff, List.mem_cons] at h1
    rw [List.mem_append, List.mem_singleton, not_or]
    constructor
    · intro hv
      obtain ⟨a, b, c⟩ := h1.1 (.inr hv)
      exact ⟨a, ⟨b, fun e => hn.1 (e ▸ hv)⟩, c⟩
    · rintro ⟨a, ⟨b, e⟩, c⟩
      exact (h1.2 ⟨a, b, c⟩).resolve_left e
  · rw [List.nodup_append]
    refine ⟨h.onod, (by simp), fun a ha b hb e => ?_⟩
    rw [List.mem_singleton] at hb
    subst hb; subst e
    exact hu.2.1 ha
  · rcases List.mem_append.1 hv with h1 | h1
    · exact h.outz v h1
    · rw [List.mem_singleton.1 h1]; exact ⟨hu.1, hu.2.2⟩
  · have h1 := h.wdef v hv
    rw [List.count_nil, Nat.add_zero] at h1
    rw [h1]
    exact pend_snoc v hu.2.1 hu.1
def low (W : Nat → Nat) (x : Nat) : Nat → Nat := fun v => if v = x then W x - 1 else W v
theorem low_at (W : Nat → Nat) (x : Nat) : low W x x = W x - 1 := if_pos rfl
theorem low_ne (W : Nat → Nat) {x v : Nat} (h : v ≠ x) : low W x v = W v := if_neg h
theorem Od.pos {x : Nat} (h : Od n L out C W (x :: R)) (hx : x < n) : 1 ≤ W x ∧ x ∉ out ∧ x ∉ C := by
  have h1 := h.wdef x hx
  rw [List.count_cons_self] at h1
  refine ⟨by omega, fun h2 => ?_, fun h2 => ?_⟩
  · have := (h.outz x h2).2; omega
  · have := ((h.mem x).1 h2).2.2; omega
theorem Od.wlow {x : Nat} (h : Od n L out C W (x :: R)) (hx : x < n) (v : Nat) (hv : v < n) : low W x v = pend n L out v + R.count v := by
  have h1 := h.wdef v hv
  by_cases e : v = x
  · subst e
    rw [low_at]
    rw [List.count_cons_self] at h1
    omega
  · rw [low_ne W e, h1, List.count_cons_of_ne (fun e2 => e e2.symm)]
theorem Od.outlow {x : Nat} (h : Od n L out C W (x :: R)) (hx : x < n) (v : Nat) (hv : v ∈ out) : v < n ∧ low W x v = 0 := by
  have h1 := h.outz v hv
  have h2 := h.pos hx
  have hne : v ≠ x := fun e => h2.2.1 (by rw [← e]; exact hv)
  rw [low_ne W hne]
  exact h1
theorem Od.keep {x : Nat} (h : Od n L out C W (x :: R)) (hx : x < n) (hz : W x - 1 ≠ 0) : Od n L out C (low W x) R := by
  refine ⟨h.cn, fun v => ?_, h.onod, h.outlow hx, h.wlow hx⟩
  rw [h.mem v]
  by_cases e : v = x
  · subst e
    rw [low_at]
    have := (h.pos hx).1
    exact ⟨fun h1 => by omega, fun h1 => absurd h1.2.2 hz⟩
  · rw [low_ne W e]
theorem Od.add {x : Nat} (h : Od n L out C W (x :: R)) (hx : x < n) (hz : W x - 1 = 0) : Od n L out (x :: C) (low W x) R := by
  obtain ⟨h1, h2, h3⟩ := h.pos hx
  refine ⟨List.nodup_cons.2 ⟨h3, h.cn⟩, fun v => ?_, h.onod, h.outlow hx, h.wlow hx⟩
  rw [List.mem_cons, h.mem v]
  by_cases e : v = x
  · subst e
    rw [low_at]
    exact ⟨fun _ => ⟨hx, h2, hz⟩, fun _ => .inl rfl⟩
  · rw [low_ne W e]
    exact ⟨fun h4 => h4.resolve_left e, .inr⟩
end
end Go.Proofs.YtlmlhjepolefaaaGreatDoor.Rc
namespace Go.Proofs.YtlmlhjepolefaaaGreatDoor
open Go.RowKit

namespace Pr
theorem sub_len : ∀ (l G : List Nat), l.Nodup → (∀ x ∈ l, x ∈ G) → l.length ≤ G.length
  | [], _, _, _ => Nat.zero_le _
  | a :: l, G, h, hs => by
    obtain ⟨h1, h2⟩ := List.nodup_cons.1 h
    have ha : a ∈ G := hs a (by simp)
    have := sub_len l (G.erase a) h2 fun x hx => (List.mem_erase_of_ne (by rintro rfl; exact h1 hx)).2 (hs x (by simp [hx]))
    rw [List.length_erase_of_mem ha] at this
    have : 0 < G.length := List.length_pos_of_mem ha
    simp only [List.length_cons]
    omega
theorem set_range {α : Type} (n : Nat) (f : Nat → α) {i : Nat} (v : α) : ((List.range n).map f).set i v = (List.range n).map fun j => if j = i then v else f j := by
  apply List.ext_getElem
  · simp
  · intro k h1 h2
    simp only [List.length_set, List.length_map, List.length_range] at h1
    rw [List.getElem_set]
    by_cases e : i = k
    · subst e; simp
    · have e' : ¬ k = i := fun h => e h.symm
      simp [e, e']
/-- Where the first j flows lead from u; how many of them lead to v. -/
def nxN (p : P) (j u : Nat) : List Nat := ((p.flows.take j).filter fun f => f.frm == (u : Int)).map fun f => f.til.toNat
def wyN (p : P) (j v : Nat) : Nat := (p.flows.take j).countP fun f => f.til == (v : Int)
theorem take_succ (p : P) {j : Nat} (hj : j < p.m) : p.flows.take (j + 1) = p.flows.take j ++ [p.flows[j]!] := by
  have hj' : j < p.flows.length := hj
  rw [List.take_add_one, getElem!_pos p.flows j hj']
  simp [hj']
theorem nxN_succ (p : P) {j : Nat} (hj : j < p.m) (u : Nat) : nxN p (j + 1) u = if (p.flows[j]!).frm = u then nxN p j u ++ [(p.flows[j]!).til.toNat] else nxN p j u := by
  unfold nxN
  rw [take_succ p hj, List.filter_append, List.map_append, List.filter_cons]
  by_cases h : (p.flows[j]!).frm = u
  · rw [if_pos h, if_pos (by rw [h]; simp)]; rfl
  · rw [if_neg h, if_neg (by rw [beq_eq_false_iff_ne.2 h]; simp)]; simp
theorem wyN_succ (p : P) {j : Nat} (hj : j < p.m) (v : Nat) : wyN p (j + 1) v = if (p.flows[j]!).til = v then wyN p j v + 1 else wyN p j v := by
  unfold wyN
  rw [take_succ p hj, List.countP_append]
  generalize p.flows[j]! = f
  by_cases h : f.til = v
  · simp [h]
  · simp [h]
theorem wyN_le (p : P) : ∀ j v, wyN p j v ≤ j := fun j v => by
  unfold wyN
  exact Nat.le_trans List.countP_le_length (by rw [List.length_take]; omega)
/-- Where flows lead from u; how many lead to v. -/
def nx (p : P) (u : Nat) : List Nat := nxN p p.m u
theorem all_flows (p : P) : p.flows.take p.m = p.flows := List.take_of_length_le (Nat.le_refl _)
theorem nx_len (p : P) (u : Nat) : (nx p u).length ≤ p.m := by
  unfold nx nxN
  rw [List.length_map, all_flows]
  exact List.length_filter_le _ _
/-- What leads to v out of those on a list, at least. -/
def outOf (p : P) (G : List Nat) (v : Nat) : Nat := (G.map fun u => (nx p u).count v).sum
theorem nx_count (p : P) (u v : Nat) (h : ∀ f ∈ p.flows, 0 ≤ f.til) : (nx p u).count v = p.flows.countP fun f => f.frm == (u : Int) && f.til == (v : Int) := by
  unfold nx nxN
  rw [all_flows, List.count_eq_countP, List.countP_map, List.countP_filter]
  apply List.countP_congr
  intro f hf
  have := h f hf
  simp only [Function.comp, Bool.and_eq_true, beq_iff_eq]
  constructor
  · rintro ⟨h1, h2⟩; exact ⟨h2, by omega⟩
  · rintro ⟨h1, h2⟩; exact ⟨by omega, h1⟩
theorem outOf_ge (p : P) (v : Nat) (h : ∀ f ∈ p.flows, 0 ≤ f.til) : ∀ G : List Nat, (p.flows.countP fun f => G.any (fun u => f.frm == (u : Int)) && f.til == (v : Int)) ≤ outOf p G v
  | [] => by simp [outOf]
  | u :: G => by
    have ih := outOf_ge p v h G
    have e : outOf p (u :: G) v = (nx p u).count v + outOf p G v := by simp [outOf]
    rw [e, nx_count p u v h]
    refine Nat.le_trans ?_ (Nat.add_le_add_left ih _)
    generalize p.flows = l
    induction l with
    | nil => simp
    | cons f l ih2 =>
      simp only [List.countP_cons, List.any_cons]
      generalize (f.frm == (u : Int)) = x1 at *
      generalize (f.til == (v : Int)) = x2 at *
      generalize (G.any fun u => f.frm == (u : Int)) = x3 at *
      cases x1 <;> cases x2 <;> cases x3 <;> simp at ih2 ⊢ <;> omega
/-- Who is gone, in order; who leads where of those that stay; those dealt with: the first k, and t ways more. -/
structure Kh (p : P) (G : List Nat) (W : Nat → Int) (k t : Nat) : Prop where
  nodup : G.Nodup
  lt : ∀ v ∈ G, v < p.n
  zero : ∀ v, v < p.n → (v ∈ G ↔ W v ≤ 0)
  cnt : ∀ v, v < p.n → W v = (wyN p p.m v : Int) - (outOf p (G.take k) v : Int) - ((if h : k < G.length then ((nx p G[k]).take t).count v else 0 : Nat) : Int)
section
variable {p : P} {G : List Nat} {W : Nat → Int} {k t : Nat}
theorem Kh.len (h : Kh p G W k t) : G.length ≤ p.n := by
  have := sub_len G (List.range p.n) h.nodup fun x hx => List.mem_range.2 (h.lt x hx)
  simpa using this
theorem Kh.start (p : P) : Kh p ((List.range p.n).filter fun v => wyN p p.m v == 0) (fun v => (wyN p p.m v : Int)) 0 0 where
  nodup := List.Pairwise.filter _ List.nodup_range
  lt v hv := List.mem_range.1 (List.mem_filter.1 hv).1
  zero v hv := by
    rw [List.mem_filter, List.mem_range]
    simp only [beq_iff_eq]
    omega
  cnt v _ := by simp [outOf]
/-- One way more. -/
theorem Kh.step (h : Kh p G W k t) (hk : k < G.length) (ht : t < (nx p G[k]).length) (hv : (nx p G[k])[t] < p.n) :
    let v := (nx p G[k])[t]
    Kh p (if W v - 1 = 0 then G ++ [v] else G) (fun x => if x = v then W v - 1 else W x) k (t + 1) := by
  intro v
  have hz := h.zero v hv
  have hin : W v - 1 = 0 → v ∉ G := fun e hm => by have := hz.1 hm; omega
  have key : ∀ G' : List Nat, (∃ L, G' = G ++ L) → ∀ x, x < p.n → (fun x => if x = v then W v - 1 else W x) x = (wyN p p.m x : Int) - (outOf p (G'.take k) x : Int) - ((if h : k < G'.length then ((nx p G'[k]).take (t + 1)).count x else 0 : Nat) : Int) := by
    rintro G' ⟨L, rfl⟩ x hx
    have hk' : k < (G ++ L).length := by simp; omega
    have e1 : (G ++ L)[k] = G[k] := List.getElem_append_left hk
    have e2 : (G ++ L).take k = G.take k := List.take_append_of_le_length (Nat.le_of_lt hk)
    rw [dif_pos hk', e1, e2]
    have hc := h.cnt x hx
    rw [dif_pos hk] at hc
    have e3 : ((nx p G[k]).take (t + 1)).count x = ((nx p G[k]).take t).count x + if x = v then 1 else 0 := by
      rw [List.take_add_one, List.count_append, List.getElem?_eq_getElem ht]
      simp only [Option.toList_some, List.count_singleton]
      have : (v == x) = decide (x = v) := by
        by_cases e : x = v
        · subst e; simp
        · have : ¬ v = x := fun h => e h.symm
          simp [e, this]
      rw [this]
      by_cases e : x = v <;> simp [e]
    rw [e3]
    simp only []
    by_cases e : x = v
    · subst e
      simp only [if_true]
      omega
    · simp only [e, if_false]
      omega
  by_cases hw : W v - 1 = 0
  · rw [if_pos hw]
    refine ⟨?_, ?_, ?_, key _ ⟨[v], rfl⟩⟩
    · rw [List.nodup_append]
      refine ⟨h.nodup, by simp, ?_⟩
      intro a ha b hb
      rw [List.mem_singleton] at hb
      rintro rfl
      exact hin hw (hb ▸ ha)
    · intro x hx
      rw [List.mem_append, List.mem_singleton] at hx
      rcases hx with hx | rfl
      · exact h.lt x hx
      · exact hv
    · intro x hx
      rw [List.mem_append, List.mem_singleton]
      by_cases e : x = v
      · simp [e, hw]
      · simp [e, h.zero x hx]
  · rw [if_neg hw]
    refine ⟨h.nodup, h.lt, ?_, key _ ⟨[], by simp⟩⟩
    intro x hx
    by_cases e : x = v
    · simp only [e, if_true]
      constructor
      · intro hm; have := hz.1 hm; omega
      · intro hl; exact hz.2 (by omega)
    · simp [e, h.zero x hx]
theorem Kh.step2 (h : Kh p G W k t) {u v : Nat} (hu : G[k]? = some u) (ht : (nx p u)[t]? = some v) (hv : v < p.n) :
    Kh p (if W v - 1 = 0 then G ++ [v] else G) (fun x => if x = v then W v - 1 else W x) k (t + 1) := by
  obtain ⟨hk, rfl⟩ := List.getElem?_eq_some_iff.1 hu
  obtain ⟨ht', rfl⟩ := List.getElem?_eq_some_iff.1 ht
  exact h.step hk ht' hv
theorem outOf_le (p : P) (v : Nat) : ∀ G : List Nat, outOf p G v ≤ G.length * p.m
  | [] => by simp [outOf]
  | u :: G => by
    have ih := outOf_le p v G
    have e : outOf p (u :: G) v = (nx p u).count v + outOf p G v := by simp [outOf]
    have := nx_len p u
    have := List.count_le_length (a := v) (l := nx p u)
    rw [e, List.length_cons, Nat.succ_mul]
    omega
theorem Kh.bounds (h : Kh p G W k t) {v : Nat} (hv : v < p.n) (hn : p.n ≤ 100000) (hm : p.m ≤ 100000) : -10000100000 ≤ W v ∧ W v ≤ 100000 := by
  have hc := h.cnt v hv
  have h1 := outOf_le p v (G.take k)
  have h2 : (G.take k).length ≤ 100000 := by
    have := h.len
    rw [List.length_take]
    omega
  have h3 : (G.take k).length * p.m ≤ 100000 * 100000 := Nat.mul_le_mul h2 hm
  have h4 := wyN_le p p.m v
  have h5 : (if h : k < G.length then ((nx p G[k]).take t).count v else 0) ≤ 100000 := by
    split
    · rename_i hk
      have := List.count_le_length (a := v) (l := (nx p G[k]).take t)
      have := nx_len p G[k]
      rw [List.length_take] at *
      omega
    · omega
  omega
theorem nx_lt {r : Nat → Nat} (hr : Rk p r) (u : Nat) : ∀ v ∈ nx p u, v < p.n := by
  intro v hv
  unfold nx nxN at hv
  rw [all_flows] at hv
  obtain ⟨f, hf, rfl⟩ := List.mem_map.1 hv
  obtain ⟨a, b, _, h2, _, h4, _⟩ := hr f (List.mem_filter.1 hf).1
  rw [h2]
  simpa using h4
/-- One node is dealt with. -/
theorem Kh.next (h : Kh p G W k t) (hk : k < G.length) (ht : (nx p G[k]).length ≤ t) : Kh p G W (k + 1) 0 where
  nodup := h.nodup
  lt := h.lt
  zero := h.zero
  cnt v hv := by
    have := h.cnt v hv
    rw [dif_pos hk, List.take_of_length_le ht] at this
    have e : outOf p (G.take (k + 1)) v = outOf p (G.take k) v + (nx p G[k]).count v := by
      unfold outOf
      rw [List.take_add_one, List.map_append, List.sum_append, List.getElem?_eq_getElem hk]
      simp
    have e2 : ((if h : k + 1 < G.length then ((nx p G[k + 1]).take 0).count v else 0 : Nat) : Int) = 0 := by split <;> simp
    rw [e2, e, this]
    omega
/-- All are gone in the end. -/
theorem Kh.all (h : Kh p G W k 0) (hk : k = G.length) {r : Nat → Nat} (hr : Rk p r) : p.n ≤ G.length := by
  subst hk
  have hpos : ∀ f ∈ p.flows, 0 ≤ f.til := fun f hf => by
    obtain ⟨a, b, _, h2, _⟩ := hr f hf
    omega
  have key : ∀ d v, r v = d → v < p.n → v ∈ G := by
    intro d
    induction d using Nat.strongRecOn with
    | ind d ih =>
      rintro v rfl hv
      rw [h.zero v hv]
      have hc := h.cnt v hv
      rw [dif_neg (Nat.lt_irrefl _), List.take_length] at hc
      have hge := outOf_ge p v hpos G
      have e : wyN p p.m v = p.flows.countP fun f => G.any (fun u => f.frm == (u : Int)) && f.til == (v : Int) := by
        unfold wyN
        rw [all_flows]
        apply List.countP_congr
        intro f hf
        constructor
        · intro h1
          obtain ⟨a, b, ha, hb, han, hbn, hrk⟩ := hr f hf
          have hbv : b = v := by rw [beq_iff_eq, hb] at h1; omega
          subst hbv
          have := ih (r a) hrk a rfl han
          rw [Bool.and_eq_true, List.any_eq_true]
          exact ⟨⟨a, this, by rw [ha]; simp⟩, h1⟩
        · intro h1
          rw [Bool.and_eq_true] at h1
          exact h1.2
      rw [← e] at hge
      simp only [Int.natCast_zero] at hc
      omega
  have := sub_len (List.range p.n) G List.nodup_range fun x hx => key _ x rfl (List.mem_range.1 hx)
  simpa using this
end
end Pr
end Go.Proofs.YtlmlhjepolefaaaGreatDoor
