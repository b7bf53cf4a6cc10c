/- Package reach: From, To. Boards in memory. -/
import Derived.Test.YtlmlhjepolefaaaGreatDoorQfY
import Derived.Test.YtlmlhjepolefaaaGreatDoorYTokenWaits5
import Derived.Test.YtlmlhjepolefaaaGreatDoorYTokenWaits10
import Derived.Test.YtlmlhjepolefaaaGreatDoorYTokenWaits6
import Derived.Test.YtlmlhjepolefaaaGreatDoorYTokenWaits13
namespace Go.Proofs.YtlmlhjepolefaaaGreatDoor
open Go.RowKit

namespace Pr
section
variable (s : ByteArray) (A : Option Addr) (n c : Nat) (F : Option Addr) (m d : Nat) (fl : List Fl)
theorem nxt_len' (n : Nat) (fl : List Fl) {m : Nat} (hm : m ≤ 100000) (u : Nat) : (nxt n fl m u).length ≤ 100000 := Nat.le_trans (nxt_len n fl m u) hm
theorem bck_len' (n : Nat) (fl : List Fl) {m : Nat} (hm : m ≤ 100000) (u : Nat) : (bck n fl m u).length ≤ 100000 := Nat.le_trans (bck_len n fl m u) hm
theorem MarksOut.after {n : Nat} {Q : Nat → Prop} {w w1 w' : World} {e : Ending} (hb : Below w.heap.size w w1) (h : MarksOut n Q w1 e w') : MarksOut n Q w e w' := by
  obtain ⟨⟨g, f, h1, h2, h3, h4⟩, h5⟩ := h
  exact ⟨⟨g, f, h1, h2, Nat.le_trans hb.size h3, h4⟩, hb.trans (h5.mono hb.size)⟩
set_option maxHeartbeats 800000 in
theorem rto_any (node : Int) (w : World) (hF : KRow Fl.κ w w.heap.size F m fl) (hn : n ≤ 100000) (hm : m ≤ 100000) :
    Calls Tryz.prog 34 #[.agg #[.string s, .slice A n c, .slice F m d], .int .i64 node] w (MarksOut n (Comes n (bck n fl m) node) w) := by
  have hba : Below w.heap.size w (w.alloc (.cells #[.string s, .slice A n c, .slice F m d] 32)) := (Below.refl _ _).alloc (Nat.le_refl _) _
  have HC := Lib.hid (Cel.lit w #[.string s, .slice A n c, .slice F m d] 32)
  have HFa := Lib.hid ((hF.below hba (Nat.le_refl _)).mono hba.size)
  have HB := Lib.hid hba
  clear hF hba
  go_enter Tryz.func34, Tryz.ntmps34
  go_upto_region 1 with (fail)
  generalize w.alloc _ = wa at *
  obtain ⟨⟨z0, z1, z2⟩, _⟩ := tri_facts HC.out
  go_wp2_with fail
  refine (backward_any s A n c F m d fl wa HFa.out hn hm).mono ?_
  rintro e w1 ⟨⟨nb, B, rfl, hnx, _⟩, hb1⟩
  have HR := Lib.hid (reached_any nb B w1.heap.size n (bck n fl m) node w1 hnx (Nat.le_refl _) hn (bck_len' n fl hm) (fun u v h => (bck_lt h).2))
  have HB1 := Lib.hid (HB.out.trans (hb1.mono HB.out.size))
  clear hnx hb1 z0 z1 z2
  go_wp2_with fail
  refine HR.out.mono ?_
  rintro e w2 ⟨⟨g, f, rfl, h2, h3, h4⟩, h5⟩
  have HF : Hid (MarksOut n (Comes n (bck n fl m) node) w (.returned (.slice (some ⟨g, 0, none⟩) n n)) w2) := MarksOut.after HB1.out ⟨⟨g, f, rfl, h2, h3, h4⟩, h5⟩
  clear h2 h3 h4 h5
  go_wp2
  go_ret
  exact HF.out
end
end Pr
end Go.Proofs.YtlmlhjepolefaaaGreatDoor
namespace Go.Proofs.YtlmlhjepolefaaaGreatDoor
open Go.RowKit

namespace Pr
/-- A board's cells. -/
structure BdV where
  s : ByteArray
  A : Option Addr
  n : Nat
  c : Nat
  F : Option Addr
  m : Nat
  d : Nat
  V : Option Addr
  nv : Nat
  cv : Nat
  T : Option Addr
  nt : Nat
  ct : Nat
  k : Int
def BdV.list (x : BdV) : List Value := [.string x.s, .slice x.A x.n x.c, .slice x.F x.m x.d, .slice x.V x.nv x.cv, .slice x.T x.nt x.ct, .int .i64 x.k]
def BdV.val (x : BdV) : Value := .agg #[.string x.s, .slice x.A x.n x.c, .slice x.F x.m x.d, .slice x.V x.nv x.cv, .slice x.T x.nt x.ct, .int .i64 x.k]
/-- A row of variables. -/
def Vκ : Cs Vr.V := ⟨4, Vr.V.cells, fun _ => rfl, by
  intro x u hu
  simp only [Vr.V.cells, List.mem_cons, List.not_mem_nil, or_false] at hu
  rcases hu with rfl | rfl | rfl | rfl <;> rfl⟩
def nilOk (A : Option Addr) (n c : Nat) : Prop := A = none → n = 0 ∧ c = 0
/-- What they read as. -/
structure BdIn (w : World) (B : Nat) (x : BdV) (b : Bd) : Prop where
  s : x.s = b.p.name
  k : x.k = b.next
  nodes : KRow Nd.κ w B x.A x.n b.p.nodes
  flows : KRow Fl.κ w B x.F x.m b.p.flows
  vars : KRow Vκ w B x.V x.nv b.vars
  toks : KRow Tk.κ w B x.T x.nt b.toks
  nA : nilOk x.A x.n x.c
  nF : nilOk x.F x.m x.d
  nV : nilOk x.V x.nv x.cv
  nT : nilOk x.T x.nt x.ct
/-- The same of one's own. -/
structure BdOwn (w : World) (B : Nat) (x : BdV) (b : Bd) : Prop where
  s : x.s = b.p.name
  k : x.k = b.next
  nodes : OwnK Nd.κ w B 26 x.A x.n x.c b.p.nodes
  flows : OwnK Fl.κ w B 29 x.F x.m x.d b.p.flows
  vars : OwnK Vκ w B 52 x.V x.nv x.cv b.vars
  toks : OwnK Tk.κ w B 34 x.T x.nt x.ct b.toks
/-- Numbers that it may have. -/
structure Bd.Few (b : Bd) : Prop where
  n : b.p.n ≤ 100000
  m : b.p.m ≤ 100000
  v : b.vars.length ≤ 100000
  t : b.toks.length ≤ 100000
  k0 : -1000000000 ≤ b.next
  k1 : b.next ≤ 1000000000
section
variable {w w' : World} {B B' : Nat} {x : BdV} {b : Bd}
theorem BdIn.below (h : BdIn w B x b) {b0 : Nat} (hb : Below b0 w w') (hB : B ≤ b0) : BdIn w' B x b :=
  ⟨h.s, h.k, h.nodes.below hb hB, h.flows.below hb hB, h.vars.below hb hB, h.toks.below hb hB, h.nA, h.nF, h.nV, h.nT⟩
theorem BdIn.mono (h : BdIn w B x b) (hB : B ≤ B') : BdIn w B' x b :=
  ⟨h.s, h.k, h.nodes.mono hB, h.flows.mono hB, h.vars.mono hB, h.toks.mono hB, h.nA, h.nF, h.nV, h.nT⟩
theorem BdIn.on (h : BdIn w w.heap.size x b) (hb : Below w.heap.size w w') : BdIn w' w'.heap.size x b := (h.below hb (Nat.le_refl _)).mono hb.size
theorem BdIn.hn (h : BdIn w B x b) : x.n = b.p.n := (h.nodes.len (by decide)).symm
theorem BdIn.hm (h : BdIn w B x b) : x.m = b.p.m := (h.flows.len (by decide)).symm
theorem BdIn.ht (h : BdIn w B x b) : x.nt = b.toks.length := (h.toks.len (by decide)).symm
theorem BdIn.hv (h : BdIn w B x b) : x.nv = b.vars.length := (h.vars.len (by decide)).symm
theorem BdOwn.inn (h : BdOwn w B x b) : BdIn w w.heap.size x b :=
  ⟨h.s, h.k, h.nodes.row, h.flows.row, h.vars.row, h.toks.row, h.nodes.nn, h.flows.nn, h.vars.nn, h.toks.nn⟩
theorem BdOwn.below (h : BdOwn w B x b) (hb : Below w.heap.size w w') : BdOwn w' B x b :=
  ⟨h.s, h.k, h.nodes.below hb (Nat.le_refl _), h.flows.below hb (Nat.le_refl _), h.vars.below hb (Nat.le_refl _), h.toks.below hb (Nat.le_refl _)⟩
theorem BdOwn.lower (h : BdOwn w B x b) (hB : B' ≤ B) : BdOwn w B' x b :=
  ⟨h.s, h.k, h.nodes.lower hB, h.flows.lower hB, h.vars.lower hB, h.toks.lower hB⟩
theorem BdIn.toks_of {T : Option Addr} {nt ct : Nat} {k : Int} {l : List Tk} {nx : Int} (h : BdIn w B x b) (ht : KRow Tk.κ w B T nt l) (hn : nilOk T nt ct) (hk : k = nx) : BdIn w B { x with T := T, nt := nt, ct := ct, k := k } { b with toks := l, next := nx } :=
  ⟨h.s, hk, h.nodes, h.flows, h.vars, ht, h.nA, h.nF, h.nV, hn⟩
end
/-- A board in block q, its rows one's own. -/
structure BdC (w : World) (B q : Nat) (x : BdV) (b : Bd) : Prop where
  cel : Cel w q x.list
  own : BdOwn w B x b
  ne : ∀ a, (x.A = some a ∨ x.F = some a ∨ x.V = some a ∨ x.T = some a) → a.block ≠ q
section
variable {w w' : World} {B B' q : Nat} {x : BdV} {b : Bd}
theorem BdC.below (h : BdC w B q x b) (hb : Below w.heap.size w w') : BdC w' B q x b := ⟨h.cel.below hb (Nat.le_refl _), h.own.below hb, h.ne⟩
theorem BdC.kept (h : BdC w B q x b) {r : Nat} (hg : w.grownBy w' (some r)) (hq : r ≠ q) (hr : ∀ a, (x.A = some a ∨ x.F = some a ∨ x.V = some a ∨ x.T = some a) → a.block ≠ r) : BdC w' B q x b :=
  ⟨h.cel.kept hg (fun e => hq (Option.some.inj e)), ⟨h.own.s, h.own.k, h.own.nodes.kept hg (fun a ha e => hr a (.inl ha) (Option.some.inj e).symm), h.own.flows.kept hg (fun a ha e => hr a (.inr (.inl ha)) (Option.some.inj e).symm),
    h.own.vars.kept hg (fun a ha e => hr a (.inr (.inr (.inl ha))) (Option.some.inj e).symm), h.own.toks.kept hg (fun a ha e => hr a (.inr (.inr (.inr ha))) (Option.some.inj e).symm)⟩, h.ne⟩
theorem BdC.blocks (h : BdC w B q x b) : ∀ a, (x.A = some a ∨ x.F = some a ∨ x.V = some a ∨ x.T = some a) → a.block < w.heap.size := by
  rintro a (ha | ha | ha | ha)
  · exact (h.own.nodes.block ha).2
  · exact (h.own.flows.block ha).2
  · exact (h.own.vars.block ha).2
  · exact (h.own.toks.block ha).2
theorem blk_of {A : Option Addr} {n c : Nat} {r : Nat} (h : (Value.slice A n c).ownBlock = some r) : ∃ a, A = some a ∧ a.block = r := by
  cases A with
  | none => cases h
  | some a => exact ⟨a, rfl, Option.some.inj h⟩
/-- One token more. -/
theorem BdC.app (h : BdC w B q x b) {T' : Option Addr} {c' : Nat} {t : Tk} (hg : Grew w w' (.slice x.T x.nt x.ct) (.slice T' (x.nt + 1) c')) (ho : OwnK Tk.κ w' B 34 T' (x.nt + 1) c' (b.toks ++ [t])) :
    BdC (w'.setCell ⟨q, 4, none⟩ (.slice T' (x.nt + 1) c')) B q { x with T := T', nt := x.nt + 1, ct := c' } { b with toks := b.toks ++ [t] } := by
  have key : ∀ {α : Type} {κ : Cs α} {e : TypeId} {A : Option Addr} {n c : Nat} {l : List α}, OwnK κ w B e A n c l → e ≠ 34 → OwnK κ w' B e A n c l := fun k he => k.kept hg.grown fun a ha e => by
    obtain ⟨a', h1, h2⟩ := blk_of e
    exact k.apart h.own.toks he ha h1 h2.symm
  have hq : ∀ a, T' = some a → a.block ≠ q := fun a ha => by
    rcases grew_block hg ho ha with ⟨a0, h1, h2⟩ | h1
    · rw [← h2]; exact h.ne a0 (.inr (.inr (.inr h1)))
    · have := h.cel.lt; omega
  have hc : Cel w' q x.list := h.cel.kept hg.grown fun e => by
    obtain ⟨a', h1, h2⟩ := blk_of e
    exact h.ne a' (.inr (.inr (.inr h1))) h2
  have hs : w'.grownBy (w'.setCell ⟨q, 4, none⟩ (.slice T' (x.nt + 1) c')) (some q) := grown_setCell w' ⟨q, 4, none⟩ _
  refine ⟨hc.set (i := 4) (by simp [BdV.list]) _, ⟨h.own.s, h.own.k, (key h.own.nodes (by decide)).kept hs fun a ha e => h.ne a (.inl ha) (Option.some.inj e).symm, (key h.own.flows (by decide)).kept hs fun a ha e => h.ne a (.inr (.inl ha)) (Option.some.inj e).symm,
    (key h.own.vars (by decide)).kept hs fun a ha e => h.ne a (.inr (.inr (.inl ha))) (Option.some.inj e).symm, ho.kept hs fun a ha e => hq a ha (Option.some.inj e).symm⟩, ?_⟩
  rintro a (ha | ha | ha | ha)
  · exact h.ne a (.inl ha)
  · exact h.ne a (.inr (.inl ha))
  · exact h.ne a (.inr (.inr (.inl ha)))
  · exact hq a ha
theorem BdC.cel_app (h : BdC w B q x b) {v : Value} (hg : Grew w w' (.slice x.T x.nt x.ct) v) : Cel w' q x.list := h.cel.kept hg.grown fun e => by
  obtain ⟨a', h1, h2⟩ := blk_of e
  exact h.ne a' (.inr (.inr (.inr h1))) h2
theorem BdC.else_app (h : BdC w B q x b) {v : Value} (hg : Grew w w' (.slice x.T x.nt x.ct) v) {z : Nat} {cs : List Value} (hz : Cel w z cs) (hzb : z < B) : Cel w' z cs := hz.kept hg.grown fun e => by
  obtain ⟨a', h1, h2⟩ := blk_of e
  have := (h.own.toks.block h1).1
  omega
theorem BdC.nxt (h : BdC w B q x b) (k : Int) : BdC (w.setCell ⟨q, 5, none⟩ (.int .i64 k)) B q { x with k := k } { b with next := k } := by
  have hs : w.grownBy (w.setCell ⟨q, 5, none⟩ (.int .i64 k)) (some q) := grown_setCell w ⟨q, 5, none⟩ _
  exact ⟨h.cel.set (i := 5) (by simp [BdV.list]) _, ⟨h.own.s, rfl, h.own.nodes.kept hs fun a ha e => h.ne a (.inl ha) (Option.some.inj e).symm, h.own.flows.kept hs fun a ha e => h.ne a (.inr (.inl ha)) (Option.some.inj e).symm,
    h.own.vars.kept hs fun a ha e => h.ne a (.inr (.inr (.inl ha))) (Option.some.inj e).symm, h.own.toks.kept hs fun a ha e => h.ne a (.inr (.inr (.inr ha))) (Option.some.inj e).symm⟩, h.ne⟩
/-- A board of one's own that is laid in a block of its own. -/
theorem BdC.lit (h : BdOwn w B x b) (t : TypeId) : BdC (w.alloc (.cells x.list.toArray t)) B w.heap.size x b := by
  refine ⟨Cel.lit w x.list.toArray t, h.below ((Below.refl _ _).alloc (Nat.le_refl _) _), ?_⟩
  rintro a (ha | ha | ha | ha)
  · have := (h.nodes.block ha).2; omega
  · have := (h.flows.block ha).2; omega
  · have := (h.vars.block ha).2; omega
  · have := (h.toks.block ha).2; omega
end
theorem info_tok : (Tryz.prog.info? 34).map (fun i => (i.zero, i.size, i.bytes)) = some (some (.agg #[.int .i64 0, .int .i64 0, .int .i64 0, .bool false]), 4, 32) := by kernel_rfl
theorem six_facts {w : World} {z : Nat} {a0 a1 a2 a3 a4 a5 : Value} (h : Cel w z [a0, a1, a2, a3, a4, a5]) :
    (w.cell? ⟨z, 0, none⟩ = some a0 ∧ w.cell? ⟨z, 1, none⟩ = some a1 ∧ w.cell? ⟨z, 2, none⟩ = some a2 ∧ w.cell? ⟨z, 3, none⟩ = some a3 ∧ w.cell? ⟨z, 4, none⟩ = some a4 ∧ w.cell? ⟨z, 5, none⟩ = some a5) ∧
    (w.frozen? ⟨z, 0, none⟩ = false ∧ w.frozen? ⟨z, 1, none⟩ = false ∧ w.frozen? ⟨z, 2, none⟩ = false ∧ w.frozen? ⟨z, 3, none⟩ = false ∧ w.frozen? ⟨z, 4, none⟩ = false ∧ w.frozen? ⟨z, 5, none⟩ = false) :=
  ⟨⟨h.cell 0 _ rfl, h.cell 1 _ rfl, h.cell 2 _ rfl, h.cell 3 _ rfl, h.cell 4 _ rfl, h.cell 5 _ rfl⟩, h.froz 0 (by simp), h.froz 1 (by simp), h.froz 2 (by simp), h.froz 3 (by simp), h.froz 4 (by simp), h.froz 5 (by simp)⟩
/-- A board's six cells are written. -/
def six (w : World) (z : Nat) (y : BdV) : World := (((((w.setCell ⟨z, 0, none⟩ (.string y.s)).setCell ⟨z, 1, none⟩ (.slice y.A y.n y.c)).setCell ⟨z, 2, none⟩ (.slice y.F y.m y.d)).setCell ⟨z, 3, none⟩ (.slice y.V y.nv y.cv)).setCell ⟨z, 4, none⟩ (.slice y.T y.nt y.ct)).setCell ⟨z, 5, none⟩ (.int .i64 y.k)
theorem six_grown (w : World) (z : Nat) (y : BdV) : w.grownBy (six w z y) (some z) := set_grown (set_grown (set_grown (set_grown (set_grown (set_grown (World.grownBy.refl _ _) 0 _) 1 _) 2 _) 3 _) 4 _) 5 _
theorem six_cel {w : World} {z : Nat} {a0 a1 a2 a3 a4 a5 : Value} (h : Cel w z [a0, a1, a2, a3, a4, a5]) (y : BdV) : Cel (six w z y) z y.list :=
  (((((h.set (i := 0) (by simp) _).set (i := 1) (by simp) _).set (i := 2) (by simp) _).set (i := 3) (by simp) _).set (i := 4) (by simp) _).set (i := 5) (by simp) _
theorem six_below {B : Nat} {a w : World} (h : Below B a w) {z : Nat} (hz : B ≤ z) (y : BdV) : Below B a (six w z y) := (((((h.setCell hz _).setCell hz _).setCell hz _).setCell hz _).setCell hz _).setCell hz _
theorem BdOwn.grown {w w' : World} {B z : Nat} {x : BdV} {b : Bd} (h : BdOwn w B x b) (hz : z < B) (hg : w.grownBy w' (some z)) : BdOwn w' B x b :=
  ⟨h.s, h.k, h.nodes.kept hg (fun a ha e => by have h1 := (h.nodes.block ha).1; have h2 : z = a.block := Option.some.inj e; omega), h.flows.kept hg (fun a ha e => by have h1 := (h.flows.block ha).1; have h2 : z = a.block := Option.some.inj e; omega),
    h.vars.kept hg (fun a ha e => by have h1 := (h.vars.block ha).1; have h2 : z = a.block := Option.some.inj e; omega), h.toks.kept hg (fun a ha e => by have h1 := (h.toks.block ha).1; have h2 : z = a.block := Option.some.inj e; omega)⟩
theorem qd_facts {w : World} {z : Nat} {a0 a1 a2 a3 : Value} (h : Cel w z [a0, a1, a2, a3]) : w.cell? ⟨z, 0, none⟩ = some a0 ∧ w.cell? ⟨z, 1, none⟩ = some a1 ∧ w.cell? ⟨z, 2, none⟩ = some a2 ∧ w.cell? ⟨z, 3, none⟩ = some a3 :=
  ⟨h.cell 0 _ rfl, h.cell 1 _ rfl, h.cell 2 _ rfl, h.cell 3 _ rfl⟩
theorem tk_at {w : World} {B : Nat} {b off n : Nat} {l : List Tk} (h : KRow Tk.κ w B (some ⟨b, off, none⟩) n l) {j : Nat} (hj : j < n) :
    w.cell? ⟨b, off + j * 4, none⟩ = some (.int .i64 l[j]!.id) ∧ w.cell? ⟨b, off + j * 4 + 1, none⟩ = some (.int .i64 l[j]!.node) ∧ w.cell? ⟨b, off + j * 4 + 2, none⟩ = some (.int .i64 l[j]!.inn) ∧ w.cell? ⟨b, off + j * 4 + 3, none⟩ = some (.bool l[j]!.stuck) :=
  ⟨h.of (by decide) hj 0 _ rfl, h.of (by decide) hj 1 _ rfl, h.of (by decide) hj 2 _ rfl, h.of (by decide) hj 3 _ rfl⟩
end Pr
end Go.Proofs.YtlmlhjepolefaaaGreatDoor
