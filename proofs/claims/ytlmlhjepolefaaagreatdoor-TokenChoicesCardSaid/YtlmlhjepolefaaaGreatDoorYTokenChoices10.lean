/- A process in memory under way: one node more, one flow more. Walks of leaseholdmake: one node more, one flow more. Rows of literals in memory; blocks one behind the other. Walks of leaseholdmake: a number, a topic, a condition out of a number; the one picked. A process in memory: a node's field is set. Walks of leaseholdmake: a Work behind a node. Walks of leaseholdmake: a gateway that leads back by a Work. Rows of numbers in memory; the flows from, to a node as a list of places. Plain mathematics of package reach: who comes where. It names no program. A byte of a row of the call's own is written. The program's isNode. -/
import Derived.Test.YtlmlhjepolefaaaGreatDoorYTokenChoices9
import Derived.Test.YtlmlhjepolefaaaGreatDoorYTokenChoices8
import Derived.Test.YtlmlhjepolefaaaGreatDoorProg
import Derived.Deep.RegionLaw
import Derived.Deep.QuietTactic
import Derived.BigQuiet
import Derived.Deep.CutRange
import Derived.Laws.BitsAllLaws
import Derived.Deep.RegionHeld3
import Derived.Test.YtlmlhjepolefaaaGreatDoorYTokenChoices1
namespace Go.Proofs.YtlmlhjepolefaaaGreatDoor
open Go.RowKit

namespace Pr
def Nd.cells (x : Nd) : List Value := [.int .i64 x.kind, .string x.topic, .int .i64 x.prio, .int .i64 x.retr, .int .i64 x.dflt, .string x.code, .string x.caught, .int .i64 x.tgt]
def Nd.val (x : Nd) : Value := .agg #[.int .i64 x.kind, .string x.topic, .int .i64 x.prio, .int .i64 x.retr, .int .i64 x.dflt, .string x.code, .string x.caught, .int .i64 x.tgt]
def Fl.cells (f : Fl) : List Value := [.int .i64 f.frm, .int .i64 f.til, .string f.cond]
def Fl.val (f : Fl) : Value := .agg #[.int .i64 f.frm, .int .i64 f.til, .string f.cond]
def Nd.κ : Cs Nd := ⟨8, Nd.cells, fun _ => rfl, by
  intro x u hu
  simp only [Nd.cells, List.mem_cons, List.not_mem_nil, or_false] at hu
  rcases hu with rfl | rfl | rfl | rfl | rfl | rfl | rfl | rfl <;> rfl⟩
def Fl.κ : Cs Fl := ⟨3, Fl.cells, fun _ => rfl, by
  intro x u hu
  simp only [Fl.cells, List.mem_cons, List.not_mem_nil, or_false] at hu
  rcases hu with rfl | rfl | rfl <;> rfl⟩
theorem info_node : (Tryz.prog.info? 26).map (fun i => (i.zero, i.size, i.bytes)) = some (some (.agg #[.int .i64 0, .string ⟨#[]⟩, .int .i64 0, .int .i64 0, .int .i64 0, .string ⟨#[]⟩, .string ⟨#[]⟩, .int .i64 0]), 8, 88) := by kernel_rfl
theorem info_flow : (Tryz.prog.info? 29).map (fun i => (i.zero, i.size, i.bytes)) = some (some (.agg #[.int .i64 0, .int .i64 0, .string ⟨#[]⟩]), 3, 32) := by kernel_rfl
/-- A process in block q, its rows one's own. -/
structure C (w : World) (base q : Nat) (p : P) : Prop where
  ex : ∃ (A : Option Addr) (n c : Nat) (F : Option Addr) (m d : Nat), Cel w q [.string p.name, .slice A n c, .slice F m d] ∧ OwnK Nd.κ w base 26 A n c p.nodes ∧ OwnK Fl.κ w base 29 F m d p.flows ∧
    (∀ a, A = some a → a.block ≠ q) ∧ (∀ a, F = some a → a.block ≠ q)
  low : base ≤ q
theorem C.lt {w : World} {base q : Nat} {p : P} (h : C w base q p) : q < w.heap.size := by
  obtain ⟨_, _, _, _, _, _, hc, _⟩ := h.ex
  exact hc.lt
theorem C.below {w w' : World} {base q : Nat} {p : P} (h : C w base q p) {B : Nat} (hb : Below B w w') (hB : w.heap.size ≤ B) : C w' base q p := by
  obtain ⟨A, n, c, F, m, d, hc, hn, hf, h1, h2⟩ := h.ex
  exact ⟨⟨A, n, c, F, m, d, hc.below hb hB, hn.below hb hB, hf.below hb hB, h1, h2⟩, h.low⟩
/-- The row of nodes is another one. -/
theorem C.nodes {w w' : World} {base q : Nat} {p : P} {A : Option Addr} {n c : Nat} {F : Option Addr} {m d : Nat} {A' : Option Addr} {n' c' : Nat} {l' : List Nd} (hc : Cel w q [.string p.name, .slice A n c, .slice F m d]) (hn : OwnK Nd.κ w base 26 A n c p.nodes)
    (hf : OwnK Fl.κ w base 29 F m d p.flows) (h1 : ∀ a, A = some a → a.block ≠ q) (h2 : ∀ a, F = some a → a.block ≠ q) (hlow : base ≤ q) (hg : Grew w w' (.slice A n c) (.slice A' n' c')) (hn' : OwnK Nd.κ w' base 26 A' n' c' l') :
    C (w'.setCell ⟨q, 1, none⟩ (.slice A' n' c')) base q ⟨p.name, l', p.flows⟩ := by
  have hgn : ∀ b : Nat, (∀ a, A = some a → a.block ≠ b) → (Value.slice A n c).ownBlock ≠ some b := by
    intro b hb he
    cases A with
    | none => cases he
    | some a => exact hb a rfl (Option.some.inj he)
  have hc' : Cel w' q [.string p.name, .slice A n c, .slice F m d] := hc.kept hg.grown (hgn q h1)
  have hf' : OwnK Fl.κ w' base 29 F m d p.flows := hf.kept hg.grown fun a ha => hgn a.block fun a' ha' => hn.apart hf (by decide) ha' ha
  have h1' : ∀ a, A' = some a → a.block ≠ q := by
    intro a ha
    rcases grew_block hg hn' ha with ⟨a0, h3, h4⟩ | h3
    · rw [← h4]; exact h1 a0 h3
    · have := hc.lt; omega
  refine ⟨⟨A', n', c', F, m, d, ?_, ?_, ?_, h1', h2⟩, hlow⟩
  · exact hc'.set (i := 1) (by simp) _
  · exact hn'.kept (grown_setCell w' ⟨q, 1, none⟩ _) fun a ha e => h1' a ha (Option.some.inj e).symm
  · exact hf'.kept (grown_setCell w' ⟨q, 1, none⟩ _) fun a ha e => h2 a ha (Option.some.inj e).symm
/-- The row of flows is another one. -/
theorem C.flows {w w' : World} {base q : Nat} {p : P} {A : Option Addr} {n c : Nat} {F : Option Addr} {m d : Nat} {F' : Option Addr} {m' d' : Nat} {l' : List Fl} (hc : Cel w q [.string p.name, .slice A n c, .slice F m d]) (hn : OwnK Nd.κ w base 26 A n c p.nodes)
    (hf : OwnK Fl.κ w base 29 F m d p.flows) (h1 : ∀ a, A = some a → a.block ≠ q) (h2 : ∀ a, F = some a → a.block ≠ q) (hlow : base ≤ q) (hg : Grew w w' (.slice F m d) (.slice F' m' d')) (hf' : OwnK Fl.κ w' base 29 F' m' d' l') :
    C (w'.setCell ⟨q, 2, none⟩ (.slice F' m' d')) base q ⟨p.name, p.nodes, l'⟩ := by
  have hgn : ∀ b : Nat, (∀ a, F = some a → a.block ≠ b) → (Value.slice F m d).ownBlock ≠ some b := by
    intro b hb he
    cases F with
    | none => cases he
    | some a => exact hb a rfl (Option.some.inj he)
  have hc' : Cel w' q [.string p.name, .slice A n c, .slice F m d] := hc.kept hg.grown (hgn q h2)
  have hn' : OwnK Nd.κ w' base 26 A n c p.nodes := hn.kept hg.grown fun a ha => hgn a.block fun a' ha' => hf.apart hn (by decide) ha' ha
  have h2' : ∀ a, F' = some a → a.block ≠ q := by
    intro a ha
    rcases grew_block hg hf' ha with ⟨a0, h3, h4⟩ | h3
    · rw [← h4]; exact h2 a0 h3
    · have := hc.lt; omega
  refine ⟨⟨A, n, c, F', m', d', ?_, ?_, ?_, h1, h2'⟩, hlow⟩
  · exact hc'.set (i := 2) (by simp) _
  · exact hn'.kept (grown_setCell w' ⟨q, 2, none⟩ _) fun a ha e => h1 a ha (Option.some.inj e).symm
  · exact hf'.kept (grown_setCell w' ⟨q, 2, none⟩ _) fun a ha e => h2' a ha (Option.some.inj e).symm
end Pr
end Go.Proofs.YtlmlhjepolefaaaGreatDoor
namespace Go.Proofs.YtlmlhjepolefaaaGreatDoor
open Go.RowKit

namespace Pr
section
variable {w : World} {base q : Nat} {p : P}
theorem nd_facts {w : World} {z : Nat} {a0 a1 a2 a3 a4 a5 a6 a7 : Value} (h : Cel w z [a0, a1, a2, a3, a4, a5, a6, a7]) : w.cell? ⟨z, 0, none⟩ = some a0 ∧ w.cell? ⟨z, 1, none⟩ = some a1 ∧ w.cell? ⟨z, 2, none⟩ = some a2 ∧ w.cell? ⟨z, 3, none⟩ = some a3 ∧ w.cell? ⟨z, 4, none⟩ = some a4 ∧ w.cell? ⟨z, 5, none⟩ = some a5 ∧ w.cell? ⟨z, 6, none⟩ = some a6 ∧ w.cell? ⟨z, 7, none⟩ = some a7 :=
  ⟨h.cell 0 _ rfl, h.cell 1 _ rfl, h.cell 2 _ rfl, h.cell 3 _ rfl, h.cell 4 _ rfl, h.cell 5 _ rfl, h.cell 6 _ rfl, h.cell 7 _ rfl⟩
theorem tri_facts {w : World} {z : Nat} {a0 a1 a2 : Value} (h : Cel w z [a0, a1, a2]) : (w.cell? ⟨z, 0, none⟩ = some a0 ∧ w.cell? ⟨z, 1, none⟩ = some a1 ∧ w.cell? ⟨z, 2, none⟩ = some a2) ∧ (w.frozen? ⟨z, 0, none⟩ = false ∧ w.frozen? ⟨z, 1, none⟩ = false ∧ w.frozen? ⟨z, 2, none⟩ = false) :=
  ⟨⟨h.cell 0 _ rfl, h.cell 1 _ rfl, h.cell 2 _ rfl⟩, h.froz 0 (by simp), h.froz 1 (by simp), h.froz 2 (by simp)⟩
theorem cel_grew {w w' : World} {q : Nat} {cs : List Value} {A : Option Addr} {n c : Nat} {v' : Value} (hc : Cel w q cs) (hg : Grew w w' (.slice A n c) v') (h1 : ∀ a, A = some a → a.block ≠ q) : Cel w' q cs :=
  hc.kept hg.grown (by
    intro he
    cases A with
    | none => cases he
    | some a => exact h1 a rfl (Option.some.inj he))
end
end Pr
end Go.Proofs.YtlmlhjepolefaaaGreatDoor
namespace Go.Proofs.YtlmlhjepolefaaaGreatDoor
open Go.RowKit

section
variable {w : World} {b : Nat} {T : TypeId}
theorem lit_at {cs : List Value} (h : w.heap[b]? = some (.cells cs.toArray T (0, 0))) {i : Nat} {v : Value} (hi : cs[i]? = some v) : w.cell? ⟨b, i, none⟩ = some v := by
  have := cell_of_row w b i cs.toArray T (0, 0) h
  rw [this]
  simpa using hi
theorem lit_bools {l : List Bool} (h : w.heap[b]? = some (.cells (l.map Value.bool).toArray T (0, 0))) {i : Nat} (hi : i < l.length) : w.cell? ⟨b, i, none⟩ = some (.bool l[i]!) :=
  lit_at h (by simp [hi])
theorem lit_texts {l : List (List UInt8)} (h : w.heap[b]? = some (.cells (l.map fun s => Value.string ⟨s.toArray⟩).toArray T (0, 0))) {i : Nat} (hi : i < l.length) : w.cell? ⟨b, i, none⟩ = some (.string ⟨(l[i]!).toArray⟩) :=
  lit_at h (by simp [hi])
theorem lit_ints {k : IntKind} {l : List Int} (h : w.heap[b]? = some (.cells (l.map (Value.int k)).toArray T (0, 0))) {i : Nat} (hi : i < l.length) : w.cell? ⟨b, i, none⟩ = some (.int k l[i]!) :=
  lit_at h (by simp [hi])
theorem cell_below {w w' : World} (hb : Below w.heap.size w w') {a : Addr} {v : Value} (h : w.cell? a = some v) : w'.cell? a = some v := (hb.cell (cell_lt h)).trans h
/-- Three new blocks, one behind the other. -/
theorem three_new (w : World) (o1 o2 o3 : Obj) : (((w.alloc o1).alloc o2).alloc o3).heap[w.heap.size]? = some o1 ∧ (((w.alloc o1).alloc o2).alloc o3).heap[w.heap.size + 1]? = some o2 ∧ (((w.alloc o1).alloc o2).alloc o3).heap[w.heap.size + 1 + 1]? = some o3 := by
  have h1 := heap_alloc_new w o1
  have h2 := heap_alloc_new (w.alloc o1) o2
  have h3 := heap_alloc_new ((w.alloc o1).alloc o2) o3
  have s1 : (w.alloc o1).heap.size = w.heap.size + 1 := by simp
  have s2 : ((w.alloc o1).alloc o2).heap.size = w.heap.size + 1 + 1 := by simp
  rw [s1] at h2
  rw [s2] at h3
  have b2 : Below (w.alloc o1).heap.size (w.alloc o1) ((w.alloc o1).alloc o2) := (Below.refl _ _).alloc (Nat.le_refl _) o2
  have b3 : Below ((w.alloc o1).alloc o2).heap.size ((w.alloc o1).alloc o2) (((w.alloc o1).alloc o2).alloc o3) := (Below.refl _ _).alloc (Nat.le_refl _) o3
  exact ⟨(b3.block _ (by omega)).trans ((b2.block _ (by omega)).trans h1), (b3.block _ (by omega)).trans h2, h3⟩
theorem two_new (w : World) (o1 o2 : Obj) : ((w.alloc o1).alloc o2).heap[w.heap.size]? = some o1 ∧ ((w.alloc o1).alloc o2).heap[w.heap.size + 1]? = some o2 := by
  have h1 := heap_alloc_new w o1
  have h2 := heap_alloc_new (w.alloc o1) o2
  have s1 : (w.alloc o1).heap.size = w.heap.size + 1 := by simp
  rw [s1] at h2
  have b2 : Below (w.alloc o1).heap.size (w.alloc o1) ((w.alloc o1).alloc o2) := (Below.refl _ _).alloc (Nat.le_refl _) o2
  exact ⟨(b2.block _ (by omega)).trans h1, h2⟩
theorem below3 (w : World) (o1 o2 o3 : Obj) : Below w.heap.size w (((w.alloc o1).alloc o2).alloc o3) := (((Below.refl _ _).alloc (Nat.le_refl _) _).alloc (by simp) _).alloc (by simp; omega) _
end
end Go.Proofs.YtlmlhjepolefaaaGreatDoor
namespace Go.Proofs.YtlmlhjepolefaaaGreatDoor
open Go.RowKit

namespace Pr
theorem nmb_tmod (n b : Int) (hb : 0 < b) : nmb n b = if n.tmod b < 0 then n.tmod b + b else n.tmod b := by
  have e1 : n.tmod b < b := Int.tmod_lt_of_pos _ hb
  have e2 : -b < n.tmod b := by
    have := Int.lt_tmod_of_pos n hb
    omega
  have e3 : n = n.tmod b + b * n.tdiv b := by have := Int.tmod_add_mul_tdiv n b; omega
  have e4 : n % b = (n.tmod b) % b := by
    conv => lhs; rw [e3]
    exact Int.add_mul_emod_self_left _ _ _
  unfold nmb
  rw [e4]
  split
  · rw [← Int.add_emod_right]
    exact Int.emod_eq_of_lt (by omega) (by omega)
  · exact Int.emod_eq_of_lt (by omega) (by omega)
theorem nmb_nat (n b : Int) (hb : 0 < b) : ∃ k : Nat, nmb n b = k ∧ (k : Int) < b := by
  have h1 := Int.emod_nonneg n (show b ≠ 0 by omega)
  have h2 := Int.emod_lt_of_pos n hb
  exact ⟨(nmb n b).toNat, by unfold nmb; omega, by unfold nmb; omega⟩
set_option maxHeartbeats 400000 in
theorem mnumber_any (n b : Int) (w : World) (hb : 0 < b) (_h1 : -9223372036854775808 ≤ n) (_h2 : n ≤ 9223372036854775807) (h3 : b ≤ 4611686018427387904) :
    Calls Tryz.prog 8 #[.int .i64 n, .int .i64 b] w fun e w' => e = .returned (.int .i64 (nmb n b)) ∧ w = w' := by
  have hb0 : (b == 0) = false := by simp; omega
  have hv := nmb_tmod n b hb
  have e1 : n.tmod b < b := Int.tmod_lt_of_pos _ hb
  have e2 : -b < n.tmod b := by
    have := Int.lt_tmod_of_pos n hb
    omega
  by_cases hr : n.tmod b < 0
  · rw [if_pos hr] at hv
    rw [hv]
    clear hv
    go_enter Tryz.func8, Tryz.ntmps8
    go_wp2
    go_ret
    exact ⟨ret_int (by omega), rfl⟩
  · rw [if_neg hr] at hv
    rw [hv]
    clear hv
    go_enter Tryz.func8, Tryz.ntmps8
    go_wp2
    go_ret
    exact ⟨ret_int (by omega), rfl⟩
end Pr
end Go.Proofs.YtlmlhjepolefaaaGreatDoor
namespace Go.Proofs.YtlmlhjepolefaaaGreatDoor
open Go.RowKit

theorem Cs.flat_set {α : Type} (κ : Cs α) (f : α → α) (i : Nat) (u : Value) (hi : i < κ.k) (hf : ∀ x, κ.cs (f x) = (κ.cs x).set i u) : ∀ (l : List α) (j : Nat), j < l.length → (l.flatMap κ.cs).set (j * κ.k + i) u = (l.modify j f).flatMap κ.cs
  | [], _, h => by cases h
  | y :: l, 0, _ => by
    rw [List.modify_zero_cons, List.flatMap_cons, List.flatMap_cons, List.set_append, if_pos (by rw [κ.len]; omega), hf]
    simp
  | y :: l, j + 1, h => by
    rw [List.modify_succ_cons, List.flatMap_cons, List.flatMap_cons, List.set_append, if_neg (by rw [κ.len, Nat.succ_mul]; omega)]
    rw [show (j + 1) * κ.k + i - (κ.cs y).length = j * κ.k + i from by rw [κ.len, Nat.succ_mul]; omega, Cs.flat_set κ f i u hi hf l j (by simpa using h)]
theorem OwnK.set {α : Type} {κ : Cs α} {w : World} {base n c g : Nat} {e : TypeId} {l : List α} (h : OwnK κ w base e (some ⟨g, 0, none⟩) n c l) (f : α → α) (i : Nat) (u : Value) (hi : i < κ.k) (hf : ∀ x, κ.cs (f x) = (κ.cs x).set i u) {j : Nat} (hj : j < l.length) :
    OwnK κ (w.setCell ⟨g, j * κ.k + i, none⟩ u) base e (some ⟨g, 0, none⟩) n c (l.modify j f) :=
  ⟨h.1, by rw [← Cs.flat_set κ f i u hi hf l j hj]; exact (World.ownsRow.stored h.2 (j * κ.k + i) u).1⟩
theorem OwnK.frozen {α : Type} {κ : Cs α} {w : World} {base n c g : Nat} {e : TypeId} {l : List α} (h : OwnK κ w base e (some ⟨g, 0, none⟩) n c l) (o : Nat) : w.frozen? ⟨g, o, none⟩ = false := by
  rcases h.2.2 with ⟨hv, _⟩ | ⟨g', cap, cur, hv, hg, hh, _⟩
  · cases hv
  · obtain rfl : g = g' := by injection hv with hA; injection hA with hA; injection hA
    unfold World.frozen?
    rw [hh]; rfl
theorem OwnK.some_of {α : Type} {κ : Cs α} {w : World} {base n c : Nat} {e : TypeId} {A : Option Addr} {l : List α} (h : OwnK κ w base e A n c l) (hn : 0 < n) : ∃ g, A = some ⟨g, 0, none⟩ ∧ base ≤ g ∧ g < w.heap.size := by
  rcases h.2.2 with ⟨_, h0⟩ | ⟨g, cap, cur, hv, hg, hh, _⟩
  · omega
  · injection hv with hA _ _
    exact ⟨g, hA, hg, blk_lt hh⟩
namespace Pr
theorem C.row {w : World} {base q : Nat} {p : P} (h : C w base q p) {k : Nat} (hk : k < p.n) :
    ∃ g c : Nat, w.cell? ⟨q, 1, none⟩ = some (.slice (some ⟨g, 0, none⟩) p.n c) ∧ base ≤ g ∧ g < w.heap.size ∧ g ≠ q ∧ (∀ (i : Nat) (v : Value), (p.nodes[k]!).cells[i]? = some v → w.cell? ⟨g, k * 8 + i, none⟩ = some v) ∧ (∀ o, w.frozen? ⟨g, o, none⟩ = false) ∧
      ∀ (i : Nat) (u : Value) (f : Nd → Nd), i < 8 → (∀ x : Nd, (f x).cells = x.cells.set i u) → C (w.setCell ⟨g, k * 8 + i, none⟩ u) base q (p.set k f) := by
  obtain ⟨A, n, c, F, m, d, hc, hn, hf, h1, h2⟩ := h.ex
  obtain rfl : p.n = n := hn.len
  obtain ⟨g, rfl, hg, hgl⟩ := hn.some_of (by omega)
  have hgq : g ≠ q := h1 _ rfl
  refine ⟨g, c, hc.cell 1 _ rfl, hg, hgl, hgq, fun i v hv => ?_, hn.frozen, fun i u f hi hfx => ?_⟩
  · have := KRow.of (κ := Nd.κ) hn.row hn.1 hk i v hv
    rwa [Nat.zero_add] at this
  · have hset := hn.set f i u hi hfx (j := k) hk
    refine ⟨⟨some ⟨g, 0, none⟩, p.n, c, F, m, d, hc.kept (grown_setCell w ⟨g, k * 8 + i, none⟩ u) (by intro e; exact hgq (Option.some.inj e)), ?_, ?_, h1, h2⟩, h.low⟩
    · exact hset
    · exact hf.kept (grown_setCell w ⟨g, k * 8 + i, none⟩ u) fun a ha e => hn.apart hf (by decide) rfl ha (Option.some.inj e)
end Pr
end Go.Proofs.YtlmlhjepolefaaaGreatDoor
namespace Go.Proofs.YtlmlhjepolefaaaGreatDoor
open Go.RowKit

namespace Pr
theorem tdiv_in {m : Int} (k : Int) (h1 : -9223372036854775808 ≤ m) (h2 : m ≤ 9223372036854775807) (hk : 1 < k) : -9223372036854775808 ≤ m.tdiv k ∧ m.tdiv k ≤ 9223372036854775807 := by
  have := Int.natAbs_tdiv_le_natAbs m k
  have e := Int.tmod_add_mul_tdiv m k
  by_cases hm : m.tdiv k = 9223372036854775808
  · exfalso
    have h3 : m.natAbs = 9223372036854775808 := by omega
    have e1 : m.tmod k < k := Int.tmod_lt_of_pos _ (by omega)
    have e2 : -k < m.tmod k := by have := Int.lt_tmod_of_pos m (show 0 < k by omega); omega
    rw [hm] at e
    omega
  · omega
section
variable {w : World} {base q : Nat} {p : P}
end
end Pr
end Go.Proofs.YtlmlhjepolefaaaGreatDoor
namespace Go.Proofs.YtlmlhjepolefaaaGreatDoor
open Go.RowKit

namespace Pr
section
variable {w : World} {base q : Nat} {p : P}
end
end Pr
end Go.Proofs.YtlmlhjepolefaaaGreatDoor
namespace Go.Proofs.YtlmlhjepolefaaaGreatDoor
open Go.RowKit

namespace Pr
/-- Rows of numbers. -/
def iκ : Cs Int := ⟨1, fun x => [.int .i64 x], fun _ => rfl, fun x u hu => by obtain rfl := List.mem_singleton.1 hu; rfl⟩
theorem iκ_cells {w : World} {b off n B : Nat} {l : List Int} (h : KRow iκ w B (some ⟨b, off, none⟩) n l) {j : Nat} (hj : j < n) : w.cell? ⟨b, off + j, none⟩ = some (.int .i64 l[j]!) := by
  have := KRow.of (κ := iκ) h (by decide) hj 0 (.int .i64 l[j]!) rfl
  rwa [show off + j * iκ.k + 0 = off + j from by show off + j * 1 + 0 = off + j; omega] at this
theorem info_int : (Tryz.prog.info? 3).map (fun i => (i.zero, i.size, i.bytes)) = some (some (.int .i64 0), 1, 8) := by kernel_rfl

def outsB (p : P) (i : Int) : List Nat := (List.range p.m).filter fun j => decide (0 ≤ i) && (decide (i < p.n) && ((p.flows[j]!).frm == i))
def insB (p : P) (i : Int) : List Nat := (List.range p.m).filter fun j => decide (0 ≤ i) && (decide (i < p.n) && ((p.flows[j]!).til == i))
theorem outsB_in (p : P) {i : Nat} (h : i < p.n) : outsB p (i : Int) = outsL p i := by
  unfold outsB outsL
  congr 1
  funext j
  have h1 : decide ((0 : Int) ≤ (i : Int)) = true := decide_eq_true (by omega)
  have h2 : decide ((i : Int) < (p.n : Int)) = true := decide_eq_true (by omega)
  rw [h1, h2]; rfl
theorem insB_in (p : P) {i : Nat} (h : i < p.n) : insB p (i : Int) = insL p i := by
  unfold insB insL
  congr 1
  funext j
  have h1 : decide ((0 : Int) ≤ (i : Int)) = true := decide_eq_true (by omega)
  have h2 : decide ((i : Int) < (p.n : Int)) = true := decide_eq_true (by omega)
  rw [h1, h2]; rfl
/-- The eight cells of a node in a row. -/
theorem nd_at {w : World} {B : Nat} {b off n : Nat} {l : List Nd} (h : KRow Nd.κ w B (some ⟨b, off, none⟩) n l) {j : Nat} (hj : j < n) :
    w.cell? ⟨b, off + j * 8, none⟩ = some (.int .i64 (l[j]!).kind) ∧ w.cell? ⟨b, off + j * 8 + 1, none⟩ = some (.string (l[j]!).topic) ∧ w.cell? ⟨b, off + j * 8 + 2, none⟩ = some (.int .i64 (l[j]!).prio) ∧
    w.cell? ⟨b, off + j * 8 + 3, none⟩ = some (.int .i64 (l[j]!).retr) ∧ w.cell? ⟨b, off + j * 8 + 4, none⟩ = some (.int .i64 (l[j]!).dflt) ∧ w.cell? ⟨b, off + j * 8 + 5, none⟩ = some (.string (l[j]!).code) ∧
    w.cell? ⟨b, off + j * 8 + 6, none⟩ = some (.string (l[j]!).caught) ∧ w.cell? ⟨b, off + j * 8 + 7, none⟩ = some (.int .i64 (l[j]!).tgt) := by
  have := KRow.of (κ := Nd.κ) h (by decide) hj
  exact ⟨this 0 _ rfl, this 1 _ rfl, this 2 _ rfl, this 3 _ rfl, this 4 _ rfl, this 5 _ rfl, this 6 _ rfl, this 7 _ rfl⟩
/-- The three cells of a flow in a row. -/
theorem fl_at {w : World} {B : Nat} {b off n : Nat} {l : List Fl} (h : KRow Fl.κ w B (some ⟨b, off, none⟩) n l) {j : Nat} (hj : j < n) :
    w.cell? ⟨b, off + j * 3, none⟩ = some (.int .i64 (l[j]!).frm) ∧ w.cell? ⟨b, off + j * 3 + 1, none⟩ = some (.int .i64 (l[j]!).til) ∧ w.cell? ⟨b, off + j * 3 + 2, none⟩ = some (.string (l[j]!).cond) := by
  have := KRow.of (κ := Fl.κ) h (by decide) hj
  exact ⟨this 0 _ rfl, this 1 _ rfl, this 2 _ rfl⟩
end Pr
end Go.Proofs.YtlmlhjepolefaaaGreatDoor
namespace Go.Proofs.YtlmlhjepolefaaaGreatDoor.Rc

/-- One comes from a to b, by one step or more. -/
inductive Way (L : Nat → List Nat) (a : Nat) : Nat → Prop
  | one {b : Nat} (h : b ∈ L a) : Way L a b
  | more {b c : Nat} (h : Way L a b) (hc : c ∈ L b) : Way L a c
theorem Way.trans {L : Nat → List Nat} {a b c : Nat} (h : Way L a b) (h2 : Way L b c) : Way L a c := by
  induction h2 with
  | one h3 => exact .more h h3
  | more _ h4 ih => exact .more ih h4
theorem Way.less {L : Nat → List Nat} {a b c : Nat} (hb : b ∈ L a) (h : Way L b c) : Way L a c := (Way.one hb).trans h
theorem Way.turn {L M : Nat → List Nat} (hm : ∀ a b, b ∈ L a → a ∈ M b) {a b : Nat} (h : Way L a b) : Way M b a := by
  induction h with
  | one h => exact .one (hm _ _ h)
  | more _ h2 ih => exact Way.less (hm _ _ h2) ih
theorem Way.rank {L : Nat → List Nat} {r : Nat → Nat} (hr : ∀ a b, b ∈ L a → r a < r b) {a b : Nat} (h : Way L a b) : r a < r b := by
  induction h with
  | one h => exact hr _ _ h
  | more _ h2 ih => exact Nat.lt_trans ih (hr _ _ h2)

/-- How many are not marked. -/
def unm (f : Nat → Bool) (n : Nat) : Nat := (List.range n).countP fun v => !f v
def mark (f : Nat → Bool) (x : Nat) : Nat → Bool := fun v => if v = x then true else f v
theorem mark_at (f : Nat → Bool) (x : Nat) : mark f x x = true := if_pos rfl
theorem mark_up {f : Nat → Bool} {v : Nat} (x : Nat) (h : f v = true) : mark f x v = true := by
  unfold mark; split
  · rfl
  · exact h
theorem mark_or {f : Nat → Bool} {x v : Nat} (h : mark f x v = true) : v = x ∨ f v = true := by
  unfold mark at h
  by_cases e : v = x
  · exact .inl e
  · rw [if_neg e] at h; exact .inr h
theorem countP_mark (f : Nat → Bool) (x : Nat) (hf : f x = false) : ∀ l : List Nat, l.Nodup → x ∈ l → l.countP (fun v => !mark f x v) + 1 = l.countP fun v => !f v
  | [], _, h => by cases h
  | y :: l, hn, h => by
    rw [List.nodup_cons] at hn
    rw [List.countP_cons, List.countP_cons]
    by_cases e : y = x
    · subst e
      have h1 : l.countP (fun v => !mark f y v) = l.countP fun v => !f v := by
        apply List.countP_congr
        intro v hv
        have : v ≠ y := fun e => hn.1 (e ▸ hv)
        unfold mark; rw [if_neg this]
      rw [h1, mark_at, hf]; rfl
    · have hx : x ∈ l := by
        cases h with
        | head => exact absurd rfl e
        | tail _ h => exact h
      have h1 := countP_mark f x hf l hn.2 hx
      have h2 : mark f x y = f y := by unfold mark; rw [if_neg e]
      rw [h2]; omega
theorem unm_mark {f : Nat → Bool} {x n : Nat} (hf : f x = false) (hx : x < n) : unm (mark f x) n + 1 = unm f n :=
  countP_mark f x hf _ List.nodup_range (List.mem_range.2 hx)

theorem unm_le (f : Nat → Bool) (n : Nat) : unm f n ≤ n := Nat.le_trans List.countP_le_length (by rw [List.length_range]; exact Nat.le_refl _)
/-- Between two places: all that are come to are right; of each that does not wait all that follow are come to. -/
structure Do (n : Nat) (L : Nat → List Nat) (a : Nat) (f : Nat → Bool) (S : List Nat) : Prop where
  sound : ∀ v, f v = true → v < n ∧ Way L a v
  stk : ∀ v ∈ S, v < n ∧ (v = a ∨ f v = true)
  done : ∀ v, (v = a ∨ f v = true) → v ∈ S ∨ ∀ x ∈ L v, f x = true
/-- In the midst of one. -/
structure Df (n : Nat) (L : Nat → List Nat) (a : Nat) (f : Nat → Bool) (S : List Nat) (u t : Nat) : Prop where
  sound : ∀ v, f v = true → v < n ∧ Way L a v
  stk : ∀ v ∈ S, v < n ∧ (v = a ∨ f v = true)
  cur : u < n ∧ (u = a ∨ f u = true)
  part : ∀ x ∈ (L u).take t, f x = true
  done : ∀ v, v ≠ u → (v = a ∨ f v = true) → v ∈ S ∨ ∀ x ∈ L v, f x = true
section
variable {n : Nat} {L : Nat → List Nat} {a : Nat} {f : Nat → Bool} {S : List Nat} {u t : Nat}
theorem Do.start (ha : a < n) : Do n L a (fun _ => false) [a] where
  sound := fun v h => by cases h
  stk := fun v h => by obtain rfl := List.mem_singleton.1 h; exact ⟨ha, .inl rfl⟩
  done := fun v h => by
    rcases h with rfl | h
    · exact .inl (List.mem_singleton.2 rfl)
    · cases h
theorem Do.pop (h : Do n L a f (S ++ [u])) : Df n L a f S u 0 where
  sound := h.sound
  stk := fun v hv => h.stk v (List.mem_append_left _ hv)
  cur := h.stk u (List.mem_append_right _ (List.mem_singleton.2 rfl))
  part := fun x hx => by simp at hx
  done := fun v hv hc => by
    rcases h.done v hc with h1 | h1
    · rcases List.mem_append.1 h1 with h2 | h2
      · exact .inl h2
      · exact absurd (List.mem_singleton.1 h2) hv
    · exact .inr h1
theorem take_more {α : Type} {l : List α} {t : Nat} {x : α} (hx : l[t]? = some x) : l.take (t + 1) = l.take t ++ [x] := by
  rw [List.take_add_one, hx]; rfl
theorem Df.old (h : Df n L a f S u t) {x : Nat} (hx : (L u)[t]? = some x) (hf : f x = true) : Df n L a f S u (t + 1) where
  sound := h.sound
  stk := h.stk
  cur := h.cur
  part := fun y hy => by
    rw [take_more hx] at hy
    rcases List.mem_append.1 hy with h1 | h1
    · exact h.part y h1
    · rw [List.mem_singleton.1 h1]; exact hf
  done := h.done
theorem Df.new (h : Df n L a f S u t) {x : Nat} (hx : (L u)[t]? = some x) (hxn : x < n) : Df n L a (mark f x) (S ++ [x]) u (t + 1) where
  sound := fun v hv => by
    rcases mark_or hv with rfl | h1
    · refine ⟨hxn, ?_⟩
      have hm : v ∈ L u := List.mem_of_getElem? hx
      rcases h.cur.2 with e | e
      · exact .one (e ▸ hm)
      · exact .more (h.sound u e).2 hm
    · exact h.sound v h1
  stk := fun v hv => by
    rcases List.mem_append.1 hv with h1 | h1
    · obtain ⟨h2, h3⟩ := h.stk v h1
      exact ⟨h2, h3.imp id (mark_up x)⟩
    · rw [List.mem_singleton.1 h1]; exact ⟨hxn, .inr (mark_at f x)⟩
  cur := ⟨h.cur.1, h.cur.2.imp id (mark_up x)⟩
  part := fun y hy => by
    rw [take_more hx] at hy
    rcases List.mem_append.1 hy with h1 | h1
    · exact mark_up x (h.part y h1)
    · rw [List.mem_singleton.1 h1]; exact mark_at f x
  done := fun v hv hc => by
    have hc' : v = x ∨ (v = a ∨ f v = true) := by
      rcases hc with e | e
      · exact .inr (.inl e)
      · exact (mark_or e).imp id .inr
    rcases hc' with rfl | hc'
    · exact .inl (List.mem_append_right _ (List.mem_singleton.2 rfl))
    · rcases h.done v hv hc' with h1 | h1
      · exact .inl (List.mem_append_left _ h1)
      · exact .inr fun y hy => mark_up x (h1 y hy)
theorem Df.fin (h : Df n L a f S u t) (ht : (L u).length ≤ t) : Do n L a f S where
  sound := h.sound
  stk := h.stk
  done := fun v hc => by
    by_cases e : v = u
    · subst e
      refine .inr fun x hx => h.part x ?_
      rw [List.take_of_length_le ht]; exact hx
    · exact h.done v e hc
/-- Closed: all that are come to, and no other. -/
theorem closed (hs : ∀ v, f v = true → v < n ∧ Way L a v) (hd : ∀ v, (v = a ∨ f v = true) → ∀ x ∈ L v, f x = true) (v : Nat) : f v = true ↔ Way L a v := by
  refine ⟨fun h => (hs v h).2, fun h => ?_⟩
  induction h with
  | one h => exact hd a (.inl rfl) _ h
  | more _ h2 ih => exact hd _ (.inr ih) _ h2
theorem Do.fin (h : Do n L a f []) (v : Nat) : f v = true ↔ Way L a v :=
  closed h.sound (fun v hc => (h.done v hc).resolve_left (by simp)) v
end
end Go.Proofs.YtlmlhjepolefaaaGreatDoor.Rc
namespace Go.Proofs.YtlmlhjepolefaaaGreatDoor
open Go.RowKit

theorem u8_turn (x : UInt8) (r : Nat) : Go.bits .xor .u8 (x.toNat : Int) ((2 : Int) ^ r % (256 : Int)) = ((x ^^^ UInt8.ofNat (2 ^ r)).toNat : Int) := by
  have e : (2 : Int) ^ r % (256 : Int) = ((UInt8.ofNat (2 ^ r)).toNat : Int) := by
    rw [UInt8.toNat_ofNat']; simp
  rw [e, u8_xor_nat _ _ x.toNat_lt (UInt8.toNat_lt _), UInt8.toNat_xor]
theorem own_some {w : World} {base n c : Nat} {e : TypeId} {A : Option Addr} {l : List UInt8} (h : OwnBytes w base e A n c l) (hn : 0 < n) : ∃ g, A = some ⟨g, 0, none⟩ ∧ base ≤ g ∧ g < w.heap.size := by
  rcases h.2 with ⟨_, h0⟩ | ⟨g, cap, cur, hv, hg, hh, _⟩
  · omega
  · injection hv with hA _ _
    refine ⟨g, hA, hg, ?_⟩
    rcases Nat.lt_or_ge g w.heap.size with h' | h'
    · exact h'
    · rw [Array.getElem?_eq_none h'] at hh; cases hh
theorem own_frozen {w : World} {base n c g : Nat} {e : TypeId} {l : List UInt8} (h : OwnBytes w base e (some ⟨g, 0, none⟩) n c l) (o : Nat) : w.frozen? ⟨g, o, none⟩ = false := by
  rcases h.2 with ⟨hv, _⟩ | ⟨g', cap, cur, hv, hg, hh, _⟩
  · cases hv
  · obtain rfl : g = g' := by injection hv with hA; injection hA with hA; injection hA
    unfold World.frozen?
    rw [hh]; rfl
theorem u8_xor (x y : UInt8) : Go.bits .xor .u8 (x.toNat : Int) (y.toNat : Int) = ((x ^^^ y).toNat : Int) := by
  rw [u8_xor_nat _ _ x.toNat_lt (UInt8.toNat_lt _), UInt8.toNat_xor]
theorem own_set {w : World} {base n c g q : Nat} {e : TypeId} {l : List UInt8} (h : OwnBytes w base e (some ⟨g, 0, none⟩) n c l) (y : UInt8) :
    OwnBytes (w.setCell ⟨g, q, none⟩ (.int .u8 (y.toNat : Int))) base e (some ⟨g, 0, none⟩) n c (l.set q y) := by
  have h1 := (World.ownsRow.stored h q (bv y)).1
  rw [← List.map_set] at h1
  exact h1
end Go.Proofs.YtlmlhjepolefaaaGreatDoor
namespace Go.Proofs.YtlmlhjepolefaaaGreatDoor
open Go.RowKit

namespace Pr
section
variable {w : World}
set_option maxHeartbeats 800000 in
theorem isnode_any (s : ByteArray) (A : Option Addr) (n c : Nat) (F : Option Addr) (m d : Nat) (i : Int) :
    Calls Tryz.prog 46 #[.agg #[.string s, .slice A n c, .slice F m d], .int .i64 i] w fun e w' => e = .returned (.bool (decide (0 ≤ i) && decide (i < n))) ∧ Below w.heap.size w w' := by
  have HB := Lib.hid ((Below.refl w.heap.size w).alloc (Nat.le_refl _) (.cells #[.string s, .slice A n c, .slice F m d] 32))
  have hcel := Cel.lit w #[.string s, .slice A n c, .slice F m d] 32
  obtain ⟨R, hR⟩ : ∃ R, (decide (0 ≤ i) && decide (i < (n : Int))) = R := ⟨_, rfl⟩
  rw [hR]
  go_enter Tryz.func46, Tryz.ntmps46
  by_cases h1 : 0 ≤ i
  · by_cases h2 : i < (n : Int)
    · obtain rfl : R = true := by rw [← hR, decide_eq_true h1, decide_eq_true h2]; rfl
      clear hR
      go_upto_region 1 with (fail)
      generalize w.alloc _ = wb at *
      obtain ⟨⟨z0, z1, z2⟩, _⟩ := tri_facts hcel
      go_wp2
      go_ret
      exact ⟨rfl, HB.out⟩
    · obtain rfl : R = false := by rw [← hR, decide_eq_true h1, decide_eq_false h2]; rfl
      clear hR
      go_upto_region 1 with (fail)
      generalize w.alloc _ = wb at *
      obtain ⟨⟨z0, z1, z2⟩, _⟩ := tri_facts hcel
      go_wp2
      go_ret
      exact ⟨rfl, HB.out⟩
  · obtain rfl : R = false := by rw [← hR, decide_eq_false h1]; rfl
    clear hR
    go_wp2
    go_ret
    exact ⟨rfl, HB.out⟩
end
end Pr
end Go.Proofs.YtlmlhjepolefaaaGreatDoor
