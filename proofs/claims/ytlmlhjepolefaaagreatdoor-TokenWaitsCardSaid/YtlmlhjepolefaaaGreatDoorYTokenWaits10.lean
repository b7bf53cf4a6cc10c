/- A process in memory under way: one node more, one flow more. Rows of literals in memory; blocks one behind the other. Rows of numbers in memory; the flows from, to a node as a list of places. -/
import Derived.Test.YtlmlhjepolefaaaGreatDoorYTokenWaits6
import Derived.Test.YtlmlhjepolefaaaGreatDoorYTokenWaits2
import Derived.Test.YtlmlhjepolefaaaGreatDoorProg
import Derived.Deep.RegionLaw
import Derived.Test.YtlmlhjepolefaaaGreatDoorGiY
namespace Go.Proofs.YtlmlhjepolefaaaGreatDoor
open Go.RowKit

namespace Pr
def Nd.cells (x : Nd) : List Value := [.int .i64 x.kind, .string x.topic, .int .i64 x.prio, .int .i64 x.retr, .int .i64 x.dflt, .string x.code, .string x.caught, .int .i64 x.tgt]
def Nd.val (x : Nd) : Value := .agg #[.int .i64 x.kind, .string x.topic, .int .i64 x.prio, .int .i64 x.retr, .int .i64 x.dflt, .string x.code, .string x.caught, .int .i64 x.tgt]
def Fl.cells (f : Fl) : List Value := [.int .i64 f.frm, .int .i64 f.til, .string f.cond]
def Fl.val (f : Fl) : Value := .agg #[.int .i64 f.frm, .int .i64 f.til, .string f.cond]
def Nd.κ : Cs Nd := ⟨8, Nd.cells, fun _ => rfl, by
  intro x u hu
  simp only [Nd.cells, List.mem_cons, List.not_mem_nil, or_false] at hu
  rcases hu with rfl | rfl | rfl | rfl | rfl | rfl | rfl | rfl <;> rfl⟩
def Fl.κ : Cs Fl := ⟨3, Fl.cells, fun _ => rfl, by
  intro x u hu
  simp only [Fl.cells, List.mem_cons, List.not_mem_nil, or_false] at hu
  rcases hu with rfl | rfl | rfl <;> rfl⟩
theorem info_node : (Tryz.prog.info? 26).map (fun i => (i.zero, i.size, i.bytes)) = some (some (.agg #[.int .i64 0, .string ⟨#[]⟩, .int .i64 0, .int .i64 0, .int .i64 0, .string ⟨#[]⟩, .string ⟨#[]⟩, .int .i64 0]), 8, 88) := by kernel_rfl
theorem info_flow : (Tryz.prog.info? 29).map (fun i => (i.zero, i.size, i.bytes)) = some (some (.agg #[.int .i64 0, .int .i64 0, .string ⟨#[]⟩]), 3, 32) := by kernel_rfl
/-- A process in block q, its rows one's own. -/
structure C (w : World) (base q : Nat) (p : P) : Prop where
  ex : ∃ (A : Option Addr) (n c : Nat) (F : Option Addr) (m d : Nat), Cel w q [.string p.name, .slice A n c, .slice F m d] ∧ OwnK Nd.κ w base 26 A n c p.nodes ∧ OwnK Fl.κ w base 29 F m d p.flows ∧
    (∀ a, A = some a → a.block ≠ q) ∧ (∀ a, F = some a → a.block ≠ q)
  low : base ≤ q
theorem C.lt {w : World} {base q : Nat} {p : P} (h : C w base q p) : q < w.heap.size := by
  obtain ⟨_, _, _, _, _, _, hc, _⟩ := h.ex
  exact hc.lt
theorem C.below {w w' : World} {base q : Nat} {p : P} (h : C w base q p) {B : Nat} (hb : Below B w w') (hB : w.heap.size ≤ B) : C w' base q p := by
  obtain ⟨A, n, c, F, m, d, hc, hn, hf, h1, h2⟩ := h.ex
  exact ⟨⟨A, n, c, F, m, d, hc.below hb hB, hn.below hb hB, hf.below hb hB, h1, h2⟩, h.low⟩
/-- The row of nodes is another one. -/
theorem C.nodes {w w' : World} {base q : Nat} {p : P} {A : Option Addr} {n c : Nat} {F : Option Addr} {m d : Nat} {A' : Option Addr} {n' c' : Nat} {l' : List Nd} (hc : Cel w q [.string p.name, .slice A n c, .slice F m d]) (hn : OwnK Nd.κ w base 26 A n c p.nodes)
    (hf : OwnK Fl.κ w base 29 F m d p.flows) (h1 : ∀ a, A = some a → a.block ≠ q) (h2 : ∀ a, F = some a → a.block ≠ q) (hlow : base ≤ q) (hg : Grew w w' (.slice A n c) (.slice A' n' c')) (hn' : OwnK Nd.κ w' base 26 A' n' c' l') :
    C (w'.setCell ⟨q, 1, none⟩ (.slice A' n' c')) base q ⟨p.name, l', p.flows⟩ := by
  have hgn : ∀ b : Nat, (∀ a, A = some a → a.block ≠ b) → (Value.slice A n c).ownBlock ≠ some b := by
    intro b hb he
    cases A with
    | none => cases he
    | some a => exact hb a rfl (Option.some.inj he)
  have hc' : Cel w' q [.string p.name, .slice A n c, .slice F m d] := hc.kept hg.grown (hgn q h1)
  have hf' : OwnK Fl.κ w' base 29 F m d p.flows := hf.kept hg.grown fun a ha => hgn a.block fun a' ha' => hn.apart hf (by decide) ha' ha
  have h1' : ∀ a, A' = some a → a.block ≠ q := by
    intro a ha
    rcases grew_block hg hn' ha with ⟨a0, h3, h4⟩ | h3
    · rw [← h4]; exact h1 a0 h3
    · have := hc.lt; omega
  refine ⟨⟨A', n', c', F, m, d, ?_, ?_, ?_, h1', h2⟩, hlow⟩
  · exact hc'.set (i := 1) (by simp) _
  · exact hn'.kept (grown_setCell w' ⟨q, 1, none⟩ _) fun a ha e => h1' a ha (Option.some.inj e).symm
  · exact hf'.kept (grown_setCell w' ⟨q, 1, none⟩ _) fun a ha e => h2 a ha (Option.some.inj e).symm
/-- The row of flows is another one. -/
theorem C.flows {w w' : World} {base q : Nat} {p : P} {A : Option Addr} {n c : Nat} {F : Option Addr} {m d : Nat} {F' : Option Addr} {m' d' : Nat} {l' : List Fl} (hc : Cel w q [.string p.name, .slice A n c, .slice F m d]) (hn : OwnK Nd.κ w base 26 A n c p.nodes)
    (hf : OwnK Fl.κ w base 29 F m d p.flows) (h1 : ∀ a, A = some a → a.block ≠ q) (h2 : ∀ a, F = some a → a.block ≠ q) (hlow : base ≤ q) (hg : Grew w w' (.slice F m d) (.slice F' m' d')) (hf' : OwnK Fl.κ w' base 29 F' m' d' l') :
    C (w'.setCell ⟨q, 2, none⟩ (.slice F' m' d')) base q ⟨p.name, p.nodes, l'⟩ := by
  have hgn : ∀ b : Nat, (∀ a, F = some a → a.block ≠ b) → (Value.slice F m d).ownBlock ≠ some b := by
    intro b hb he
    cases F with
    | none => cases he
    | some a => exact hb a rfl (Option.some.inj he)
  have hc' : Cel w' q [.string p.name, .slice A n c, .slice F m d] := hc.kept hg.grown (hgn q h2)
  have hn' : OwnK Nd.κ w' base 26 A n c p.nodes := hn.kept hg.grown fun a ha => hgn a.block fun a' ha' => hf.apart hn (by decide) ha' ha
  have h2' : ∀ a, F' = some a → a.block ≠ q := by
    intro a ha
    rcases grew_block hg hf' ha with ⟨a0, h3, h4⟩ | h3
    · rw [← h4]; exact h2 a0 h3
    · have := hc.lt; omega
  refine ⟨⟨A, n, c, F', m', d', ?_, ?_, ?_, h1, h2'⟩, hlow⟩
  · exact hc'.set (i := 2) (by simp) _
  · exact hn'.kept (grown_setCell w' ⟨q, 2, none⟩ _) fun a ha e => h1 a ha (Option.some.inj e).symm
  · exact hf'.kept (grown_setCell w' ⟨q, 2, none⟩ _) fun a ha e => h2' a ha (Option.some.inj e).symm
end Pr
end Go.Proofs.YtlmlhjepolefaaaGreatDoor
namespace Go.Proofs.YtlmlhjepolefaaaGreatDoor
open Go.RowKit

section
variable {w : World} {b : Nat} {T : TypeId}
theorem lit_at {cs : List Value} (h : w.heap[b]? = some (.cells cs.toArray T (0, 0))) {i : Nat} {v : Value} (hi : cs[i]? = some v) : w.cell? ⟨b, i, none⟩ = some v := by
  have := cell_of_row w b i cs.toArray T (0, 0) h
  rw [this]
  simpa using hi
theorem lit_bools {l : List Bool} (h : w.heap[b]? = some (.cells (l.map Value.bool).toArray T (0, 0))) {i : Nat} (hi : i < l.length) : w.cell? ⟨b, i, none⟩ = some (.bool l[i]!) :=
  lit_at h (by simp [hi])
theorem lit_texts {l : List (List UInt8)} (h : w.heap[b]? = some (.cells (l.map fun s => Value.string ⟨s.toArray⟩).toArray T (0, 0))) {i : Nat} (hi : i < l.length) : w.cell? ⟨b, i, none⟩ = some (.string ⟨(l[i]!).toArray⟩) :=
  lit_at h (by simp [hi])
theorem lit_ints {k : IntKind} {l : List Int} (h : w.heap[b]? = some (.cells (l.map (Value.int k)).toArray T (0, 0))) {i : Nat} (hi : i < l.length) : w.cell? ⟨b, i, none⟩ = some (.int k l[i]!) :=
  lit_at h (by simp [hi])
theorem cell_below {w w' : World} (hb : Below w.heap.size w w') {a : Addr} {v : Value} (h : w.cell? a = some v) : w'.cell? a = some v := (hb.cell (cell_lt h)).trans h
/-- Three new blocks, one behind the other. -/
theorem three_new (w : World) (o1 o2 o3 : Obj) : (((w.alloc o1).alloc o2).alloc o3).heap[w.heap.size]? = some o1 ∧ (((w.alloc o1).alloc o2).alloc o3).heap[w.heap.size + 1]? = some o2 ∧ (((w.alloc o1).alloc o2).alloc o3).heap[w.heap.size + 1 + 1]? = some o3 := by
  have h1 := heap_alloc_new w o1
  have h2 := heap_alloc_new (w.alloc o1) o2
  have h3 := heap_alloc_new ((w.alloc o1).alloc o2) o3
  have s1 : (w.alloc o1).heap.size = w.heap.size + 1 := by simp
  have s2 : ((w.alloc o1).alloc o2).heap.size = w.heap.size + 1 + 1 := by simp
  rw [s1] at h2
  rw [s2] at h3
  have b2 : Below (w.alloc o1).heap.size (w.alloc o1) ((w.alloc o1).alloc o2) := (Below.refl _ _).alloc (Nat.le_refl _) o2
  have b3 : Below ((w.alloc o1).alloc o2).heap.size ((w.alloc o1).alloc o2) (((w.alloc o1).alloc o2).alloc o3) := (Below.refl _ _).alloc (Nat.le_refl _) o3
  exact ⟨(b3.block _ (by omega)).trans ((b2.block _ (by omega)).trans h1), (b3.block _ (by omega)).trans h2, h3⟩
theorem two_new (w : World) (o1 o2 : Obj) : ((w.alloc o1).alloc o2).heap[w.heap.size]? = some o1 ∧ ((w.alloc o1).alloc o2).heap[w.heap.size + 1]? = some o2 := by
  have h1 := heap_alloc_new w o1
  have h2 := heap_alloc_new (w.alloc o1) o2
  have s1 : (w.alloc o1).heap.size = w.heap.size + 1 := by simp
  rw [s1] at h2
  have b2 : Below (w.alloc o1).heap.size (w.alloc o1) ((w.alloc o1).alloc o2) := (Below.refl _ _).alloc (Nat.le_refl _) o2
  exact ⟨(b2.block _ (by omega)).trans h1, h2⟩
theorem below3 (w : World) (o1 o2 o3 : Obj) : Below w.heap.size w (((w.alloc o1).alloc o2).alloc o3) := (((Below.refl _ _).alloc (Nat.le_refl _) _).alloc (by simp) _).alloc (by simp; omega) _
end
end Go.Proofs.YtlmlhjepolefaaaGreatDoor
namespace Go.Proofs.YtlmlhjepolefaaaGreatDoor
open Go.RowKit

namespace Pr
/-- Rows of numbers. -/
def iκ : Cs Int := ⟨1, fun x => [.int .i64 x], fun _ => rfl, fun x u hu => by obtain rfl := List.mem_singleton.1 hu; rfl⟩
theorem iκ_cells {w : World} {b off n B : Nat} {l : List Int} (h : KRow iκ w B (some ⟨b, off, none⟩) n l) {j : Nat} (hj : j < n) : w.cell? ⟨b, off + j, none⟩ = some (.int .i64 l[j]!) := by
  have := KRow.of (κ := iκ) h (by decide) hj 0 (.int .i64 l[j]!) rfl
  rwa [show off + j * iκ.k + 0 = off + j from by show off + j * 1 + 0 = off + j; omega] at this
theorem info_int : (Tryz.prog.info? 3).map (fun i => (i.zero, i.size, i.bytes)) = some (some (.int .i64 0), 1, 8) := by kernel_rfl

def outsB (p : P) (i : Int) : List Nat := (List.range p.m).filter fun j => decide (0 ≤ i) && (decide (i < p.n) && ((p.flows[j]!).frm == i))
def insB (p : P) (i : Int) : List Nat := (List.range p.m).filter fun j => decide (0 ≤ i) && (decide (i < p.n) && ((p.flows[j]!).til == i))
theorem outsB_in (p : P) {i : Nat} (h : i < p.n) : outsB p (i : Int) = outsL p i := by
  unfold outsB outsL
  congr 1
  funext j
  have h1 : decide ((0 : Int) ≤ (i : Int)) = true := decide_eq_true (by omega)
  have h2 : decide ((i : Int) < (p.n : Int)) = true := decide_eq_true (by omega)
  rw [h1, h2]; rfl
theorem insB_in (p : P) {i : Nat} (h : i < p.n) : insB p (i : Int) = insL p i := by
  unfold insB insL
  congr 1
  funext j
  have h1 : decide ((0 : Int) ≤ (i : Int)) = true := decide_eq_true (by omega)
  have h2 : decide ((i : Int) < (p.n : Int)) = true := decide_eq_true (by omega)
  rw [h1, h2]; rfl
/-- The eight cells of a node in a row. -/
theorem nd_at {w : World} {B : Nat} {b off n : Nat} {l : List Nd} (h : KRow Nd.κ w B (some ⟨b, off, none⟩) n l) {j : Nat} (hj : j < n) :
    w.cell? ⟨b, off + j * 8, none⟩ = some (.int .i64 (l[j]!).kind) ∧ w.cell? ⟨b, off + j * 8 + 1, none⟩ = some (.string (l[j]!).topic) ∧ w.cell? ⟨b, off + j * 8 + 2, none⟩ = some (.int .i64 (l[j]!).prio) ∧
    w.cell? ⟨b, off + j * 8 + 3, none⟩ = some (.int .i64 (l[j]!).retr) ∧ w.cell? ⟨b, off + j * 8 + 4, none⟩ = some (.int .i64 (l[j]!).dflt) ∧ w.cell? ⟨b, off + j * 8 + 5, none⟩ = some (.string (l[j]!).code) ∧
    w.cell? ⟨b, off + j * 8 + 6, none⟩ = some (.string (l[j]!).caught) ∧ w.cell? ⟨b, off + j * 8 + 7, none⟩ = some (.int .i64 (l[j]!).tgt) := by
  have := KRow.of (κ := Nd.κ) h (by decide) hj
  exact ⟨this 0 _ rfl, this 1 _ rfl, this 2 _ rfl, this 3 _ rfl, this 4 _ rfl, this 5 _ rfl, this 6 _ rfl, this 7 _ rfl⟩
/-- The three cells of a flow in a row. -/
theorem fl_at {w : World} {B : Nat} {b off n : Nat} {l : List Fl} (h : KRow Fl.κ w B (some ⟨b, off, none⟩) n l) {j : Nat} (hj : j < n) :
    w.cell? ⟨b, off + j * 3, none⟩ = some (.int .i64 (l[j]!).frm) ∧ w.cell? ⟨b, off + j * 3 + 1, none⟩ = some (.int .i64 (l[j]!).til) ∧ w.cell? ⟨b, off + j * 3 + 2, none⟩ = some (.string (l[j]!).cond) := by
  have := KRow.of (κ := Fl.κ) h (by decide) hj
  exact ⟨this 0 _ rfl, this 1 _ rfl, this 2 _ rfl⟩
end Pr
end Go.Proofs.YtlmlhjepolefaaaGreatDoor
