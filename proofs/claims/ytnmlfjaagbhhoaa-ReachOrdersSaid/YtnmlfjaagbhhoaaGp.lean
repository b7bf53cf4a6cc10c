/- A process in memory under way: one node more, one flow more. -/
import Derived.Test.YtnmlfjaagbhhoaaGq
import Derived.Test.YtnmlfjaagbhhoaaGm
import Derived.Test.YtnmlfjaagbhhoaaProg
import Derived.Deep.RegionLaw
namespace Go.Proofs.Ytnmlfjaagbhhoaa
open Go.RowKit

namespace Pr
def Nd.cells (x : Nd) : List Value := [.int .i64 x.kind, .string x.topic, .int .i64 x.prio, .int .i64 x.retr, .int .i64 x.dflt, .string x.code, .string x.caught, .int .i64 x.tgt]
def Nd.val (x : Nd) : Value := .agg #[.int .i64 x.kind, .string x.topic, .int .i64 x.prio, .int .i64 x.retr, .int .i64 x.dflt, .string x.code, .string x.caught, .int .i64 x.tgt]
def Fl.cells (f : Fl) : List Value := [.int .i64 f.frm, .int .i64 f.til, .string f.cond]
def Fl.val (f : Fl) : Value := .agg #[.int .i64 f.frm, .int .i64 f.til, .string f.cond]
def Nd.κ : Cs Nd := ⟨8, Nd.cells, fun _ => rfl, by
  intro x u hu
  simp only [Nd.cells, List.mem_cons, List.not_mem_nil, or_false] at hu
  rcases hu with rfl | rfl | rfl | rfl | rfl | rfl | rfl | rfl <;> rfl⟩
def Fl.κ : Cs Fl := ⟨3, Fl.cells, fun _ => rfl, by
  intro x u hu
  simp only [Fl.cells, List.mem_cons, List.not_mem_nil, or_false] at hu
  rcases hu with rfl | rfl | rfl <;> rfl⟩
theorem info_node : (Try.prog.info? 42).map (fun i => (i.zero, i.size, i.bytes)) = some (some (.agg #[.int .i64 0, .string ⟨#[]⟩, .int .i64 0, .int .i64 0, .int .i64 0, .string ⟨#[]⟩, .string ⟨#[]⟩, .int .i64 0]), 8, 88) := by kernel_rfl
theorem info_flow : (Try.prog.info? 39).map (fun i => (i.zero, i.size, i.bytes)) = some (some (.agg #[.int .i64 0, .int .i64 0, .string ⟨#[]⟩]), 3, 32) := by kernel_rfl
/-- A process in block q, its rows one's own. -/
structure C (w : World) (base q : Nat) (p : P) : Prop where
  ex : ∃ (A : Option Addr) (n c : Nat) (F : Option Addr) (m d : Nat), Cel w q [.string p.name, .slice A n c, .slice F m d] ∧ OwnK Nd.κ w base 42 A n c p.nodes ∧ OwnK Fl.κ w base 39 F m d p.flows ∧
    (∀ a, A = some a → a.block ≠ q) ∧ (∀ a, F = some a → a.block ≠ q)
  low : base ≤ q
theorem C.lt {w : World} {base q : Nat} {p : P} (h : C w base q p) : q < w.heap.size := by
  obtain ⟨_, _, _, _, _, _, hc, _⟩ := h.ex
  exact hc.lt
theorem C.below {w w' : World} {base q : Nat} {p : P} (h : C w base q p) {B : Nat} (hb : Below B w w') (hB : w.heap.size ≤ B) : C w' base q p := by
  obtain ⟨A, n, c, F, m, d, hc, hn, hf, h1, h2⟩ := h.ex
  exact ⟨⟨A, n, c, F, m, d, hc.below hb hB, hn.below hb hB, hf.below hb hB, h1, h2⟩, h.low⟩
/-- The row of nodes is another one. -/
theorem C.nodes {w w' : World} {base q : Nat} {p : P} {A : Option Addr} {n c : Nat} {F : Option Addr} {m d : Nat} {A' : Option Addr} {n' c' : Nat} {l' : List Nd} (hc : Cel w q [.string p.name, .slice A n c, .slice F m d]) (hn : OwnK Nd.κ w base 42 A n c p.nodes)
    (hf : OwnK Fl.κ w base 39 F m d p.flows) (h1 : ∀ a, A = some a → a.block ≠ q) (h2 : ∀ a, F = some a → a.block ≠ q) (hlow : base ≤ q) (hg : Grew w w' (.slice A n c) (.slice A' n' c')) (hn' : OwnK Nd.κ w' base 42 A' n' c' l') :
    C (w'.setCell ⟨q, 1, none⟩ (.slice A' n' c')) base q ⟨p.name, l', p.flows⟩ := by
  have hgn : ∀ b : Nat, (∀ a, A = some a → a.block ≠ b) → (Value.slice A n c).ownBlock ≠ some b := by
    intro b hb he
    cases A with
    | none => cases he
    | some a => exact hb a rfl (Option.some.inj he)
  have hc' : Cel w' q [.string p.name, .slice A n c, .slice F m d] := hc.kept hg.grown (hgn q h1)
  have hf' : OwnK Fl.κ w' base 39 F m d p.flows := hf.kept hg.grown fun a ha => hgn a.block fun a' ha' => hn.apart hf (by decide) ha' ha
  have h1' : ∀ a, A' = some a → a.block ≠ q := by
    intro a ha
    rcases grew_block hg hn' ha with ⟨a0, h3, h4⟩ | h3
    · rw [← h4]; exact h1 a0 h3
    · have := hc.lt; omega
  refine ⟨⟨A', n', c', F, m, d, ?_, ?_, ?_, h1', h2⟩, hlow⟩
  · exact hc'.set (i := 1) (by simp) _
  · exact hn'.kept (grown_setCell w' ⟨q, 1, none⟩ _) fun a ha e => h1' a ha (Option.some.inj e).symm
  · exact hf'.kept (grown_setCell w' ⟨q, 1, none⟩ _) fun a ha e => h2 a ha (Option.some.inj e).symm
/-- The row of flows is another one. -/
theorem C.flows {w w' : World} {base q : Nat} {p : P} {A : Option Addr} {n c : Nat} {F : Option Addr} {m d : Nat} {F' : Option Addr} {m' d' : Nat} {l' : List Fl} (hc : Cel w q [.string p.name, .slice A n c, .slice F m d]) (hn : OwnK Nd.κ w base 42 A n c p.nodes)
    (hf : OwnK Fl.κ w base 39 F m d p.flows) (h1 : ∀ a, A = some a → a.block ≠ q) (h2 : ∀ a, F = some a → a.block ≠ q) (hlow : base ≤ q) (hg : Grew w w' (.slice F m d) (.slice F' m' d')) (hf' : OwnK Fl.κ w' base 39 F' m' d' l') :
    C (w'.setCell ⟨q, 2, none⟩ (.slice F' m' d')) base q ⟨p.name, p.nodes, l'⟩ := by
  have hgn : ∀ b : Nat, (∀ a, F = some a → a.block ≠ b) → (Value.slice F m d).ownBlock ≠ some b := by
    intro b hb he
    cases F with
    | none => cases he
    | some a => exact hb a rfl (Option.some.inj he)
  have hc' : Cel w' q [.string p.name, .slice A n c, .slice F m d] := hc.kept hg.grown (hgn q h2)
  have hn' : OwnK Nd.κ w' base 42 A n c p.nodes := hn.kept hg.grown fun a ha => hgn a.block fun a' ha' => hf.apart hn (by decide) ha' ha
  have h2' : ∀ a, F' = some a → a.block ≠ q := by
    intro a ha
    rcases grew_block hg hf' ha with ⟨a0, h3, h4⟩ | h3
    · rw [← h4]; exact h2 a0 h3
    · have := hc.lt; omega
  refine ⟨⟨A, n, c, F', m', d', ?_, ?_, ?_, h1, h2'⟩, hlow⟩
  · exact hc'.set (i := 2) (by simp) _
  · exact hn'.kept (grown_setCell w' ⟨q, 2, none⟩ _) fun a ha e => h1 a ha (Option.some.inj e).symm
  · exact hf'.kept (grown_setCell w' ⟨q, 2, none⟩ _) fun a ha e => h2' a ha (Option.some.inj e).symm
end Pr
end Go.Proofs.Ytnmlfjaagbhhoaa
