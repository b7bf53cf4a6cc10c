/- Walks of leaseholdmake: one node more, one flow more. -/
import Derived.Test.YtlmlhjepolefaaaGp
import Derived.Deep.QuietTactic
import Derived.BigQuiet
import Derived.Deep.CutRange
namespace Go.Proofs.Ytlmlhjepolefaaa
open Go.RowKit

namespace Pr
section
variable {w : World} {base q : Nat} {p : P}
theorem nd_facts {w : World} {z : Nat} {a0 a1 a2 a3 a4 a5 a6 a7 : Value} (h : Cel w z [a0, a1, a2, a3, a4, a5, a6, a7]) : w.cell? ⟨z, 0, none⟩ = some a0 ∧ w.cell? ⟨z, 1, none⟩ = some a1 ∧ w.cell? ⟨z, 2, none⟩ = some a2 ∧ w.cell? ⟨z, 3, none⟩ = some a3 ∧ w.cell? ⟨z, 4, none⟩ = some a4 ∧ w.cell? ⟨z, 5, none⟩ = some a5 ∧ w.cell? ⟨z, 6, none⟩ = some a6 ∧ w.cell? ⟨z, 7, none⟩ = some a7 :=
  ⟨h.cell 0 _ rfl, h.cell 1 _ rfl, h.cell 2 _ rfl, h.cell 3 _ rfl, h.cell 4 _ rfl, h.cell 5 _ rfl, h.cell 6 _ rfl, h.cell 7 _ rfl⟩
theorem tri_facts {w : World} {z : Nat} {a0 a1 a2 : Value} (h : Cel w z [a0, a1, a2]) : (w.cell? ⟨z, 0, none⟩ = some a0 ∧ w.cell? ⟨z, 1, none⟩ = some a1 ∧ w.cell? ⟨z, 2, none⟩ = some a2) ∧ (w.frozen? ⟨z, 0, none⟩ = false ∧ w.frozen? ⟨z, 1, none⟩ = false ∧ w.frozen? ⟨z, 2, none⟩ = false) :=
  ⟨⟨h.cell 0 _ rfl, h.cell 1 _ rfl, h.cell 2 _ rfl⟩, h.froz 0 (by simp), h.froz 1 (by simp), h.froz 2 (by simp)⟩
theorem cel_grew {w w' : World} {q : Nat} {cs : List Value} {A : Option Addr} {n c : Nat} {v' : Value} (hc : Cel w q cs) (hg : Grew w w' (.slice A n c) v') (h1 : ∀ a, A = some a → a.block ≠ q) : Cel w' q cs :=
  hc.kept hg.grown (by
    intro he
    cases A with
    | none => cases he
    | some a => exact h1 a rfl (Option.some.inj he))
end
end Pr
end Go.Proofs.Ytlmlhjepolefaaa
