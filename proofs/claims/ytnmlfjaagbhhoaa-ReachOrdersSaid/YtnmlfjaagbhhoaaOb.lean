/- Rows of numbers in memory; the flows from, to a node as a list of places. -/
import Derived.Test.YtnmlfjaagbhhoaaGp
import Derived.Test.YtnmlfjaagbhhoaaGi
namespace Go.Proofs.Ytnmlfjaagbhhoaa
open Go.RowKit

namespace Pr
/-- Rows of numbers. -/
def iκ : Cs Int := ⟨1, fun x => [.int .i64 x], fun _ => rfl, fun x u hu => by obtain rfl := List.mem_singleton.1 hu; rfl⟩
theorem iκ_cells {w : World} {b off n B : Nat} {l : List Int} (h : KRow iκ w B (some ⟨b, off, none⟩) n l) {j : Nat} (hj : j < n) : w.cell? ⟨b, off + j, none⟩ = some (.int .i64 l[j]!) := by
  have := KRow.of (κ := iκ) h (by decide) hj 0 (.int .i64 l[j]!) rfl
  rwa [show off + j * iκ.k + 0 = off + j from by show off + j * 1 + 0 = off + j; omega] at this
theorem info_int : (Try.prog.info? 3).map (fun i => (i.zero, i.size, i.bytes)) = some (some (.int .i64 0), 1, 8) := by kernel_rfl

def outsB (p : P) (i : Int) : List Nat := (List.range p.m).filter fun j => decide (0 ≤ i) && (decide (i < p.n) && ((p.flows[j]!).frm == i))
def insB (p : P) (i : Int) : List Nat := (List.range p.m).filter fun j => decide (0 ≤ i) && (decide (i < p.n) && ((p.flows[j]!).til == i))
theorem outsB_in (p : P) {i : Nat} (h : i < p.n) : outsB p (i : Int) = outsL p i := by
  unfold outsB outsL
  congr 1
  funext j
  have h1 : decide ((0 : Int) ≤ (i : Int)) = true := decide_eq_true (by omega)
  have h2 : decide ((i : Int) < (p.n : Int)) = true := decide_eq_true (by omega)
  rw [h1, h2]; rfl
theorem insB_in (p : P) {i : Nat} (h : i < p.n) : insB p (i : Int) = insL p i := by
  unfold insB insL
  congr 1
  funext j
  have h1 : decide ((0 : Int) ≤ (i : Int)) = true := decide_eq_true (by omega)
  have h2 : decide ((i : Int) < (p.n : Int)) = true := decide_eq_true (by omega)
  rw [h1, h2]; rfl
/-- The eight cells of a node in a row. -/
theorem nd_at {w : World} {B : Nat} {b off n : Nat} {l : List Nd} (h : KRow Nd.κ w B (some ⟨b, off, none⟩) n l) {j : Nat} (hj : j < n) :
    w.cell? ⟨b, off + j * 8, none⟩ = some (.int .i64 (l[j]!).kind) ∧ w.cell? ⟨b, off + j * 8 + 1, none⟩ = some (.string (l[j]!).topic) ∧ w.cell? ⟨b, off + j * 8 + 2, none⟩ = some (.int .i64 (l[j]!).prio) ∧
    w.cell? ⟨b, off + j * 8 + 3, none⟩ = some (.int .i64 (l[j]!).retr) ∧ w.cell? ⟨b, off + j * 8 + 4, none⟩ = some (.int .i64 (l[j]!).dflt) ∧ w.cell? ⟨b, off + j * 8 + 5, none⟩ = some (.string (l[j]!).code) ∧
    w.cell? ⟨b, off + j * 8 + 6, none⟩ = some (.string (l[j]!).caught) ∧ w.cell? ⟨b, off + j * 8 + 7, none⟩ = some (.int .i64 (l[j]!).tgt) := by
  have := KRow.of (κ := Nd.κ) h (by decide) hj
  exact ⟨this 0 _ rfl, this 1 _ rfl, this 2 _ rfl, this 3 _ rfl, this 4 _ rfl, this 5 _ rfl, this 6 _ rfl, this 7 _ rfl⟩
/-- The three cells of a flow in a row. -/
theorem fl_at {w : World} {B : Nat} {b off n : Nat} {l : List Fl} (h : KRow Fl.κ w B (some ⟨b, off, none⟩) n l) {j : Nat} (hj : j < n) :
    w.cell? ⟨b, off + j * 3, none⟩ = some (.int .i64 (l[j]!).frm) ∧ w.cell? ⟨b, off + j * 3 + 1, none⟩ = some (.int .i64 (l[j]!).til) ∧ w.cell? ⟨b, off + j * 3 + 2, none⟩ = some (.string (l[j]!).cond) := by
  have := KRow.of (κ := Fl.κ) h (by decide) hj
  exact ⟨this 0 _ rfl, this 1 _ rfl, this 2 _ rfl⟩
end Pr
end Go.Proofs.Ytnmlfjaagbhhoaa
