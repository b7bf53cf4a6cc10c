/- From the reading of an argument that is a slice of byte slices to what a walk is told of it. -/
import Derived.Test.YtfpennnbicclfaaFrame
import Derived.Test.YtfpennnbicclfaaOpen
import Derived.Test.YtfpennnbicclfaaPart
namespace Go.Proofs.Ytfpennnbicclfaa
open Go.ChangeShapes Go.WideShapes Go.RowKit

instance : Inhabited Part := ⟨⟨none, 0, 0, []⟩⟩
/-- A part that came in. -/
def PartIn (w : World) (p : Part) : Prop := InBytes w p.a p.n p.c p.l

theorem open_bytes_cell {H : Type} {enc : TypeId × Value → H} {P : Program} {W : World} {t e : TypeId} {n : Nat} {V : Value} {x : DataW H × List MemPlace}
    (ht : P.underlying t = some (.slice e)) (he : P.underlying e = some (.int .u8)) (hc : P.cellsOf e = 1)
    (h : DataW.trod enc P W 0 (fun _ => true) true n t [V] = some x) : ∃ p : Part, V = p.val ∧ PartIn W p := by
  have hs : ∃ a len cap, V = .slice a len cap := by
    rcases open_ints ht he hc h with ⟨hcs, _⟩ | ⟨x, l, c, zs, hcs, _⟩
    · exact ⟨none, 0, 0, by simpa using hcs⟩
    · exact ⟨some x, l, c, by simpa using hcs⟩
  obtain ⟨a, len, cap, rfl⟩ := hs
  obtain ⟨l, hl⟩ := open_bytes ht he hc (d := x.1) (ps := x.2) ⟨n, h⟩
  exact ⟨⟨a, len, cap, l⟩, rfl, hl⟩
theorem open_byteslices {H : Type} {enc : TypeId × Value → H} {P : Program} {W : World} {t e u : TypeId} {a : Option Addr} {len cap : Nat} {d : DataW H} {ps : List MemPlace}
    (ht : P.underlying t = some (.slice e)) (he : P.underlying e = some (.slice u)) (hu : P.underlying u = some (.int .u8)) (ce : P.cellsOf e = 1) (cu : P.cellsOf u = 1)
    (h : DataW.Trod enc P W 0 (fun _ => true) true t (.slice a len cap) d ps) : ∃ l : List Part, InRow W 1 a len cap (l.map Part.val) ∧ ∀ y ∈ l, PartIn W y :=
  open_row1 Part.val (PartIn W) ht ce (fun _ _ _ hx => open_bytes_cell he hu cu hx) h
end Go.Proofs.Ytfpennnbicclfaa
