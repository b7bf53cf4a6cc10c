/- Package queue: order. -/
import Derived.Test.YtdmbbbljamjhkaaLk
namespace Go.Proofs.Ytdmbbbljamjhkaa
open Go.RowKit

namespace Qu
open Ls (T)
/-- What order tells of two tasks. -/
def cf (x y : T) : Int := if Lib.compareInt y.prio x.prio = 0 then Lib.compareInt x.id y.id else Lib.compareInt y.prio x.prio
theorem Cel.all {w : World} {q : Nat} {x : T} (h : Cel w q x.cells) : w.cell? ⟨q, 0, none⟩ = some (.int .i64 x.id) ∧ w.cell? ⟨q, 1, none⟩ = some (.int .i64 x.ins) ∧ w.cell? ⟨q, 2, none⟩ = some (.int .i64 x.tok) ∧ w.cell? ⟨q, 3, none⟩ = some (.int .i64 x.nod) ∧ w.cell? ⟨q, 4, none⟩ = some (.string x.top) ∧ w.cell? ⟨q, 5, none⟩ = some (.int .i64 x.prio) ∧ w.cell? ⟨q, 6, none⟩ = some (.string x.wkr) ∧ w.cell? ⟨q, 7, none⟩ = some (.int .i64 x.epo) ∧ w.cell? ⟨q, 8, none⟩ = some (.int .i64 x.exp) ∧ w.cell? ⟨q, 9, none⟩ = some (.int .i64 x.aft) ∧ w.cell? ⟨q, 10, none⟩ = some (.int .i64 x.ret) ∧ w.cell? ⟨q, 11, none⟩ = some (.bool x.bro) := by
  obtain ⟨⟨k0, k1, k2, k3, k4, k5, k6, k7, k8, k9, k10, k11⟩, _⟩ := Ls.dz_facts h
  exact ⟨k0, k1, k2, k3, k4, k5, k6, k7, k8, k9, k10, k11⟩
end Qu
end Go.Proofs.Ytdmbbbljamjhkaa
