/- Walks of leaseholdmake: a gateway, two or three ways, a gateway again. -/
import Derived.Test.YtlmlhjepolefaaaGx
namespace Go.Proofs.Ytlmlhjepolefaaa
open Go.RowKit

namespace Pr
/-- What a way is made of. -/
def wayC (m open_ : Int) (i : Nat) : ByteArray := if open_ = 6 then no else bs (conds (wrap64 (m.tdiv 3 + i)))
def wayQ (b : Nat) (m : Int) (i : Nat) (p : P) : P := if nmb (m / 2 ^ i) 2 = 0 then (p.node (Nd.work (bs (topics (wrap64 (m + i)))) i 2)).join p.n b no else p
def wayT (b : Nat) (m : Int) (i : Nat) (p : P) : Nat := if nmb (m / 2 ^ i) 2 = 0 then p.n else b
theorem way_eq (a b : Nat) (m open_ : Int) (i : Nat) (p : P) : way a b m open_ i p = if open_ ≠ 6 ∧ i = 0 ∧ 0 < nmb (m.tdiv 11) 4 then ((wayQ b m i p).join a (wayT b m i p) (wayC m open_ i)).set a (fun x => { x with dflt := (wayQ b m i p).m }) else (wayQ b m i p).join a (wayT b m i p) (wayC m open_ i) := rfl
theorem wayQ_size (b : Nat) (m : Int) (i : Nat) (p : P) : p.n ≤ (wayQ b m i p).n ∧ (wayQ b m i p).n ≤ p.n + 1 ∧ (wayQ b m i p).m ≤ p.m + 1 := by
  unfold wayQ
  split
  · rw [join_n, node_n, join_m, node_m]; omega
  · omega
theorem way_size (a b : Nat) (m open_ : Int) (i : Nat) (p : P) : p.n ≤ (way a b m open_ i p).n ∧ (way a b m open_ i p).n ≤ p.n + 1 ∧ (way a b m open_ i p).m ≤ p.m + 2 := by
  have h := wayQ_size b m i p
  rw [way_eq]
  split
  · rw [set_n, set_m, join_n, join_m]; omega
  · rw [join_n, join_m]; omega
theorem ways_size (a b : Nat) (m open_ : Int) (p : P) : ∀ i, p.n ≤ (ways a b m open_ i p).n ∧ (ways a b m open_ i p).n ≤ p.n + i ∧ (ways a b m open_ i p).m ≤ p.m + 2 * i
  | 0 => ⟨Nat.le_refl _, Nat.le_refl _, Nat.le_refl _⟩
  | i + 1 => by
    have h1 := ways_size a b m open_ p i
    have h2 := way_size a b m open_ i (ways a b m open_ i p)
    have e : ways a b m open_ (i + 1) p = way a b m open_ i (ways a b m open_ i p) := rfl
    rw [e]; omega
section
variable {w : World} {base q : Nat} {p : P}
end
end Pr
end Go.Proofs.Ytlmlhjepolefaaa
