/- Package reach: From, To. -/
import Derived.Test.YtnmlfjaagbhhoaaQf
namespace Go.Proofs.Ytnmlfjaagbhhoaa
open Go.RowKit

namespace Pr
section
variable (s : ByteArray) (A : Option Addr) (n c : Nat) (F : Option Addr) (m d : Nat) (fl : List Fl)
theorem nxt_len' (n : Nat) (fl : List Fl) {m : Nat} (hm : m ≤ 100000) (u : Nat) : (nxt n fl m u).length ≤ 100000 := Nat.le_trans (nxt_len n fl m u) hm
theorem bck_len' (n : Nat) (fl : List Fl) {m : Nat} (hm : m ≤ 100000) (u : Nat) : (bck n fl m u).length ≤ 100000 := Nat.le_trans (bck_len n fl m u) hm
theorem MarksOut.after {n : Nat} {Q : Nat → Prop} {w w1 w' : World} {e : Ending} (hb : Below w.heap.size w w1) (h : MarksOut n Q w1 e w') : MarksOut n Q w e w' := by
  obtain ⟨⟨g, f, h1, h2, h3, h4⟩, h5⟩ := h
  exact ⟨⟨g, f, h1, h2, Nat.le_trans hb.size h3, h4⟩, hb.trans (h5.mono hb.size)⟩
end
end Pr
end Go.Proofs.Ytnmlfjaagbhhoaa
