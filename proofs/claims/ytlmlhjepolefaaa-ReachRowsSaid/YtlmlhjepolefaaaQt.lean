/- Package reach: From, To. -/
import Derived.Test.YtlmlhjepolefaaaQf
namespace Go.Proofs.Ytlmlhjepolefaaa
open Go.RowKit

namespace Pr
section
variable (s : ByteArray) (A : Option Addr) (n c : Nat) (F : Option Addr) (m d : Nat) (fl : List Fl)
theorem nxt_len' (n : Nat) (fl : List Fl) {m : Nat} (hm : m ≤ 100000) (u : Nat) : (nxt n fl m u).length ≤ 100000 := Nat.le_trans (nxt_len n fl m u) hm
theorem bck_len' (n : Nat) (fl : List Fl) {m : Nat} (hm : m ≤ 100000) (u : Nat) : (bck n fl m u).length ≤ 100000 := Nat.le_trans (bck_len n fl m u) hm
theorem MarksOut.after {n : Nat} {Q : Nat → Prop} {w w1 w' : World} {e : Ending} (hb : Below w.heap.size w w1) (h : MarksOut n Q w1 e w') : MarksOut n Q w e w' := by
  obtain ⟨⟨g, f, h1, h2, h3, h4⟩, h5⟩ := h
  exact ⟨⟨g, f, h1, h2, Nat.le_trans hb.size h3, h4⟩, hb.trans (h5.mono hb.size)⟩
set_option maxHeartbeats 800000 in
theorem rfrom_any (node : Int) (w : World) (hF : KRow Fl.κ w w.heap.size F m fl) (hn : n ≤ 100000) (hm : m ≤ 100000) :
    Calls Try.prog 6 #[.agg #[.string s, .slice A n c, .slice F m d], .int .i64 node] w (MarksOut n (Comes n (nxt n fl m) node) w) := by
  have hba : Below w.heap.size w (w.alloc (.cells #[.string s, .slice A n c, .slice F m d] 27)) := (Below.refl _ _).alloc (Nat.le_refl _) _
  have HC := Lib.hid (Cel.lit w #[.string s, .slice A n c, .slice F m d] 27)
  have HFa := Lib.hid ((hF.below hba (Nat.le_refl _)).mono hba.size)
  have HB := Lib.hid hba
  clear hF hba
  go_enter Try.func6, Try.ntmps6
  go_upto_region 1 with (fail)
  generalize w.alloc _ = wa at *
  obtain ⟨⟨z0, z1, z2⟩, _⟩ := tri_facts HC.out
  go_wp2_with fail
  refine (onward_any s A n c F m d fl wa HFa.out hn hm).mono ?_
  rintro e w1 ⟨⟨nb, B, rfl, hnx, _⟩, hb1⟩
  have HR := Lib.hid (reached_any nb B w1.heap.size n (nxt n fl m) node w1 hnx (Nat.le_refl _) hn (nxt_len' n fl hm) (fun u v h => (nxt_lt h).2))
  have HB1 := Lib.hid (HB.out.trans (hb1.mono HB.out.size))
  clear hnx hb1 z0 z1 z2
  go_wp2_with fail
  refine HR.out.mono ?_
  rintro e w2 ⟨⟨g, f, rfl, h2, h3, h4⟩, h5⟩
  have HF : Hid (MarksOut n (Comes n (nxt n fl m) node) w (.returned (.slice (some ⟨g, 0, none⟩) n n)) w2) := MarksOut.after HB1.out ⟨⟨g, f, rfl, h2, h3, h4⟩, h5⟩
  clear h2 h3 h4 h5
  go_wp2
  go_ret
  exact HF.out
set_option maxHeartbeats 800000 in
theorem rto_any (node : Int) (w : World) (hF : KRow Fl.κ w w.heap.size F m fl) (hn : n ≤ 100000) (hm : m ≤ 100000) :
    Calls Try.prog 7 #[.agg #[.string s, .slice A n c, .slice F m d], .int .i64 node] w (MarksOut n (Comes n (bck n fl m) node) w) := by
  have hba : Below w.heap.size w (w.alloc (.cells #[.string s, .slice A n c, .slice F m d] 27)) := (Below.refl _ _).alloc (Nat.le_refl _) _
  have HC := Lib.hid (Cel.lit w #[.string s, .slice A n c, .slice F m d] 27)
  have HFa := Lib.hid ((hF.below hba (Nat.le_refl _)).mono hba.size)
  have HB := Lib.hid hba
  clear hF hba
  go_enter Try.func7, Try.ntmps7
  go_upto_region 1 with (fail)
  generalize w.alloc _ = wa at *
  obtain ⟨⟨z0, z1, z2⟩, _⟩ := tri_facts HC.out
  go_wp2_with fail
  refine (backward_any s A n c F m d fl wa HFa.out hn hm).mono ?_
  rintro e w1 ⟨⟨nb, B, rfl, hnx, _⟩, hb1⟩
  have HR := Lib.hid (reached_any nb B w1.heap.size n (bck n fl m) node w1 hnx (Nat.le_refl _) hn (bck_len' n fl hm) (fun u v h => (bck_lt h).2))
  have HB1 := Lib.hid (HB.out.trans (hb1.mono HB.out.size))
  clear hnx hb1 z0 z1 z2
  go_wp2_with fail
  refine HR.out.mono ?_
  rintro e w2 ⟨⟨g, f, rfl, h2, h3, h4⟩, h5⟩
  have HF : Hid (MarksOut n (Comes n (bck n fl m) node) w (.returned (.slice (some ⟨g, 0, none⟩) n n)) w2) := MarksOut.after HB1.out ⟨⟨g, f, rfl, h2, h3, h4⟩, h5⟩
  clear h2 h3 h4 h5
  go_wp2
  go_ret
  exact HF.out
end
end Pr
end Go.Proofs.Ytlmlhjepolefaaa
