/- Tasks that may be: what keeps them so. -/
import Derived.Test.YtmmcfgmnfmkdbaaMd
namespace Go.Proofs.Ytmmcfgmnfmkdbaa
open Go.RowKit

namespace Ls
theorem good_lit (id ins tok nod : Int) (top : ByteArray) (prio : Int) (wkr : ByteArray) (epo exp aft ret : Int) (bro : Bool) (h1 : 1 ≤ id) (h2 : 1 ≤ ins) (h3 : 1 ≤ tok) (h4 : 0 ≤ nod) (h5 : Vr.name top.data.toList = true) (h6 : top.size ≤ 1000) (h7 : 0 ≤ prio ∧ prio ≤ 9) (h8 : 0 ≤ epo ∧ epo ≤ 60)
    (h9 : 0 ≤ exp ∧ exp ≤ 2199023255552) (h10 : 0 ≤ aft ∧ aft ≤ 2199023255552) (h11 : 0 ≤ ret ∧ ret ≤ 9) (h12 : bro = decide (ret = 0)) (h13 : (wkr.size = 0 ∧ exp = 0) ∨ (Vr.name wkr.data.toList = true ∧ 0 < wkr.size ∧ wkr.size ≤ 1000 ∧ 0 < exp ∧ 0 < epo)) :
    T.Good ⟨id, ins, tok, nod, top, prio, wkr, epo, exp, aft, ret, bro⟩ := ⟨h1, h2, h3, h4, h5, h6, h7, h8, h9, h10, h11, h12, h13⟩
theorem T.Good.hold {x : T} (h : x.Good) {s : ByteArray} {e p : Int} (h1 : Vr.name s.data.toList = true) (h2 : 0 < s.size) (h3 : s.size ≤ 1000) (h4 : 0 < e) (h5 : e ≤ 2199023255552) (h6 : 0 < p) (h7 : p ≤ 60) : T.Good { x with wkr := s, exp := e, epo := p } :=
  ⟨h.id, h.ins, h.tok, h.nod, h.top, h.topS, h.prio, ⟨by show 0 ≤ p; omega, h7⟩, ⟨by show 0 ≤ e; omega, h5⟩, h.aft, h.ret, h.bro, .inr ⟨h1, h2, h3, h4, h6⟩⟩
theorem T.Good.broken {x : T} (h : x.Good) : T.Good { x with ret := 0, bro := true } :=
  ⟨h.id, h.ins, h.tok, h.nod, h.top, h.topS, h.prio, h.epo, h.exp, h.aft, ⟨by show (0 : Int) ≤ 0; omega, by show (0 : Int) ≤ 9; omega⟩, rfl, h.held⟩
theorem T.Good.leave {x : T} (h : x.Good) : x.leave.Good :=
  ⟨h.id, h.ins, h.tok, h.nod, h.top, h.topS, h.prio, h.epo, ⟨by show (0 : Int) ≤ 0; omega, by show (0 : Int) ≤ _; omega⟩, h.aft, h.ret, h.bro, .inl ⟨rfl, rfl⟩⟩
theorem T.Good.failed {x : T} (h : x.Good) {r now wait : Int} (h1 : 0 ≤ r) (h2 : r ≤ 9) (h3 : 0 ≤ now + wait) (h4 : now + wait ≤ 2199023255552) : (x.failed r now wait).Good :=
  ⟨h.id, h.ins, h.tok, h.nod, h.top, h.topS, h.prio, h.epo, ⟨by show (0 : Int) ≤ 0; omega, by show (0 : Int) ≤ _; omega⟩, ⟨h3, h4⟩, ⟨h1, h2⟩, (by show (r == 0) = decide (r = 0); rw [Bool.eq_iff_iff]; simp), .inl ⟨rfl, rfl⟩⟩
theorem free_iff (x : T) (now : Int) : x.free now = true ↔ x.bro = false ∧ x.epo < 60 ∧ x.aft ≤ now ∧ x.exp ≤ now := by
  unfold T.free T.avail T.due
  rw [Bool.and_eq_true, Bool.and_eq_true, decide_eq_true_iff, decide_eq_true_iff]
  constructor
  · rintro ⟨⟨h1, h2⟩, h3⟩
    refine ⟨by simpa using h1, h2, ?_⟩
    by_cases h : x.aft < x.exp
    · rw [if_pos h] at h3; omega
    · rw [if_neg h] at h3; omega
  · rintro ⟨h1, h2, h3, h4⟩
    refine ⟨⟨by rw [h1]; rfl, h2⟩, ?_⟩
    by_cases h : x.aft < x.exp
    · rw [if_pos h]; omega
    · rw [if_neg h]; omega
theorem free_eq {x : T} {now : Int} {b : Bool} (h : (x.bro = false ∧ x.epo < 60 ∧ x.aft ≤ now ∧ x.exp ≤ now) ↔ b = true) : x.free now = b := by
  rw [Bool.eq_iff_iff, free_iff]
  exact h
end Ls
end Go.Proofs.Ytmmcfgmnfmkdbaa
