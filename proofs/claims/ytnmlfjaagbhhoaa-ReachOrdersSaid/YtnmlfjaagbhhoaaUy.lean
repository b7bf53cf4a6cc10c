/- Mathematics of ReachOrders: an order of all of a process that may be. -/
import Derived.Test.YtnmlfjaagbhhoaaUf
import Derived.Test.YtnmlfjaagbhhoaaQc
import Derived.Test.YtnmlfjaagbhhoaaGo
import Derived.Test.YtnmlfjaagbhhoaaUd
namespace Go.Proofs.Ytnmlfjaagbhhoaa
open Go.RowKit

namespace Pr
section
variable {p : P} {o : Nat → Nat} {I : Nat → Prop}
theorem Inv.wt (h : Inv p o I) : Wt p := fun f hf => by
  obtain ⟨a, b, h1, h2, h3, h4, _⟩ := (h.flow f hf).ends
  exact ⟨a, b, h1, h2, h3, h4⟩
abbrev P.nxL (p : P) : Nat → List Nat := nxt p.n p.flows p.m
theorem nxL_mem (hw : Wt p) {u v : Nat} : v ∈ p.nxL u ↔ ∃ f ∈ p.flows, f.frm = (u : Int) ∧ f.til = (v : Int) := by
  show v ∈ nxt p.n p.flows p.m u ↔ _
  rw [← nx_nxt hw]
  unfold nx nxN
  rw [all_flows, List.mem_map]
  constructor
  · rintro ⟨f, hf, rfl⟩
    obtain ⟨h1, h2⟩ := List.mem_filter.1 hf
    have := hw.pos f h1
    exact ⟨f, h1, by simpa using h2, by omega⟩
  · rintro ⟨f, hf, h1, h2⟩
    exact ⟨f, List.mem_filter.2 ⟨hf, by rw [h1]; simp⟩, by rw [h2]; simp⟩
theorem nxL_lt (hw : Wt p) (u v : Nat) (h : v ∈ p.nxL u) : v < p.n := by
  rw [show p.nxL u = nx p u from (nx_nxt hw u).symm] at h
  exact nx_in hw u v h
theorem no_zero (h : Inv p o I) (u : Nat) : 0 ∉ p.nxL u := by
  intro hm
  obtain ⟨f, hf, _, h2⟩ := (nxL_mem h.wt).1 hm
  obtain ⟨a, b, _, h3, _, _, h5⟩ := (h.flow f hf).ends
  omega
theorem ordF_pre (n : Nat) (L : Nat → List Nat) : ∀ k (out : List Nat), ∃ l, Rc.ordF n L k out = out ++ l
  | 0, out => ⟨[], by simp [Rc.ordF]⟩
  | k + 1, out => by
    cases hx : Rc.nextOf n L out with
    | none => exact ⟨[], by rw [Rc.ordF_none hx]; simp⟩
    | some u =>
      obtain ⟨l, hl⟩ := ordF_pre n L k (out ++ [u])
      exact ⟨u :: l, by rw [Rc.ordF_some hx, hl]; simp⟩
theorem ord_first (h : Inv p o I) : (Rc.ord p.n p.nxL)[0]? = some 0 := by
  have hp := h.pos
  have hx : Rc.nextOf p.n p.nxL [] = some 0 := by
    refine Rc.nextOf_some hp ?_ (fun v hv => absurd hv (Nat.not_lt_zero v))
    rw [Rc.free_iff]
    exact ⟨List.not_mem_nil, fun u _ => .inr (no_zero h u)⟩
  obtain ⟨k, hk⟩ : ∃ k, p.n = k + 1 := ⟨p.n - 1, by omega⟩
  obtain ⟨l, hl⟩ := ordF_pre p.n p.nxL k ([] ++ [0])
  unfold Rc.ord
  have e : Rc.ordF p.n p.nxL p.n [] = Rc.ordF p.n p.nxL (k + 1) [] := congrArg (fun q => Rc.ordF p.n p.nxL q []) hk
  rw [e, Rc.ordF_some hx, hl]
  rfl
theorem ord_of_rk {r : Nat → Nat} (hr : Rk p r) : (Rc.ord p.n p.nxL).length = p.n :=
  Rc.ord_full (r := r) fun u v hu hv => by
    obtain ⟨f, hf, h1, h2⟩ := (nxL_mem hr.wt).1 hv
    obtain ⟨a, b, h3, h4, _, _, h7⟩ := hr f hf
    obtain rfl : a = u := by omega
    obtain rfl : b = v := by omega
    exact h7
theorem ord_flow (hw : Wt p) (hl : (Rc.ord p.n p.nxL).length = p.n) {f : Fl} (hf : f ∈ p.flows) : ∃ a b : Nat, f.frm = a ∧ f.til = b ∧ a < p.n ∧ b < p.n ∧ Rc.rank (Rc.ord p.n p.nxL) a < Rc.rank (Rc.ord p.n p.nxL) b := by
  obtain ⟨a, b, h1, h2, h3, h4⟩ := hw f hf
  exact ⟨a, b, h1, h2, h3, h4, (Rc.ord_top _ _).rank hl h3 h4 ((nxL_mem hw).2 ⟨f, hf, h1, h2⟩)⟩
theorem rank_lt (hl : (Rc.ord p.n p.nxL).length = p.n) {v : Nat} (hv : v < p.n) : Rc.rank (Rc.ord p.n p.nxL) v < p.n := by
  have h := (Rc.ord_top p.n p.nxL).all hl hv
  unfold Rc.rank
  have := List.idxOf_lt_length_of_mem h
  omega
theorem ord_long (h : Inv p (fun _ => 0) I) (hl : (Rc.ord p.n p.nxL).length = p.n) : 1 ≤ Rc.lg p.nxL (Rc.ord p.n p.nxL) ∧ Rc.lg p.nxL (Rc.ord p.n p.nxL) < p.n := by
  have hp := h.pos
  constructor
  · have hk := (h.start 0 hp).2 rfl
    have hc := (h.outs 0 hp).start hk
    unfold cO at hc
    have hc1 : 0 < p.flows.countP fun f => f.frm == ((0 : Nat) : Int) := by omega
    obtain ⟨f, hf, hf0⟩ := List.countP_pos_iff.1 hc1
    obtain ⟨a, b, h1, h2, h3, h4, _⟩ := (h.flow f hf).ends
    rw [beq_iff_eq] at hf0
    obtain rfl : a = 0 := by omega
    exact Rc.lg_ge (Rc.ord_top _ _) hl (fun u x hx => nxL_lt h.wt u x hx) hp ((nxL_mem h.wt).2 ⟨f, hf, h1, h2⟩)
  · have := Rc.lg_le (Rc.ord_top p.n p.nxL) (r := Rc.rank (Rc.ord p.n p.nxL)) (fun u v hu hv => (Rc.ord_top _ _).rank hl hu (nxL_lt h.wt u v hv) hv) (b := p.n - 1) (fun v hv => by have := rank_lt hl hv; omega)
    omega
end
/-- Places of those that stand first, as a row of numbers. -/
def atO (out : List Nat) (j v : Nat) : Int := if v ∈ out.take j then (Rc.rank out v : Int) else 0
theorem rank_get {out : List Nat} (hn : out.Nodup) {j : Nat} (hj : j < out.length) : Rc.rank out out[j] = j := by
  unfold Rc.rank
  exact List.Nodup.idxOf_getElem hn j hj
theorem atO_succ {out : List Nat} (hn : out.Nodup) {j : Nat} (hj : j < out.length) : (fun x => if x = out[j] then (j : Int) else atO out j x) = atO out (j + 1) := by
  funext x
  unfold atO
  rw [List.take_add_one, List.getElem?_eq_getElem hj]
  simp only [Option.toList_some, List.mem_append, List.mem_singleton]
  by_cases e : x = out[j]
  · subst e
    rw [if_pos rfl, if_pos (.inr rfl), rank_get hn hj]
  · rw [if_neg e]
    by_cases h : x ∈ out.take j
    · rw [if_pos h, if_pos (.inl h)]
    · rw [if_neg h, if_neg (fun h2 => h2.elim h e)]
theorem atO_full {out : List Nat} {v : Nat} (hv : v ∈ out) : atO out out.length v = (Rc.rank out v : Int) := by
  unfold atO
  rw [List.take_length, if_pos hv]
theorem wv_set (W : Nat → Int) (n i : Nat) (v : Int) : (wv W n).set i (.int .i64 v) = wv (fun x => if x = i then v else W x) n := by
  unfold wv
  rw [set_range]
  congr 1
  funext x
  show (if x = i then Value.int .i64 v else .int .i64 (W x)) = .int .i64 (if x = i then v else W x)
  by_cases e : x = i
  · rw [if_pos e, if_pos e]
  · rw [if_neg e, if_neg e]
theorem wv_zero (out : List Nat) (n : Nat) : wv (fun _ => 0) n = wv (atO out 0) n := by
  unfold wv atO
  simp
/-- None of those ahead is the next one. -/
theorem take_not {out : List Nat} (hn : out.Nodup) {j : Nat} (hj : j < out.length) : (((out.map Int.ofNat).take j).any fun y => y == (out[j] : Int)) = false := by
  rw [Bool.eq_false_iff]
  intro h
  obtain ⟨y, hy, he⟩ := List.any_eq_true.1 h
  rw [beq_iff_eq] at he
  rw [← List.map_take] at hy
  obtain ⟨x, hx, rfl⟩ := List.mem_map.1 hy
  have hxe : x = out[j] := by
    have h9 : Int.ofNat x = (x : Int) := rfl
    omega
  obtain ⟨i, hi, hie⟩ := List.mem_iff_getElem.1 hx
  rw [List.length_take] at hi
  rw [List.getElem_take] at hie
  have := (List.getElem_inj hn).1 (hie.trans hxe)
  omega
end Pr
end Go.Proofs.Ytnmlfjaagbhhoaa
