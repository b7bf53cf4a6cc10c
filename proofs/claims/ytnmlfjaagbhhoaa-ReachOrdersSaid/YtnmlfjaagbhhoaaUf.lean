/- Mathematics: nodes that nothing leads to are taken away, one by one, in general: those that go are an order of theirs; all go just where there is an order of all. -/
import Derived.Test.YtnmlfjaagbhhoaaUc
import Derived.Test.YtnmlfjaagbhhoaaQd
namespace Go.Proofs.Ytnmlfjaagbhhoaa
open Go.RowKit

namespace Pr
/-- All flows lead from nodes to nodes. -/
def Wt (p : P) : Prop := ∀ f ∈ p.flows, ∃ a b : Nat, f.frm = a ∧ f.til = b ∧ a < p.n ∧ b < p.n
theorem Rk.wt {p : P} {r : Nat → Nat} (h : Rk p r) : Wt p := fun f hf => by
  obtain ⟨a, b, h1, h2, h3, h4, _⟩ := h f hf
  exact ⟨a, b, h1, h2, h3, h4⟩
theorem nx_in {p : P} (hw : Wt p) (u : Nat) : ∀ v ∈ nx p u, v < p.n := by
  intro v hv
  unfold nx nxN at hv
  rw [all_flows] at hv
  obtain ⟨f, hf, rfl⟩ := List.mem_map.1 hv
  obtain ⟨a, b, _, h2, _, h4⟩ := hw f (List.mem_filter.1 hf).1
  rw [h2]
  simpa using h4
theorem nx_nxt {p : P} (hw : Wt p) (u : Nat) : nx p u = nxt p.n p.flows p.m u := by
  unfold nx nxN nxt
  rw [all_flows]
  congr 1
  apply List.filter_congr
  intro f hf
  obtain ⟨a, b, h1, h2, h3, h4⟩ := hw f hf
  have : okF p.n f = true := okF_iff.2 ⟨a, b, h1, h2, h3, h4⟩
  rw [this, Bool.true_and]
/-- A list without doubles counts each flow once. -/
theorem outOf_eq (p : P) (v : Nat) (h : ∀ f ∈ p.flows, 0 ≤ f.til) : ∀ G : List Nat, G.Nodup → outOf p G v ≤ p.flows.countP fun f => G.any (fun u => f.frm == (u : Int)) && f.til == (v : Int)
  | [], _ => by simp [outOf]
  | u :: G, hn => by
    obtain ⟨hu, hn'⟩ := List.nodup_cons.1 hn
    have ih := outOf_eq p v h G hn'
    have e : outOf p (u :: G) v = (nx p u).count v + outOf p G v := by simp [outOf]
    rw [e, nx_count p u v h]
    refine Nat.le_trans (Nat.add_le_add_left ih _) ?_
    generalize p.flows = l
    induction l with
    | nil => simp
    | cons f l ih2 =>
      simp only [List.countP_cons, List.any_cons]
      have hx : (f.frm == (u : Int)) = true → (G.any fun u => f.frm == (u : Int)) = false := by
        intro h1
        rw [Bool.eq_false_iff]
        intro h2
        obtain ⟨u', h3, h4⟩ := List.any_eq_true.1 h2
        rw [beq_iff_eq] at h1 h4
        have : u = u' := by omega
        exact hu (this ▸ h3)
      generalize (f.frm == (u : Int)) = x1 at *
      generalize (f.til == (v : Int)) = x2 at *
      generalize (G.any fun u => f.frm == (u : Int)) = x3 at *
      cases x1 <;> cases x2 <;> cases x3 <;> simp at ih2 hx ⊢ <;> omega
theorem countP_all {α : Type} (P Q : α → Bool) : ∀ l : List α, (∀ x ∈ l, P x = true → Q x = true) → l.countP Q ≤ l.countP P → ∀ x ∈ l, Q x = true → P x = true
  | [], _, _ => fun x h => nomatch h
  | y :: l, hi, hc => by
    have hm : l.countP P ≤ l.countP Q := List.countP_mono_left fun x hx => hi x (by simp [hx])
    have hy := hi y (by simp)
    simp only [List.countP_cons] at hc
    intro x hx hq
    rcases List.mem_cons.1 hx with rfl | hx
    · cases hp : P x with
      | true => rfl
      | false =>
        rw [hp, hq] at hc
        simp at hc
        omega
    · refine countP_all P Q l (fun x hx => hi x (by simp [hx])) ?_ x hx hq
      cases hp : P y <;> cases hq' : Q y <;> rw [hp, hq'] at hc <;> simp at hc hy ⊢
      · exact hc
      · omega
      · rw [hp, hq'] at hy; simp at hy
      · omega
/-- Who is gone stands behind all that lead to it. -/
structure KhT (p : P) (G : List Nat) (W : Nat → Int) (k t : Nat) : Prop where
  kh : Kh p G W k t
  lead : ∀ i v, G[i]? = some v → ∀ u, u < p.n → v ∈ nx p u → u ∈ G.take i
section
variable {p : P} {G : List Nat} {W : Nat → Int} {k t : Nat}
theorem no_in {v : Nat} (h0 : wyN p p.m v = 0) (hpos : ∀ f ∈ p.flows, 0 ≤ f.til) (u : Nat) : v ∉ nx p u := by
  intro hv
  unfold nx nxN at hv
  rw [all_flows] at hv
  obtain ⟨f, hf, hfv⟩ := List.mem_map.1 hv
  have hf' := (List.mem_filter.1 hf).1
  unfold wyN at h0
  rw [all_flows, List.countP_eq_zero] at h0
  have := hpos f hf'
  exact h0 f hf' (by rw [beq_iff_eq]; omega)
theorem Wt.pos (hw : Wt p) : ∀ f ∈ p.flows, 0 ≤ f.til := fun f hf => by
  obtain ⟨a, b, _, h2, _⟩ := hw f hf
  omega
theorem KhT.start (hw : Wt p) : KhT p ((List.range p.n).filter fun v => wyN p p.m v == 0) (fun v => (wyN p p.m v : Int)) 0 0 where
  kh := Kh.start p
  lead i v hi u _ hv := by
    have hm := (List.mem_filter.1 (List.mem_of_getElem? hi)).2
    rw [beq_iff_eq] at hm
    exact absurd hv (no_in hm hw.pos u)
theorem KhT.next (h : KhT p G W k t) (hk : k < G.length) (ht : (nx p G[k]).length ≤ t) : KhT p G W (k + 1) 0 := ⟨h.kh.next hk ht, h.lead⟩
theorem KhT.step2 (hw : Wt p) (h : KhT p G W k t) {u v : Nat} (hu : G[k]? = some u) (ht : (nx p u)[t]? = some v) (hv : v < p.n) :
    KhT p (if W v - 1 = 0 then G ++ [v] else G) (fun x => if x = v then W v - 1 else W x) k (t + 1) := by
  have h2 := h.kh.step2 hu ht hv
  by_cases hz : W v - 1 = 0
  · rw [if_pos hz] at h2 ⊢
    refine ⟨h2, fun i x hi y hy hx => ?_⟩
    by_cases hil : i < G.length
    · rw [List.getElem?_append_left hil] at hi
      rw [List.take_append_of_le_length (Nat.le_of_lt hil)]
      exact h.lead i x hi y hy hx
    · have hig : i = G.length := by
        have := (List.getElem?_eq_some_iff.1 hi).1
        rw [List.length_append, List.length_singleton] at this
        omega
      subst hig
      rw [List.getElem?_append_right (Nat.le_refl _), Nat.sub_self] at hi
      obtain rfl : v = x := by simpa using hi
      rw [List.take_append_of_le_length (Nat.le_refl _), List.take_length]
      obtain ⟨hk, hke⟩ := List.getElem?_eq_some_iff.1 hu
      obtain ⟨ht', hte⟩ := List.getElem?_eq_some_iff.1 ht
      have hc := h.kh.cnt v hv
      rw [dif_pos hk, hke] at hc
      -- the flows to v: those of the ones dealt with, and of u
      have hcnt : ((nx p u).take t).count v + 1 ≤ (nx p u).count v := by
        have e3 : ((nx p u).take (t + 1)).count v = ((nx p u).take t).count v + 1 := by
          rw [List.take_add_one, List.count_append, List.getElem?_eq_getElem ht', hte]
          simp
        rw [← e3]
        exact List.Sublist.count_le _ (List.take_sublist _ _)
      have hout : outOf p (G.take (k + 1)) v = outOf p (G.take k) v + (nx p u).count v := by
        unfold outOf
        rw [List.take_add_one, List.map_append, List.sum_append, hu]
        simp
      have hnd : (G.take (k + 1)).Nodup := List.Sublist.nodup (List.take_sublist _ _) h.kh.nodup
      have hle := outOf_eq p v hw.pos (G.take (k + 1)) hnd
      have hge : wyN p p.m v ≤ outOf p (G.take (k + 1)) v := by omega
      have hmem := countP_all (fun f : Fl => (G.take (k + 1)).any (fun u => f.frm == (u : Int)) && f.til == (v : Int)) (fun f : Fl => f.til == (v : Int)) p.flows
        (fun f _ h1 => (Bool.and_eq_true _ _ ▸ h1 : _ ∧ _).2) (by
          have e : wyN p p.m v = p.flows.countP fun f => f.til == (v : Int) := by unfold wyN; rw [all_flows]
          rw [← e]
          omega)
      unfold nx nxN at hx
      rw [all_flows] at hx
      obtain ⟨f, hf, hfv⟩ := List.mem_map.1 hx
      obtain ⟨hf1, hf2⟩ := List.mem_filter.1 hf
      have hpf := hw.pos f hf1
      have h9 := hmem f hf1 (by rw [beq_iff_eq]; omega)
      rw [Bool.and_eq_true, List.any_eq_true] at h9
      obtain ⟨⟨y', hy', hyf⟩, _⟩ := h9
      rw [beq_iff_eq] at hyf hf2
      have : y = y' := by omega
      subst this
      exact List.mem_of_mem_take hy'
  · rw [if_neg hz] at h2 ⊢
    exact ⟨h2, h.lead⟩
/-- All are gone just where there is an order of all. -/
theorem KhT.done (hw : Wt p) (h : KhT p G W k 0) (hk : k = G.length) : G.length < p.n ↔ (Rc.ord p.n (nxt p.n p.flows p.m)).length < p.n := by
  have hL : nx p = nxt p.n p.flows p.m := funext fun u => nx_nxt hw u
  have htop : Rc.Top p.n (nxt p.n p.flows p.m) G := hL ▸ ⟨h.kh.nodup, h.kh.lt, h.lead⟩
  have hot := Rc.ord_top p.n (nxt p.n p.flows p.m)
  have hlt := hot.len
  have hgl := h.kh.len
  constructor
  · intro hg
    rcases Nat.lt_or_ge (Rc.ord p.n (nxt p.n p.flows p.m)).length p.n with h1 | h1
    · exact h1
    · have hfull : (Rc.ord p.n (nxt p.n p.flows p.m)).length = p.n := by omega
      have hrk : Rk p (Rc.rank (Rc.ord p.n (nxt p.n p.flows p.m))) := fun f hf => by
        obtain ⟨a, b, h1, h2, h3, h4⟩ := hw f hf
        refine ⟨a, b, h1, h2, h3, h4, hot.rank hfull h3 h4 ?_⟩
        rw [← nx_nxt hw]
        unfold nx nxN
        rw [all_flows]
        exact List.mem_map.2 ⟨f, List.mem_filter.2 ⟨hf, by rw [h1]; simp⟩, by rw [h2]; simp⟩
      have := h.kh.all hk hrk
      omega
  · intro ho
    rcases Nat.lt_or_ge G.length p.n with h1 | h1
    · exact h1
    · have hfull : G.length = p.n := by omega
      have := Rc.ord_full (n := p.n) (L := nxt p.n p.flows p.m) (r := Rc.rank G) (fun u v hu hv => htop.rank hfull hu (by rw [← nx_nxt hw] at hv; exact nx_in hw u v hv) hv)
      omega
end
end Pr
end Go.Proofs.Ytnmlfjaagbhhoaa
