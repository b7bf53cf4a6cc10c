/- QueueOrders: what a pick's order says (mathematics). -/
import Derived.Test.YtglmhpmiphkjlaaLc2
import Derived.Test.YtglmhpmiphkjlaaLd2
import Derived.Test.YtglmhpmiphkjlaaLt
import Derived.Test.YtglmhpmiphkjlaaLv
namespace Go.Proofs.Ytglmhpmiphkjlaa
open Go.RowKit

namespace Qu
open Ls (T)
theorem cand_in {L : List T} {now : Int} {ts : List ByteArray} {x : T} (h : x ∈ cand L now ts) : x ∈ L ∧ x.free now = true ∧ asks ts x.top = true := by
  unfold cand at h
  obtain ⟨h1, h2⟩ := List.mem_filter.1 h
  rw [Bool.and_eq_true] at h2
  exact ⟨h1, h2.2, h2.1⟩
theorem in_cand {L : List T} {now : Int} {ts : List ByteArray} {x : T} (h1 : x ∈ L) (h2 : x.free now = true) (h3 : asks ts x.top = true) : x ∈ cand L now ts := by
  unfold cand
  exact List.mem_filter.2 ⟨h1, by rw [h2, h3]; rfl⟩
theorem asc_cand {L : List T} {now : Int} {ts : List ByteArray} (h : Asc L) : Asc (cand L now ts) := h.filter _
theorem nodup_cand {L : List T} {now : Int} {ts : List ByteArray} (h : Asc L) : (cand L now ts).Nodup := (asc_cand h).imp fun {a b} hab e => by rw [e] at hab; omega
/-- What the chapter says of a pick, place by place. -/
structure Picked (L : List T) (now most : Int) (ts : List ByteArray) (r : List T) : Prop where
  few : (r.length : Int) ≤ most
  free : ∀ i, i < r.length → (r[i]!).free now = true ∧ asks ts (r[i]!).top = true
  order : ∀ i, 0 < i → i < r.length → (r[i]!).prio ≤ (r[i - 1]!).prio ∧ ((r[i]!).prio = (r[i - 1]!).prio → (r[i - 1]!).id < (r[i]!).id)
  rest : ∀ x ∈ L, x.free now = true → asks ts x.top = true → (∀ k, k < r.length → (r[k]!).id ≠ x.id) → (r.length : Int) = most ∧ (0 < most → x.prio ≤ (r[most.toNat - 1]!).prio ∧ (x.prio = (r[most.toNat - 1]!).prio → (r[most.toNat - 1]!).id ≤ x.id))
theorem pair_at {r : List T} {p : T → T → Prop} (h : r.Pairwise p) {i j : Nat} (hij : i < j) (hj : j < r.length) : p r[i]! r[j]! := by
  rw [getElem!_pos r j hj, getElem!_pos r i (by omega)]
  exact List.pairwise_iff_getElem.1 h i j (by omega) hj hij
theorem IsPick.picked {L : List T} {now most : Int} {ts : List ByteArray} {r : List T} (hL : Asc L) (hm : 0 ≤ most) (h : IsPick L now most ts r) : Picked L now most ts r := by
  obtain ⟨s, hp, hw, rfl⟩ := h
  have hs : s.Pairwise (fun a b => b.prio ≤ a.prio ∧ (b.prio = a.prio → a.id < b.id)) := by
    have hnd : s.Nodup := hp.nodup_iff.2 (nodup_cand hL)
    refine List.Pairwise.imp_of_mem (fun {a b} ha hb hab => ?_) (hw.and hnd)
    obtain ⟨h1, h2⟩ := hab
    unfold Ahead at h1
    have h3 : a.id ≠ b.id := fun e => h2 (asc_inj (asc_cand hL) (hp.mem_iff.1 ha) (hp.mem_iff.1 hb) e)
    omega
  have hat : ∀ i, i < (s.take most.toNat).length → (s.take most.toNat)[i]! = s[i]! ∧ i < s.length ∧ i < most.toNat := fun i hi => by
    rw [getElem!_pos _ i hi]
    rw [List.length_take] at hi
    rw [List.getElem_take, getElem!_pos s i (by omega)]
    exact ⟨rfl, by omega, by omega⟩
  refine ⟨by rw [List.length_take]; omega, fun i hi => ?_, fun i h0 hi => ?_, fun x hx h1 h2 h3 => ?_⟩
  · obtain ⟨e, h4, _⟩ := hat i hi
    rw [e, getElem!_pos s i h4]
    exact (cand_in (hp.mem_iff.1 (List.getElem_mem h4))).2
  · obtain ⟨e, h4, _⟩ := hat i hi
    obtain ⟨e2, _, _⟩ := hat (i - 1) (by omega)
    rw [e, e2]
    exact pair_at hs (by omega) h4
  · obtain ⟨j, hj, e⟩ := List.getElem_of_mem (hp.mem_iff.2 (in_cand hx h1 h2))
    have hjl : (s.take most.toNat).length ≤ j := Nat.le_of_not_lt fun hlt => h3 j hlt (by rw [(hat j hlt).1, getElem!_pos s j hj, e])
    have hlen : (s.take most.toNat).length = most.toNat := by
      rw [List.length_take] at *
      omega
    refine ⟨by rw [hlen]; omega, fun h0 => ?_⟩
    obtain ⟨e2, h5, _⟩ := hat (most.toNat - 1) (by omega)
    have h6 := pair_at hs (i := most.toNat - 1) (j := j) (by omega) hj
    rw [getElem!_pos s j hj, e, ← e2] at h6
    refine ⟨h6.1, fun h7 => ?_⟩
    have := h6.2 h7
    omega
end Qu
end Go.Proofs.Ytglmhpmiphkjlaa
