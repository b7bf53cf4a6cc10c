/- QueueKeeps: mathematics; calls that keep a row of numbers. -/
import Derived.Test.YtlcchjpelfjheaaLd
import Derived.Test.YtlcchjpelfjheaaLs
namespace Go.Proofs.Ytlcchjpelfjheaa
open Go.RowKit

namespace Qu
open Ls (T)
def st : ByteArray := ⟨#[116]⟩
def tk (k : Nat) (p : Int) : T := ⟨(k : Int), 1, 1, 0, st, p, ⟨#[]⟩, 0, 0, 0, 1, false⟩
theorem out_has {n : Int} : ∀ {l : List T}, Asc l → (out n l).length + (if has n l = true then 1 else 0) = l.length
  | [], _ => rfl
  | z :: r, h => by
    obtain ⟨h1, h2⟩ := List.pairwise_cons.1 h
    have ih := out_has (n := n) h2
    unfold out has at *
    rw [List.filter_cons, List.any_cons]
    by_cases e : z.id = n
    · have h3 : (r.any fun y => decide (y.id = n)) = false := by
        rw [List.any_eq_false]
        intro y hy
        have := h1 y hy
        rw [decide_eq_true_iff]
        omega
      rw [h3] at ih ⊢
      rw [decide_eq_true e]
      simp at ih ⊢
      exact ih
    · rw [decide_eq_false e]
      simp only [Bool.not_false, if_true, List.length_cons, Bool.false_or]
      omega
theorem out_out (n : Int) (l : List T) : out n (out n l) = out n l := by
  unfold out
  rw [List.filter_filter]
  exact List.filter_congr fun x _ => by cases decide (x.id = n) <;> rfl
theorem ins_has {x : T} : ∀ {l : List T}, Asc l → (ins x l).length = if has x.id l = true then l.length else l.length + 1
  | [], _ => rfl
  | z :: r, h => by
    obtain ⟨h1, h2⟩ := List.pairwise_cons.1 h
    have ih := ins_has (x := x) h2
    have e1 : ins x (z :: r) = if x.id < z.id then x :: z :: r else if x.id = z.id then x :: r else z :: ins x r := rfl
    rw [e1]
    unfold has at *
    rw [List.any_cons]
    by_cases hlt : x.id < z.id
    · have h3 : (r.any fun y => decide (y.id = x.id)) = false := by
        rw [List.any_eq_false]
        intro y hy
        have := h1 y hy
        rw [decide_eq_true_iff]
        omega
      rw [if_pos hlt, h3, decide_eq_false (show ¬ z.id = x.id by omega)]
      rfl
    · rw [if_neg hlt]
      by_cases heq : x.id = z.id
      · rw [if_pos heq, decide_eq_true heq.symm]
        rfl
      · rw [if_neg heq, decide_eq_false (fun e => heq e.symm), List.length_cons, ih, Bool.false_or]
        split <;> rfl
/-- What stands in the queue, by the row of what was put last. -/
structure KInv (L : List T) (S : List Int) (many : Nat) : Prop where
  asc : Asc L
  len : S.length = 10
  mem : ∀ x ∈ L, ∃ k : Nat, 1 ≤ k ∧ k ≤ 9 ∧ x = tk k S[k]! ∧ S[k]! ≠ 0
  all : ∀ k : Nat, 1 ≤ k → k ≤ 9 → S[k]! ≠ 0 → tk k S[k]! ∈ L
  cnt : L.length = many
  pos : ∀ k : Nat, k < 10 → 0 ≤ S[k]! ∧ S[k]! ≤ 9
theorem KInv.start : KInv [] (List.replicate 10 0) 0 := by
  have h : ∀ k : Nat, k < 10 → (List.replicate 10 (0 : Int))[k]! = 0 := fun k hk => by
    rw [getElem!_pos _ k (by simpa using hk), List.getElem_replicate]
  exact ⟨List.Pairwise.nil, rfl, fun _ h => (by cases h), fun k h1 h2 h3 => absurd (h k (by omega)) h3, rfl, fun k hk => by rw [h k hk]; omega⟩
theorem KInv.has {L : List T} {S : List Int} {many k : Nat} (h : KInv L S many) (h1 : 1 ≤ k) (h2 : k ≤ 9) : has (k : Int) L = true ↔ S[k]! ≠ 0 := by
  rw [has_iff]
  constructor
  · rintro ⟨x, hx, he⟩
    obtain ⟨k', h3, h4, rfl, h5⟩ := h.mem x hx
    have h6 : (k' : Int) = (k : Int) := he
    have : k' = k := by omega
    subst this
    exact h5
  · intro h3
    exact ⟨_, h.all k h1 h2 h3, rfl⟩
theorem set_at {S : List Int} {k j : Nat} (_ : k < S.length) (p : Int) (hj : j < S.length) : (S.set k p)[j]! = if k = j then p else S[j]! := by
  rw [getElem!_pos _ j (by simpa using hj), List.getElem_set, getElem!_pos S j hj]
theorem KInv.step {L : List T} {S : List Int} {many k : Nat} {p : Int} (h : KInv L S many) (h1 : 1 ≤ k) (h2 : k ≤ 9) (h3 : 1 ≤ p) (h4 : p ≤ 9) : KInv (ins (tk k p) L) (S.set k p) (if S[k]! = 0 then many + 1 else many) := by
  have hl := h.len
  refine ⟨asc_ins h.asc, by rw [List.length_set]; exact hl, fun x hx => ?_, fun k' h5 h6 h7 => ?_, ?_, fun k' h5 => ?_⟩
  · rcases (mem_ins h.asc).1 hx with rfl | ⟨hx, hn⟩
    · exact ⟨k, h1, h2, by rw [set_at (by omega) p (by omega), if_pos rfl], by rw [set_at (by omega) p (by omega), if_pos rfl]; omega⟩
    · obtain ⟨k', h5, h6, rfl, h7⟩ := h.mem x hx
      have hne : ¬ k = k' := fun e => hn (by show (k' : Int) = (k : Int); omega)
      exact ⟨k', h5, h6, by rw [set_at (by omega) p (by omega), if_neg hne], by rw [set_at (by omega) p (by omega), if_neg hne]; exact h7⟩
  · rw [set_at (by omega) p (by omega)] at h7 ⊢
    by_cases e : k = k'
    · subst e
      rw [if_pos rfl]
      exact (mem_ins h.asc).2 (.inl rfl)
    · rw [if_neg e] at h7 ⊢
      exact (mem_ins h.asc).2 (.inr ⟨h.all k' h5 h6 h7, by show (k' : Int) ≠ (k : Int); omega⟩)
  · rw [ins_has h.asc, h.cnt]
    have := h.has h1 h2
    show (if Qu.has (k : Int) L = true then many else many + 1) = _
    by_cases e : S[k]! = 0
    · rw [if_pos e, if_neg (fun h8 => this.1 h8 e)]
    · rw [if_neg e, if_pos (this.2 e)]
  · rw [set_at (by omega) p (by omega)]
    split
    · omega
    · exact h.pos k' h5
theorem KInv.cand {L : List T} {S : List Int} {many : Nat} (h : KInv L S many) : cand L 0 [st, st] = L := by
  unfold Qu.cand
  rw [List.filter_eq_self]
  intro x hx
  obtain ⟨k, _, _, rfl, _⟩ := h.mem x hx
  rfl
theorem KInv.few {L : List T} {S : List Int} {many : Nat} (h : KInv L S many) : L.length ≤ 9 := by
  have h1 : ∀ {l : List T} (n : Int), Asc l → (∀ x ∈ l, n ≤ x.id ∧ x.id ≤ 9) → (l.length : Int) ≤ max 0 (10 - n) := by
    intro l
    induction l with
    | nil => intro n _ _; simp; omega
    | cons z r ih =>
      intro n ha hx
      obtain ⟨g1, g2⟩ := List.pairwise_cons.1 ha
      have g3 := hx z List.mem_cons_self
      have := ih (z.id + 1) g2 (fun y hy => ⟨g1 y hy, (hx y (List.mem_cons_of_mem _ hy)).2⟩)
      rw [List.length_cons]
      omega
  have := h1 1 h.asc (fun x hx => by
    obtain ⟨k, h2, h3, rfl, _⟩ := h.mem x hx
    exact ⟨by show (1 : Int) ≤ (k : Int); omega, by show (k : Int) ≤ 9; omega⟩)
  omega
/-- What is left when all below k are dropped. -/
structure DInv (L M : List T) (k : Nat) : Prop where
  asc : Asc M
  sub : ∀ x ∈ M, x ∈ L ∧ (k : Int) ≤ x.id
  all : ∀ x ∈ L, (k : Int) ≤ x.id → x ∈ M
theorem DInv.start {L : List T} {S : List Int} {many : Nat} (h : KInv L S many) : DInv L L 1 := ⟨h.asc, fun x hx => ⟨hx, by
  obtain ⟨k, h2, _, rfl, _⟩ := h.mem x hx
  show ((1 : Nat) : Int) ≤ (k : Int)
  omega⟩, fun x hx _ => hx⟩
theorem DInv.step {L M : List T} {k : Nat} (h : DInv L M k) : DInv L (outs M [(k : Int), (k : Int)]) (k + 1) := by
  show DInv L (out (k : Int) (out (k : Int) M)) (k + 1)
  rw [out_out]
  refine ⟨asc_out h.asc, fun x hx => ?_, fun x hx h1 => ?_⟩
  · obtain ⟨h1, h2⟩ := List.mem_filter.1 hx
    have h3 := h.sub x h1
    have h4 : ¬ x.id = (k : Int) := by simpa using h2
    exact ⟨h3.1, by omega⟩
  · exact List.mem_filter.2 ⟨h.all x hx (by omega), by have h4 : ¬ x.id = (k : Int) := by omega
                                                       simp [h4]⟩
theorem DInv.drop {L M : List T} {S : List Int} {many k : Nat} (h : DInv L M k) (g : KInv L S many) (h1 : 1 ≤ k) (h2 : k ≤ 9) : (M.length : Int) - ((outs M [(k : Int), (k : Int)]).length : Int) = if 0 < S[k]! then 1 else 0 := by
  show (M.length : Int) - ((out (k : Int) (out (k : Int) M)).length : Int) = _
  rw [out_out]
  have h3 := out_has (n := (k : Int)) h.asc
  have h4 : has (k : Int) M = true ↔ S[k]! ≠ 0 := by
    rw [← g.has h1 h2, has_iff, has_iff]
    exact ⟨fun ⟨x, hx, e⟩ => ⟨x, (h.sub x hx).1, e⟩, fun ⟨x, hx, e⟩ => ⟨x, h.all x hx (by omega), e⟩⟩
  have h5 := g.pos k (by omega)
  by_cases e : S[k]! = 0
  · rw [if_neg (fun h => h4.1 h e)] at h3
    rw [if_neg (by omega)]
    omega
  · rw [if_pos (h4.2 e)] at h3
    rw [if_pos (by omega)]
    omega
theorem DInv.none {L M : List T} {S : List Int} {many : Nat} (h : DInv L M 10) (g : KInv L S many) : M = [] := by
  rw [List.eq_nil_iff_forall_not_mem]
  intro x hx
  obtain ⟨h1, h2⟩ := h.sub x hx
  obtain ⟨k, _, h3, rfl, _⟩ := g.mem x h1
  have h4 : ((10 : Nat) : Int) ≤ (k : Int) := h2
  omega
/-- Put of one, and what stays. -/
theorem put1k_at {B q : Nat} {l : List T} (x : T) (w : World) (hq : QAt B w q l) (hB : B ≤ w.heap.size) (h1 : -9223372036854775808 ≤ x.id) (h2 : x.id ≤ 9223372036854775807) (h3 : x.top.size ≤ 1000) (hl : l.length ≤ 1000) :
    Calls Try.prog 11 #[.pointer (some ⟨q, 0, none⟩), .slice (some ⟨w.heap.size, 0, none⟩) 1 1] (w.alloc (.cells x.cells.toArray 38)) fun e w' => e = .returned (.tuple #[]) ∧ QAt B w' q (ins x l) ∧ Below B w w' ∧ ∀ p v cs, p ≠ q → Cel w p (v :: cs) → Cel w' p (v :: cs) := by
  obtain ⟨hb, m, hc, hm⟩ := hq
  refine Calls.mono (putn_any q m l [x] w hc (fun y hy => by rw [List.mem_singleton] at hy; subst hy; exact ⟨wf_of h1 h2, h3⟩) hl (by simp) x.cells.toArray (by simp) 1) ?_
  rintro e w' ⟨he, m', g1, g2, g3⟩
  refine ⟨he, ⟨hb, m', g1, fun b hb' => ?_⟩, g2.below hB (fun i hi hs => ?_), fun p v cs hp hcel => g2.cel hcel ?_⟩
  · rcases g3 with rfl | ⟨_, b', h5, h6⟩
    · exact hm b hb'
    · rw [h5] at hb'
      obtain rfl := Option.some.inj hb'
      omega
  · rcases hs with h | h
    · omega
    · have := hm i h
      omega
  · rintro (h | h)
    · exact hp h
    · rcases hc.own with ⟨h5, _⟩ | ⟨b, h5, ho⟩
      · rw [h5] at h
        cases h
      · rw [h5] at h
        obtain rfl := Option.some.inj h
        exact ho.ne hcel rfl
/-- Drop of two, and what stays. -/
theorem drop2_at {B q : Nat} {l : List T} (k1 k2 : Int) (w : World) (hq : QAt B w q l) (hB : B ≤ w.heap.size) (h1 : (Lit.int .i64 k1).wf = true) (h2 : (Lit.int .i64 k2).wf = true) (hl : l.length ≤ 1000) :
    Calls Try.prog 15 #[.pointer (some ⟨q, 0, none⟩), .slice (some ⟨w.heap.size, 0, none⟩) 2 2] (w.alloc (.cells #[.int .i64 k1, .int .i64 k2] 3)) fun e w' => e = .returned (.int .i64 ((l.length : Int) - ((outs l [k1, k2]).length : Int))) ∧ QAt B w' q (outs l [k1, k2]) ∧ Below B w w' ∧ ∀ p v cs, Cel w p (v :: cs) → Cel w' p (v :: cs) := by
  obtain ⟨hb, m, hc, hm⟩ := hq
  have hba : Below w.heap.size w (w.alloc (.cells #[.int .i64 k1, .int .i64 k2] 3)) := (Below.refl _ _).alloc (Nat.le_refl _) _
  have hR := KRow.lit (κ := nκ) w 3 [k1, k2] #[.int .i64 k1, .int .i64 k2] rfl
  have hql := hc.cel.lt
  refine Calls.mono (drop_any q m l (some ⟨w.heap.size, 0, none⟩) 2 2 [k1, k2] (w.alloc (.cells #[.int .i64 k1, .int .i64 k2] 3)) (hc.below hba) (hR.mono (by simp)) (fun y hy => ?_) (by decide) (by omega) (fun a ha => ?_)) ?_
  · simp only [List.mem_cons, List.not_mem_nil, or_false] at hy
    rcases hy with rfl | rfl
    · exact h1
    · exact h2
  · cases ha
    rintro (h | h)
    · have h3 : w.heap.size = q := h
      omega
    · have := hc.mlt h
      have h3 : w.heap.size < w.heap.size := this.1
      omega
  · rintro e w' ⟨he, g1, g2⟩
    have g3 : Kp (fun i => m = some i) w w' := (Kp.of_below _ hba (Nat.le_refl _)).trans g2
    refine ⟨he, ⟨hb, m, g1, hm⟩, g3.below hB (fun i hi hs => ?_), fun p v cs hcel => g3.cel hcel (fun h => ?_)⟩
    · have := hm i hs
      omega
    · rcases hc.own with ⟨h5, _⟩ | ⟨b, h5, ho⟩
      · rw [h5] at h
        cases h
      · rw [h5] at h
        obtain rfl := Option.some.inj h
        exact ho.ne hcel rfl
end Qu
end Go.Proofs.Ytlcchjpelfjheaa
