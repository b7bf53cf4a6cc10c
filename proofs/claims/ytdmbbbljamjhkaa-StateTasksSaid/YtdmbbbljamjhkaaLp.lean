/- Package queue: as the statements call it; first. -/
import Derived.Test.YtdmbbbljamjhkaaLo
namespace Go.Proofs.Ytdmbbbljamjhkaa
open Go.RowKit

namespace Qu
open Ls (T)
/-- A queue that lies from block B on. -/
def QAt (B : Nat) (w : World) (q : Nat) (l : List T) : Prop := B ≤ q ∧ ∃ m, QuC w q m l ∧ ∀ b, m = some b → B ≤ b
theorem QAt.below {B : Nat} {w w' : World} {q : Nat} {l : List T} (h : QAt B w q l) (hb : Below w.heap.size w w') : QAt B w' q l := by
  obtain ⟨h1, m, h2, h3⟩ := h
  exact ⟨h1, m, h2.below hb, h3⟩
theorem QAt.start {B : Nat} {w : World} (hB : B ≤ w.heap.size) (t : TypeId) : QAt B (w.alloc (.cells #[.map none] t)) w.heap.size [] :=
  ⟨hB, none, ⟨Cel.lit w _ t, List.Pairwise.nil, fun _ h => (by cases h), .inl ⟨rfl, rfl⟩⟩, fun _ h => (by cases h)⟩
theorem QAt.asc {B : Nat} {w : World} {q : Nat} {l : List T} (h : QAt B w q l) : Asc l := by
  obtain ⟨_, m, h2, _⟩ := h
  exact h2.asc
theorem QAt.wf {B : Nat} {w : World} {q : Nat} {l : List T} (h : QAt B w q l) : Wf l := by
  obtain ⟨_, m, h2, _⟩ := h
  exact h2.wf
/-- Put of some that lie in a slice that has just been laid. -/
theorem putn_any (q : Nat) (m : Option Nat) (l xs : List T) (w : World) (hq : QuC w q m l) (hx : Wf xs) (hl : l.length ≤ 1000) (hn : xs.length ≤ 1000) (cs : Array Value) (hcs : cs.toList = xs.flatMap T.cells) (c : Nat) :
    Calls Try.prog 7 #[.pointer (some ⟨q, 0, none⟩), .slice (some ⟨w.heap.size, 0, none⟩) xs.length c] (w.alloc (.cells cs 39)) fun e w' => e = .returned (.tuple #[]) ∧ ∃ m', QuC w' q m' (puts l xs) ∧ Kp (QS q m) w w' ∧ (m' = m ∨ (m = none ∧ ∃ b, m' = some b ∧ w.heap.size ≤ b)) := by
  have hba : Below w.heap.size w (w.alloc (.cells cs 39)) := (Below.refl _ _).alloc (Nat.le_refl _) _
  have hR := KRow.lit (κ := tκ) w 39 xs cs hcs
  have hql := hq.cel.lt
  refine Calls.mono (put_any q m l xs (some ⟨w.heap.size, 0, none⟩) xs.length c (w.alloc (.cells cs 39)) (hq.below hba) (hR.mono (by simp)) hx (by omega) (fun a ha => ?_)) ?_
  · cases ha
    rintro (h | h)
    · have h2 : w.heap.size = q := h
      omega
    · have := hq.mlt h
      have h2 : w.heap.size < w.heap.size := this.1
      omega
  · rintro e w' ⟨he, m', h1, h2, h3⟩
    refine ⟨he, m', h1, (Kp.of_below (QS q m) hba (Nat.le_refl _)).trans h2, h3.imp id ?_⟩
    rintro ⟨h4, b, h5, h6⟩
    exact ⟨h4, b, h5, Nat.le_trans hba.size h6⟩
theorem put1_at {B q : Nat} {l : List T} (x : T) (w : World) (hq : QAt B w q l) (hB : B ≤ w.heap.size) (h1 : -9223372036854775808 ≤ x.id) (h2 : x.id ≤ 9223372036854775807) (h3 : x.top.size ≤ 1000) (hl : l.length ≤ 1000) :
    Calls Try.prog 7 #[.pointer (some ⟨q, 0, none⟩), .slice (some ⟨w.heap.size, 0, none⟩) 1 1] (w.alloc (.cells x.cells.toArray 39)) fun e w' => e = .returned (.tuple #[]) ∧ QAt B w' q (ins x l) ∧ Below B w w' := by
  obtain ⟨hb, m, hc, hm⟩ := hq
  refine Calls.mono (putn_any q m l [x] w hc (fun y hy => by rw [List.mem_singleton] at hy; subst hy; exact ⟨wf_of h1 h2, h3⟩) hl (by simp) x.cells.toArray (by simp) 1) ?_
  rintro e w' ⟨he, m', g1, g2, g3⟩
  refine ⟨he, ⟨hb, m', g1, fun b hb' => ?_⟩, g2.below hB (fun i hi hs => ?_)⟩
  · rcases g3 with rfl | ⟨_, b', h5, h6⟩
    · exact hm b hb'
    · rw [h5] at hb'
      obtain rfl := Option.some.inj hb'
      omega
  · rcases hs with h | h
    · omega
    · have := hm i h
      omega
theorem IsPick.len {l r : List T} {now most : Int} {ts : List ByteArray} (h : IsPick l now most ts r) : r.length = min most.toNat (cand l now ts).length := by
  obtain ⟨s, h1, _, rfl⟩ := h
  rw [List.length_take, h1.length_eq]
theorem asks_cons (y : ByteArray) (ts : List ByteArray) (s : ByteArray) : asks (y :: ts) s = (decide (y = s) || asks ts s) := rfl
def t4 : T := ⟨4, 1, 1, 0, ⟨#[97]⟩, 0, ⟨#[]⟩, 0, 0, 0, 1, false⟩
end Qu
end Go.Proofs.Ytdmbbbljamjhkaa
