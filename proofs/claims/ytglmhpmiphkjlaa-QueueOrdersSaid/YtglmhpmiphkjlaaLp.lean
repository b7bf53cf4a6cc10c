/- Package queue: as the statements call it; first. -/
import Derived.Test.YtglmhpmiphkjlaaLo
namespace Go.Proofs.Ytglmhpmiphkjlaa
open Go.RowKit

namespace Qu
open Ls (T)
/-- A queue that lies from block B on. -/
def QAt (B : Nat) (w : World) (q : Nat) (l : List T) : Prop := B ≤ q ∧ ∃ m, QuC w q m l ∧ ∀ b, m = some b → B ≤ b
theorem QAt.below {B : Nat} {w w' : World} {q : Nat} {l : List T} (h : QAt B w q l) (hb : Below w.heap.size w w') : QAt B w' q l := by
  obtain ⟨h1, m, h2, h3⟩ := h
  exact ⟨h1, m, h2.below hb, h3⟩
theorem QAt.start {B : Nat} {w : World} (hB : B ≤ w.heap.size) (t : TypeId) : QAt B (w.alloc (.cells #[.map none] t)) w.heap.size [] :=
  ⟨hB, none, ⟨Cel.lit w _ t, List.Pairwise.nil, fun _ h => (by cases h), .inl ⟨rfl, rfl⟩⟩, fun _ h => (by cases h)⟩
theorem QAt.asc {B : Nat} {w : World} {q : Nat} {l : List T} (h : QAt B w q l) : Asc l := by
  obtain ⟨_, m, h2, _⟩ := h
  exact h2.asc
theorem QAt.wf {B : Nat} {w : World} {q : Nat} {l : List T} (h : QAt B w q l) : Wf l := by
  obtain ⟨_, m, h2, _⟩ := h
  exact h2.wf
/-- Put of some that lie in a slice that has just been laid. -/
theorem putn_any (q : Nat) (m : Option Nat) (l xs : List T) (w : World) (hq : QuC w q m l) (hx : Wf xs) (hl : l.length ≤ 1000) (hn : xs.length ≤ 1000) (cs : Array Value) (hcs : cs.toList = xs.flatMap T.cells) (c : Nat) :
    Calls Try.prog 8 #[.pointer (some ⟨q, 0, none⟩), .slice (some ⟨w.heap.size, 0, none⟩) xs.length c] (w.alloc (.cells cs 38)) fun e w' => e = .returned (.tuple #[]) ∧ ∃ m', QuC w' q m' (puts l xs) ∧ Kp (QS q m) w w' ∧ (m' = m ∨ (m = none ∧ ∃ b, m' = some b ∧ w.heap.size ≤ b)) := by
  have hba : Below w.heap.size w (w.alloc (.cells cs 38)) := (Below.refl _ _).alloc (Nat.le_refl _) _
  have hR := KRow.lit (κ := tκ) w 38 xs cs hcs
  have hql := hq.cel.lt
  refine Calls.mono (put_any q m l xs (some ⟨w.heap.size, 0, none⟩) xs.length c (w.alloc (.cells cs 38)) (hq.below hba) (hR.mono (by simp)) hx (by omega) (fun a ha => ?_)) ?_
  · cases ha
    rintro (h | h)
    · have h2 : w.heap.size = q := h
      omega
    · have := hq.mlt h
      have h2 : w.heap.size < w.heap.size := this.1
      omega
  · rintro e w' ⟨he, m', h1, h2, h3⟩
    refine ⟨he, m', h1, (Kp.of_below (QS q m) hba (Nat.le_refl _)).trans h2, h3.imp id ?_⟩
    rintro ⟨h4, b, h5, h6⟩
    exact ⟨h4, b, h5, Nat.le_trans hba.size h6⟩
theorem put1_at {B q : Nat} {l : List T} (x : T) (w : World) (hq : QAt B w q l) (hB : B ≤ w.heap.size) (h1 : -9223372036854775808 ≤ x.id) (h2 : x.id ≤ 9223372036854775807) (h3 : x.top.size ≤ 1000) (hl : l.length ≤ 1000) :
    Calls Try.prog 8 #[.pointer (some ⟨q, 0, none⟩), .slice (some ⟨w.heap.size, 0, none⟩) 1 1] (w.alloc (.cells x.cells.toArray 38)) fun e w' => e = .returned (.tuple #[]) ∧ QAt B w' q (ins x l) ∧ Below B w w' := by
  obtain ⟨hb, m, hc, hm⟩ := hq
  refine Calls.mono (putn_any q m l [x] w hc (fun y hy => by rw [List.mem_singleton] at hy; subst hy; exact ⟨wf_of h1 h2, h3⟩) hl (by simp) x.cells.toArray (by simp) 1) ?_
  rintro e w' ⟨he, m', g1, g2, g3⟩
  refine ⟨he, ⟨hb, m', g1, fun b hb' => ?_⟩, g2.below hB (fun i hi hs => ?_)⟩
  · rcases g3 with rfl | ⟨_, b', h5, h6⟩
    · exact hm b hb'
    · rw [h5] at hb'
      obtain rfl := Option.some.inj hb'
      omega
  · rcases hs with h | h
    · omega
    · have := hm i h
      omega
theorem pickn_any {B q : Nat} {l : List T} (now most : Int) (ts : List ByteArray) (w : World) (hq : QAt B w q l) (hts : ∀ s ∈ ts, s.size ≤ 1000) (hn : ts.length ≤ 1000) (hl : l.length ≤ 1000) (cs : Array Value) (hcs : cs.toList = ts.flatMap xκ.cs) (c : Nat) :
    Calls Try.prog 18 #[.pointer (some ⟨q, 0, none⟩), .int .i64 now, .int .i64 most, .slice (some ⟨w.heap.size, 0, none⟩) ts.length c] (w.alloc (.cells cs 9)) (PickOut w l now most ts) := by
  obtain ⟨hb, m, hc, hm⟩ := hq
  have hba : Below w.heap.size w (w.alloc (.cells cs 9)) := (Below.refl _ _).alloc (Nat.le_refl _) _
  have hR := KRow.lit (κ := xκ) w 9 ts cs hcs
  refine Calls.mono (pick_any q m l now most (some ⟨w.heap.size, 0, none⟩) ts.length c ts (w.alloc (.cells cs 9)) (hc.below hba) (hR.mono (by simp)) hts (by omega) (by omega)) ?_
  rintro e w' ⟨⟨A', n', c', r, he, h1, h2, h3⟩, hb'⟩
  exact ⟨⟨A', n', c', r, he, h1, h2, fun a ha => Nat.le_trans hba.size (h3 a ha)⟩, hba.trans (hb'.mono hba.size)⟩
theorem pick0_any {B q : Nat} {l : List T} (now most : Int) (w : World) (hq : QAt B w q l) (hl : l.length ≤ 1000) :
    Calls Try.prog 18 #[.pointer (some ⟨q, 0, none⟩), .int .i64 now, .int .i64 most, .slice none 0 0] w (PickOut w l now most []) := by
  obtain ⟨hb, m, hc, hm⟩ := hq
  exact pick_any q m l now most none 0 0 [] w hc (KRow.nil _ _ _) (fun _ h => (by cases h)) (by decide) (by omega)
theorem IsPick.len {l r : List T} {now most : Int} {ts : List ByteArray} (h : IsPick l now most ts r) : r.length = min most.toNat (cand l now ts).length := by
  obtain ⟨s, h1, _, rfl⟩ := h
  rw [List.length_take, h1.length_eq]
theorem asks_cons (y : ByteArray) (ts : List ByteArray) (s : ByteArray) : asks (y :: ts) s = (decide (y = s) || asks ts s) := rfl
def t4 : T := ⟨4, 1, 1, 0, ⟨#[97]⟩, 0, ⟨#[]⟩, 0, 0, 0, 1, false⟩
set_option maxHeartbeats 1600000 in
theorem first_any (w : World) : Calls Try.prog 5 #[] w fun e w' => e = .returned (.bool true) ∧ Below w.heap.size w w' := by
  have hq := QAt.start (B := w.heap.size) (w := w) (Nat.le_refl _) 26
  have hb0 : Below w.heap.size w (w.alloc (.cells #[.map none] 26)) := (Below.refl _ _).alloc (Nat.le_refl _) _
  have hws : (w.alloc (.cells #[.map none] 26)).heap.size = w.heap.size + 1 := by simp
  have HP := Lib.hid (put1_at t4 _ hq (by simp) (by decide) (by decide) (by decide) (by decide))
  have HB := Lib.hid hb0
  rw [hws] at HP
  unfold t4 T.cells at HP
  dsimp only at HP
  clear hq hb0
  go_enter Try.func5, Try.ntmps5
  go_upto_region 2 with (fail)
  generalize w.alloc _ = wa at *
  go_wp2_with fail
  refine HP.out.mono ?_
  rintro e w1 ⟨rfl, hq1, hb1⟩
  have HB1 := Lib.hid (HB.out.trans hb1)
  have HQ1 := Lib.hid hq1
  have HPK := Lib.hid (pickn_any 0 1 [⟨#[97]⟩] w1 hq1 (by decide) (by decide) (by decide) #[.string ⟨#[97]⟩] rfl 1)
  clear hq1 hb1 HP
  go_wp2_with fail
  refine HPK.out.mono ?_
  rintro e w2 ⟨⟨A', n', c', r, rfl, hpk, hrow, _⟩, hb2⟩
  have hr : r = [t4] := by
    obtain ⟨s, h1, _, rfl⟩ := hpk
    have h2 : cand (ins t4 []) 0 [⟨#[97]⟩] = [t4] := by rfl
    have h3 : s = [t4] := List.perm_singleton.1 (by rw [← h2]; exact h1)
    rw [h3]
    rfl
  subst hr
  obtain rfl : 1 = n' := hrow.len (by decide)
  have HL := Lib.hid (len_any w.heap.size)
  obtain ⟨_, m, hc2, _⟩ := HQ1.out.below hb2
  have HLen := Lib.hid (len_any w.heap.size m _ w2 hc2)
  have HB2 := Lib.hid (HB1.out.trans (hb2.mono HB1.out.size))
  obtain ⟨b, off, rfl, _, _⟩ := hrow.2 (by decide)
  have c0 : w2.cell? ⟨b, off, none⟩ = some (.int .i64 4) := by
    have := (t_at hrow (j := 0) (by decide)).1
    rw [Nat.zero_mul, Nat.add_zero] at this
    exact this
  clear hpk hb2 hc2 HQ1 HPK
  go_wp2_with fail
  refine HLen.out.mono ?_
  rintro e w3 ⟨rfl, rfl⟩
  go_wp2
  go_ret
  exact ⟨rfl, HB2.out⟩
end Qu
end Go.Proofs.Ytglmhpmiphkjlaa
