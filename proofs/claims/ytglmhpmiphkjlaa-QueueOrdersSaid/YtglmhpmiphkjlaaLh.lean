/- Package queue: what slices.DeleteFunc leaves of those that are not free. -/
import Derived.Test.YtglmhpmiphkjlaaLg
import Derived.Test.YtglmhpmiphkjlaaSg
namespace Go.Proofs.Ytglmhpmiphkjlaa
open Go.RowKit

namespace Qu
open Ls (T)
theorem idx_spec {α : Type} (eq : α → α → Bool) (x : α) [Inhabited α] : ∀ (l : List α) (i : Nat), (Lib.idxByFrom eq x l i = -1 ∧ ∀ j, j < l.length → eq x l[j]! = false) ∨ ∃ k, k < l.length ∧ Lib.idxByFrom eq x l i = ((i + k : Nat) : Int) ∧ eq x l[k]! = true ∧ ∀ j, j < k → eq x l[j]! = false
  | [], _ => .inl ⟨rfl, fun j hj => absurd hj (Nat.not_lt_zero _)⟩
  | y :: r, i => by
    cases h : eq x y with
    | true => exact .inr ⟨0, by simp, by simp [Lib.idxByFrom, h], by simpa using h, fun j hj => absurd hj (Nat.not_lt_zero _)⟩
    | false =>
      rcases idx_spec eq x r (i + 1) with ⟨e, ha⟩ | ⟨k, hk, e, ht, ha⟩
      · refine .inl ⟨by simp [Lib.idxByFrom, h, e], fun j hj => ?_⟩
        cases j with
        | zero => simpa using h
        | succ j => simpa using ha j (by simpa using hj)
      · refine .inr ⟨k + 1, by simpa using hk, by simp only [Lib.idxByFrom, h]; rw [show (if false = true then (i : Int) else Lib.idxByFrom eq x r (i + 1)) = Lib.idxByFrom eq x r (i + 1) from rfl, e]; congr 1; omega, by simpa using ht, fun j hj => ?_⟩
        cases j with
        | zero => simpa using h
        | succ j => simpa using ha j (by omega)
set_option maxHeartbeats 1600000 in
/-- The predicate that Pick hands over. -/
theorem notfree_any (b : Nat) (now : Int) (x : T) (w : World) (hb : w.cell? ⟨b, 0, none⟩ = some (.int .i64 now)) : Calls Try.prog 28 (#[x.val] ++ #[.pointer (some ⟨b, 0, none⟩)]) w fun e w' => e = .returned (.bool (!x.free now)) ∧ Below w.heap.size w w' := by
  obtain ⟨hc, hbl⟩ := Ls.one_lit w #[.int .i64 x.id, .int .i64 x.ins, .int .i64 x.tok, .int .i64 x.nod, .string x.top, .int .i64 x.prio, .string x.wkr, .int .i64 x.epo, .int .i64 x.exp, .int .i64 x.aft, .int .i64 x.ret, .bool x.bro] 38
  have W0 := Lib.hid (fun w => Ls.free_any x now w)
  have hlt : b < w.heap.size := by
    rcases Nat.lt_or_ge b w.heap.size with h | h
    · exact h
    · simp [World.cell?, Array.getElem?_eq_none h] at hb
  have hb2 := (hbl.cell (p := ⟨b, 0, none⟩) hlt).trans hb
  show Calls Try.prog 28 #[x.val, .pointer (some ⟨b, 0, none⟩)] w _
  generalize x.free now = R at *
  unfold T.val at *
  have HB := Lib.hid hbl
  obtain ⟨⟨k0, k1, k2, k3, k4, k5, k6, k7, k8, k9, k10, k11⟩, _⟩ := Ls.dz_facts hc
  clear hbl hc hb
  go_enter Try.func28, Try.ntmps28
  go_wp2_with fail
  refine (W0.out _).mono ?_
  rintro e w1 ⟨rfl, hb1⟩
  have HB1 := Lib.hid (HB.out.trans (hb1.mono HB.out.size))
  cases R with
  | false =>
    go_wp2
    go_ret
    exact ⟨rfl, HB1.out⟩
  | true =>
    go_wp2
    go_ret
    exact ⟨rfl, HB1.out⟩
/-- slices.IndexFunc with it. -/
theorem ix_any (b g : Nat) (now : Int) (zs : List T) (n c : Nat) (w : World) (hz : zs.length = n) (hn : n ≤ 1000000) (hb : w.cell? ⟨b, 0, none⟩ = some (.int .i64 now)) (hg : g < w.heap.size) (hr : RT w g zs) :
    Calls Try.prog 40 #[.slice (some ⟨g, 0, none⟩) n c, .func (.func 28) #[] #[.pointer (some ⟨b, 0, none⟩)]] w fun e w' =>
      e = .returned (.int .i64 (Lib.idxBy (fun _ y => !T.free y now) zs default)) ∧ Below w.heap.size w w' := by
  have hlt : b < w.heap.size := by
    rcases Nat.lt_or_ge b w.heap.size with h | h
    · exact h
    · simp [World.cell?, Array.getElem?_eq_none h] at hb
  have h := AnyQ.slices_IndexFunc sgIx 12 Try.isAgg38 Try.sizeOf38 T.cells (fun _ => rfl) (fun y => !T.free y now) 28 #[.pointer (some ⟨b, 0, none⟩)] (enters_of Try.func28 (by kernel_rfl) rfl) g 0 n c zs w
    (fun W x hW => (notfree_any b now x W ((hW.cell (p := ⟨b, 0, none⟩) hlt).trans hb)).mono fun e w' ⟨he, hb'⟩ => ⟨he, hW.trans (hb'.mono hW.size)⟩) (by omega) (by omega) hg (fun j hj i v hv => by rw [Nat.zero_add]; exact (hr j hj i v hv).1)
  rw [← hz, List.take_length] at h
  rw [← hz]
  exact h
theorem ix_none (c : Nat) (fv : Value) (w : World) : Calls Try.prog 40 #[.slice none 0 c, fv] w fun e w' => e = .returned (.int .i64 (-1)) ∧ w = w' := by
  go_enter Try.func40, Try.ntmps40
  go_wp2
  refine wp_loop_rounds 1 ?_
  rw [rounds_succ]
  go_wp2
  go_ret
  exact ⟨rfl, rfl⟩
end Qu
end Go.Proofs.Ytglmhpmiphkjlaa
