/- Walks of package vars: values of numbers, flags, texts; the chapter's examples. -/
import Derived.Test.YthkgjdhbibialaaDoorVk
namespace Go.Proofs.YthkgjdhbibialaaDoor
open Go.RowKit

set_option maxHeartbeats 400000 in
theorem vnum_any (n : Int) (w : World) :
    Calls Tryd.prog 23 #[.int .i64 n] w fun e w' => e = .returned (.agg #[.int .i64 1, .int .i64 n, .string ⟨#[]⟩]) ∧ Below w.heap.size w w' := by
  go_enter Tryd.func23, Tryd.ntmps23
  go_wp2
  exact bodyPost_ret (v := .agg #[.int .i64 1, .int .i64 n, .string ⟨#[]⟩]) (by simp [results, Tryd.results23, go_sem]) rfl ⟨rfl, (Below.refl _ _).alloc (Nat.le_refl _) _⟩
set_option maxHeartbeats 400000 in
theorem vflag_any (f : Bool) (w : World) :
    Calls Tryd.prog 24 #[.bool f] w fun e w' => e = .returned (.agg #[.int .i64 2, .int .i64 (if f then 1 else 0), .string ⟨#[]⟩]) ∧ Below w.heap.size w w' := by
  cases f with
  | true =>
    go_enter Tryd.func24, Tryd.ntmps24
    go_wp2
    exact bodyPost_ret (v := .agg #[.int .i64 2, .int .i64 1, .string ⟨#[]⟩]) (by simp [results, Tryd.results24, go_sem]) rfl ⟨rfl, ((Below.refl _ _).alloc (Nat.le_refl _) _).alloc (by simp) _⟩
  | false =>
    go_enter Tryd.func24, Tryd.ntmps24
    go_wp2
    exact bodyPost_ret (v := .agg #[.int .i64 2, .int .i64 0, .string ⟨#[]⟩]) (by simp [results, Tryd.results24, go_sem]) rfl ⟨rfl, ((Below.refl _ _).alloc (Nat.le_refl _) _).alloc (by simp) _⟩
set_option maxHeartbeats 400000 in
theorem vword_any (s : ByteArray) (w : World) :
    Calls Tryd.prog 25 #[.string s] w fun e w' => e = .returned (.agg #[.int .i64 3, .int .i64 0, .string s]) ∧ Below w.heap.size w w' := by
  go_enter Tryd.func25, Tryd.ntmps25
  go_wp2
  exact bodyPost_ret (v := .agg #[.int .i64 3, .int .i64 0, .string s]) (by simp [results, Tryd.results25, go_sem]) rfl ⟨rfl, (Below.refl _ _).alloc (Nat.le_refl _) _⟩

theorem name_ab : Vr.name [97, 45, 98] = true := by decide
set_option maxHeartbeats 800000 in
theorem vfirst_any {E : Int → Option Addr} {W w : World} (hE : VaErrs W E) (hb : Below W.heap.size W w) :
    Calls Tryd.prog 8 #[] w fun e w' => e = .returned (.bool true) ∧ Below w.heap.size w w' := by
  have hC := check_any (w := w) none 0 0 [] hE hb (VRow.nil _ _ _) (by decide) (fun v h => by cases h)
  have hN := fun W' => name_any ⟨#[97, 45, 98]⟩ W' (by decide)
  simp only [name_ab] at hN
  have hc : Vr.check [] = (0, none) := by decide
  rw [hc] at hC
  clear hc
  go_enter Tryd.func8, Tryd.ntmps8
  go_wp2_with fail
  refine hC.mono ?_
  rintro e w1 ⟨⟨ev, rfl, hs⟩, hb1⟩
  obtain rfl := hs.none_of
  have HN := Lib.hid hN
  clear hN hs
  go_wp2_with fail
  refine (HN.out _).mono ?_
  rintro e w' ⟨rfl, rfl⟩
  go_wp2_with fail
  refine (vnum_any _ _).mono ?_
  rintro e w2 ⟨rfl, hb2⟩
  have hfd : ∀ w : World, (Instr.field 26 (.agg #[.int .i64 1, .int .i64 3, .string ⟨#[]⟩]) 1).run Tryd.prog w = .ok (.int .i64 3) w := fun _ => by kernel_rfl
  go_wp2
  go_ret
  exact ⟨rfl, hb1.trans (hb2.mono hb1.size)⟩
end Go.Proofs.YthkgjdhbibialaaDoor
