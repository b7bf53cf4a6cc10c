/- Package queue: Pick. -/
import Derived.Test.YtdmbbbljamjhkaaLj
import Derived.Test.YtdmbbbljamjhkaaLn
namespace Go.Proofs.Ytdmbbbljamjhkaa
open Go.RowKit

namespace Qu
open Ls (T)
/-- What may be picked. -/
def cand (l : List T) (now : Int) (ts : List ByteArray) : List T := l.filter fun x => asks ts x.top && x.free now
/-- What Pick tells. -/
def IsPick (l : List T) (now most : Int) (ts : List ByteArray) (r : List T) : Prop := ∃ s : List T, s.Perm (cand l now ts) ∧ s.Pairwise (fun a b => ¬ Ahead b a) ∧ r = s.take most.toNat
theorem sorted_is (l : List T) : ∃ s : List T, s.Perm l ∧ s.Pairwise (fun a b => ¬ Ahead b a) := by
  refine ⟨l.mergeSort (fun a b => !ltOf cf b a), List.mergeSort_perm _ _, ?_⟩
  have h := List.pairwise_mergeSort (le := fun a b : T => !ltOf cf b a) (fun a b c h1 h2 => by
    simp only [Bool.not_eq_true'] at *
    exact swo_cf.ntrans c b a h2 h1) (fun a b => by
    cases h1 : ltOf cf b a with
    | false => rfl
    | true =>
      have h2 : ltOf cf a b = false := by
        rw [false_iff, lt_cf]
        rw [lt_cf] at h1
        unfold Ahead at *
        omega
      rw [h2]
      rfl) l
  refine h.imp fun {a b} hab => ?_
  rw [← lt_cf, ← false_iff]
  simpa using hab
theorem delf_none (c : Nat) (fv : Value) (w : World) : Calls Try.prog 12 #[.slice none 0 c, fv] w fun e w' => e = .returned (.slice none 0 c) ∧ w' = w := by
  have hx := fun W => ix_none c fv W
  go_enter Try.func12, Try.ntmps12
  go_wp2_with (go_at_call 26; refine (hx _).mono ?_; rintro e w' ⟨rfl, rfl⟩)
  go_ret
  exact ⟨rfl, rfl⟩
theorem own_c {w : World} {base n c : Nat} {e : TypeId} {r : List T} (h : OwnK tκ w base e none n c r) : n = 0 ∧ c = 0 ∧ r = [] := by
  obtain ⟨h1, h2⟩ := h.nn rfl
  refine ⟨h1, h2, ?_⟩
  have := h.len
  rw [h1] at this
  exact List.eq_nil_of_length_eq_zero this
def PickOut (w : World) (l : List T) (now most : Int) (ts : List ByteArray) (e : Ending) (w' : World) : Prop :=
  (∃ A' n' c' r, e = .returned (.slice A' n' c') ∧ IsPick l now most ts r ∧ KRow tκ w' w'.heap.size A' n' r ∧ ∀ a, A' = some a → w.heap.size ≤ a.block) ∧ Below w.heap.size w w'
end Qu
end Go.Proofs.Ytdmbbbljamjhkaa
