/- Package queue: tasks sorted. -/
import Derived.Test.YtdmbbbljamjhkaaLl
import Derived.Shelf.SlSortCmp.NoneTotal
namespace Go.Proofs.Ytdmbbbljamjhkaa
open Go.RowKit

namespace Qu
open Ls (T)
/-- Which comes first. -/
def Ahead (x y : T) : Prop := y.prio < x.prio ∨ (x.prio = y.prio ∧ x.id < y.id)
theorem cmp_cases (a b : Int) : (a < b ∧ Lib.compareInt a b = -1) ∨ (b < a ∧ Lib.compareInt a b = 1) ∨ (a = b ∧ Lib.compareInt a b = 0) := by
  unfold Lib.compareInt
  by_cases h1 : a < b
  · exact .inl ⟨h1, if_pos h1⟩
  · by_cases h2 : b < a
    · exact .inr (.inl ⟨h2, by rw [if_neg h1, if_pos h2]⟩)
    · exact .inr (.inr ⟨by omega, by rw [if_neg h1, if_neg h2]⟩)
theorem lt_cf (x y : T) : ltOf cf x y = true ↔ Ahead x y := by
  unfold ltOf cf Ahead
  rw [decide_eq_true_iff]
  rcases cmp_cases y.prio x.prio with ⟨h1, e1⟩ | ⟨h1, e1⟩ | ⟨h1, e1⟩ <;> rcases cmp_cases x.id y.id with ⟨h2, e2⟩ | ⟨h2, e2⟩ | ⟨h2, e2⟩ <;> rw [e1, e2] <;> simp <;> omega
def ci (x y : T) : Int := Lib.compareInt x.id y.id
theorem lt_ci (x y : T) : ltOf ci x y = true ↔ x.id < y.id := by
  unfold ltOf ci
  rw [decide_eq_true_iff]
  rcases cmp_cases x.id y.id with ⟨h2, e2⟩ | ⟨h2, e2⟩ | ⟨h2, e2⟩ <;> rw [e2] <;> simp <;> omega
theorem false_iff {b : Bool} : b = false ↔ ¬ b = true := by cases b <;> simp
theorem swo_cf : Sort.SWO (ltOf cf) where
  irrefl x := by rw [false_iff, lt_cf]; unfold Ahead; omega
  trans x y z h1 h2 := by rw [lt_cf] at *; unfold Ahead at *; omega
  ntrans x y z h1 h2 := by rw [false_iff, lt_cf] at *; unfold Ahead at *; omega
theorem swo_ci : Sort.SWO (ltOf ci) where
  irrefl x := by rw [false_iff, lt_ci]; omega
  trans x y z h1 h2 := by rw [lt_ci] at *; omega
  ntrans x y z h1 h2 := by rw [false_iff, lt_ci] at *; omega
theorem sortWorld_kp (w : World) (g m : Nat) (d : Array T) (os : Array Obj) : Kp (· = g) w (sortWorldK T.cells 12 w g 0 m d os) := by
  refine ⟨rfl, rfl, rfl, ?_, fun i hi hn => ?_⟩
  · unfold sortWorldK Sort.putRowK Sort.putRow Sort.mapBlock Sort.grow Sort.ahead
    simp
  · unfold sortWorldK Sort.putRowK Sort.putRow Sort.mapBlock Sort.grow Sort.ahead
    have h2 : g ≠ i := fun e => hn e.symm
    show ((w.heap.modify g _) ++ os)[i]? = _
    rw [Array.getElem?_append_left (by simpa using hi), Array.getElem?_modify, if_neg h2]
/-- slices.SortFunc of tasks. -/
theorem sort_any (f : Nat) (cfn : T → T → Int) (hO : Sort.SWO (ltOf cfn)) (eg : ∀ args w, (callFunc f args).run Try.prog w = .ok (.enter f args) w) (hcmp : ∀ x y w, Calls Try.prog f #[x.val, y.val] w fun e w' => e = .returned (.int .i64 (cfn x y)) ∧ Gw w w')
    (g : Nat) (zs : List T) (n c : Nat) (w : World) (hz : zs.length = n) (hn : n ≤ 1000000) (hg : g < w.heap.size) (hr : RT w g zs) :
    Calls Try.prog 42 #[.slice (some ⟨g, 0, none⟩) n c, .func (.func f) #[] #[]] w fun e w' =>
      e = .returned (.tuple #[]) ∧ ∃ ss : List T, ss.Perm zs ∧ ss.Pairwise (fun a b => ltOf cfn b a = false) ∧ RT w' g ss ∧ Kp (· = g) w w' := by
  have h := AnyQ.slices_SortFunc sgSo 12 Try.isAgg39 Try.sizeOf39 T.cells (fun _ => rfl) tκ.one cfn hO f #[] g 0 c zs.toArray w eg
    (fun m os dk hs x y => (hcmp x y _).mono fun e w' ⟨he, hg⟩ => ⟨he, hg⟩) hr.holds hg (by rw [List.size_toArray, hz]; omega)
  rw [List.size_toArray, hz] at h
  refine Calls.mono h fun e w' ⟨he, d', m, os, hp, hs, hw⟩ => ⟨he, d'.toList, ?_, ?_, ?_, ?_⟩
  · obtain ⟨h1, _, h2⟩ := hp
    have e1 : d'.extract 0 n = d' := by rw [← hz]; have : d'.size = zs.length := by simpa using h1
                                        rw [← this]; simp
    have e2 : zs.toArray.extract 0 n = zs.toArray := by rw [← hz]; simp
    rw [e1, e2] at h2
    simpa using h2
  · rw [List.pairwise_iff_getElem]
    intro i j hi hj hij
    have hsz : d'.size = n := by rw [hp.1]; simpa using hz
    have hj2 : j < d'.size := by simpa using hj
    have := hs i j (Nat.zero_le _) hij (by omega)
    rw [getElem!_pos d' j hj2, getElem!_pos d' i (by omega)] at this
    simpa using this
  · subst hw
    refine RT.of_holds ?_
    unfold sortWorldK
    exact Sort.holdsK_grow _ _ _ os g 0 d' (by rw [Sort.size_putRowK]; exact hg) (Sort.holdsK_putRowK _ _ _ g 0 zs.toArray d' (Sort.holdsK_ahead _ _ w m g 0 zs.toArray hr.holds) hp.1)
  · subst hw
    exact sortWorld_kp w g m d' os
theorem sort_none (c : Nat) (fv : Value) (w : World) : Calls Try.prog 42 #[.slice none 0 c, fv] w fun e w' => e = .returned (.tuple #[]) ∧ w' = w := AnyF.slices_SortFunc_none sgSo none c fv w
end Qu
end Go.Proofs.Ytdmbbbljamjhkaa
