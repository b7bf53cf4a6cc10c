/- Package queue: All: a queue's tasks by ID, in a row of one's own. -/
import Derived.Test.YtglmhpmiphkjlaaLb2
import Derived.Test.YtglmhpmiphkjlaaLo
namespace Go.Proofs.Ytglmhpmiphkjlaa
open Go.RowKit Go.Shelf

namespace Qu
open Ls (T)
/-- maps.Values: the map is boxed. -/
theorem values_any (m : Option Nat) (w : World) : Calls Try.prog 37 #[.map m] w fun e w' => e = .returned (.func (.func 46) #[] #[.pointer (some ⟨w.heap.size, 0, none⟩)]) ∧ w' = w.alloc (.cells #[.map m] 24) := by
  go_enter Try.func37, Try.ntmps37
  go_wp2
  go_ret
  exact ⟨rfl, rfl⟩
theorem collect_any (m : Option Nat) (L : List T) (Bm : Nat) (w : World) (hL : Asc L) (hlen : L.length ≤ 100000) (hBm : Bm < w.heap.size) (hm : w.cell? ⟨Bm, 0, none⟩ = some (.map m)) (hown : (m = none ∧ L = []) ∨ ∃ b, m = some b ∧ Owns w b L) :
    Calls Try.prog 45 #[.func (.func 46) #[] #[.pointer (some ⟨Bm, 0, none⟩)]] w fun e W' => ∃ (v : Value) (ss : List T), e = .returned v ∧ ss.Perm L ∧ W'.ownsRow w.heap.size 38 12 v ss.length (ss.flatMap T.cells) ∧ Below w.heap.size w W' := by
  refine (collect_in Fence.wide 4 trivial trivial trivial rfl (Nat.le_refl _) Bm L (by omega) w ?_).calls (fun k d hd => by cases hd)
  rcases hown with ⟨rfl, rfl⟩ | ⟨b, rfl, ho⟩
  · exact values_stops0 Fence.wide _ trivial rfl Bm w hBm hm
  · exact values_stops Fence.wide _ trivial rfl (by decide) Bm b L hL w hBm hm ho
theorem asc_inj : ∀ {l : List T}, Asc l → ∀ {a b : T}, a ∈ l → b ∈ l → a.id = b.id → a = b
  | [], _, _, _, ha, _, _ => by cases ha
  | x :: r, h, a, b, ha, hb, e => by
    have h1 : ∀ y ∈ r, x.id < y.id := (List.pairwise_cons.1 h).1
    rcases List.mem_cons.1 ha with rfl | ha2 <;> rcases List.mem_cons.1 hb with rfl | hb2
    · rfl
    · have := h1 _ hb2; omega
    · have := h1 _ ha2; omega
    · exact asc_inj (List.pairwise_cons.1 h).2 ha2 hb2 e
theorem sorted_same {ss zs L : List T} (hL : Asc L) (h1 : ss.Perm zs) (h2 : zs.Perm L) (h3 : ss.Pairwise (fun a b => ltOf ci b a = false)) : ss = L := by
  refine List.Perm.eq_of_pairwise (le := fun a b => a.id ≤ b.id) (fun a b ha hb h4 h5 => ?_) (h3.imp fun {a b} h => ?_) (hL.imp fun h => by omega) (h1.trans h2)
  · have ha2 : a ∈ L := (h1.trans h2).mem_iff.1 ha
    exact asc_inj hL ha2 hb (by omega)
  · rw [false_iff, lt_ci] at h
    omega
def AllOut (w : World) (L : List T) (e : Ending) (w' : World) : Prop :=
  (∃ A n c, e = .returned (.slice A n c) ∧ KRow tκ w' w'.heap.size A n L ∧ ∀ a, A = some a → w.heap.size ≤ a.block) ∧ Below w.heap.size w w'
set_option maxHeartbeats 1600000 in
theorem sorted_any (m : Option Nat) (L : List T) (Bm : Nat) (w : World) (hL : Asc L) (hlen : L.length ≤ 100000) (hBm : Bm < w.heap.size) (hm : w.cell? ⟨Bm, 0, none⟩ = some (.map m)) (hown : (m = none ∧ L = []) ∨ ∃ b, m = some b ∧ Owns w b L) :
    Calls Try.prog 36 #[.func (.func 46) #[] #[.pointer (some ⟨Bm, 0, none⟩)], .func (.func 38) #[] #[]] w (AllOut w L) := by
  have HC := Lib.hid (collect_any m L Bm w hL hlen hBm hm hown)
  have HL := Lib.hid hL
  have HN := Lib.hid hlen
  clear hm hown hL hlen
  go_enter Try.func36, Try.ntmps36
  go_wp2_with fail
  refine HC.out.mono ?_
  rintro e w1 ⟨v, zs, rfl, hp, hrow, hb⟩
  obtain ⟨A, c, rfl, _⟩ := own_form hrow
  have HOWN : Hid (OwnK tκ w1 w.heap.size 38 A zs.length c zs) := ⟨by decide, hrow⟩
  have HP := Lib.hid hp
  have HB := Lib.hid hb
  have hzl : zs.length ≤ 100000 := by have := HP.out.length_eq; have := HN.out; omega
  clear hrow hp hb
  rcases own_g HOWN.out with ⟨rfl, h2, h3⟩ | ⟨g, rfl, h2, h3, h4⟩
  · obtain ⟨_, rfl, rfl⟩ := own_c HOWN.out
    have hs := Lib.hid (fun W => sort_none 0 (.func (.func 38) #[] #[]) W)
    obtain rfl : L = [] := List.nil_perm.1 HP.out
    clear h2 h3
    go_wp2_with fail
    refine (hs.out _).mono ?_
    rintro e w2 ⟨rfl, rfl⟩
    go_wp2
    go_ret
    exact ⟨⟨none, 0, 0, rfl, KRow.nil _ _ _, fun _ h => by cases h⟩, HB.out⟩
  · have HS := Lib.hid (sort_any 38 ci swo_ci (enters_of Try.func38 (by kernel_rfl) rfl) byid_any g zs zs.length c w1 rfl (by omega) h3 (RT.of_own HOWN.out))
    go_wp2_with fail
    refine HS.out.mono ?_
    rintro e w2 ⟨rfl, ss, hp3, hw3, hr3, hk3⟩
    have hg2 : g < w2.heap.size := Nat.lt_of_lt_of_le h3 hk3.size
    have hlen : ss.length = zs.length := hp3.length_eq
    obtain rfl := sorted_same HL.out hp3 HP.out hw3
    have HB2 := Lib.hid (HB.out.trans (hk3.below HB.out.size (fun i hi e => by subst e; omega)))
    have HKR := hr3.krow hg2
    rw [hlen] at HKR
    have HKR2 := Lib.hid HKR
    clear HKR hr3 hk3 hw3 hp3
    go_wp2
    go_ret
    exact ⟨⟨some ⟨g, 0, none⟩, zs.length, c, rfl, HKR2.out, fun a ha => by cases ha; exact h2⟩, HB2.out⟩
set_option maxHeartbeats 1600000 in
theorem all_any (q : Nat) (m : Option Nat) (l : List T) (w : World) (hq : QuC w q m l) (hl : l.length ≤ 100000) : Calls Try.prog 23 #[.pointer (some ⟨q, 0, none⟩)] w (AllOut w l) := by
  have c0 := hq.cel.cell 0 _ rfl
  have hba : Below w.heap.size w (w.alloc (.cells #[.map m] 24)) := (Below.refl _ _).alloc (Nat.le_refl _) _
  have hq1 := hq.below hba
  have HS := Lib.hid (sorted_any m l w.heap.size (w.alloc (.cells #[.map m] 24)) hq.asc hl (by simp) ((Cel.lit w #[.map m] 24).cell 0 _ rfl) hq1.own)
  have HB := Lib.hid hba
  clear hba hq1 hq hl
  go_enter Try.func23, Try.ntmps23
  go_wp2_with (first
    | (go_at_call 37; refine (values_any _ _).mono ?_; rintro e w' ⟨rfl, rfl⟩)
    | (go_at_call 36; refine HS.out.mono ?_; rintro e w2 ⟨⟨A, n, c, rfl, hr, hf⟩, hb⟩))
  go_ret
  refine ⟨⟨A, n, c, rfl, hr, fun a ha => ?_⟩, HB.out.trans (hb.mono (by simp))⟩
  have h1 := hf a ha
  have h2 : (w.alloc (.cells #[.map m] 24)).heap.size = w.heap.size + 1 := by simp
  omega
end Qu
end Go.Proofs.Ytglmhpmiphkjlaa
