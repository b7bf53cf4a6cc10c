/- Package state: All of a state's queue, in a row that may be rewritten; Of. Made out of XLc2. -/
import Derived.Test.YtdmbbbljamjhkaaLb2
import Derived.Test.YtdmbbbljamjhkaaLo
import Derived.Test.YtdmbbbljamjhkaaTsa
namespace Go.Proofs.Ytdmbbbljamjhkaa
open Go.RowKit Go.Shelf

namespace St
open Ls (T)
open Qu
theorem values_any (m : Option Nat) (w : World) : Calls Try.prog 28 #[.map m] w fun e w' => e = .returned (.func (.func 43) #[] #[.pointer (some ⟨w.heap.size, 0, none⟩)]) ∧ w' = w.alloc (.cells #[.map m] 28) := by
  go_enter Try.func28, Try.ntmps28
  go_wp2
  go_ret
  exact ⟨rfl, rfl⟩
theorem collect_any (m : Option Nat) (L : List T) (Bm : Nat) (w : World) (hL : Asc L) (hlen : L.length ≤ 100000) (hBm : Bm < w.heap.size) (hm : w.cell? ⟨Bm, 0, none⟩ = some (.map m)) (hown : (m = none ∧ L = []) ∨ ∃ b, m = some b ∧ Owns w b L) :
    Calls Try.prog 41 #[.func (.func 43) #[] #[.pointer (some ⟨Bm, 0, none⟩)]] w fun e W' => ∃ (v : Value) (ss : List T), e = .returned v ∧ ss.Perm L ∧ W'.ownsRow w.heap.size 39 12 v ss.length (ss.flatMap T.cells) ∧ Below w.heap.size w W' := by
  refine (collect_in Fence.wide 4 trivial trivial trivial rfl (Nat.le_refl _) Bm L (by omega) w ?_).calls (fun k d hd => by cases hd)
  rcases hown with ⟨rfl, rfl⟩ | ⟨b, rfl, ho⟩
  · exact values_stops0 Fence.wide _ trivial rfl Bm w hBm hm
  · exact values_stops Fence.wide _ trivial rfl (by decide) Bm b L hL w hBm hm ho
theorem asc_inj : ∀ {l : List T}, Asc l → ∀ {a b : T}, a ∈ l → b ∈ l → a.id = b.id → a = b
  | [], _, _, _, ha, _, _ => by cases ha
  | x :: r, h, a, b, ha, hb, e => by
    have h1 : ∀ y ∈ r, x.id < y.id := (List.pairwise_cons.1 h).1
    rcases List.mem_cons.1 ha with rfl | ha2 <;> rcases List.mem_cons.1 hb with rfl | hb2
    · rfl
    · have := h1 _ hb2; omega
    · have := h1 _ ha2; omega
    · exact asc_inj (List.pairwise_cons.1 h).2 ha2 hb2 e
theorem sorted_same {ss zs L : List T} (hL : Asc L) (h1 : ss.Perm zs) (h2 : zs.Perm L) (h3 : ss.Pairwise (fun a b => ltOf ci b a = false)) : ss = L := by
  refine List.Perm.eq_of_pairwise (le := fun a b => a.id ≤ b.id) (fun a b ha hb h4 h5 => ?_) (h3.imp fun {a b} h => ?_) (hL.imp fun h => by omega) (h1.trans h2)
  · have ha2 : a ∈ L := (h1.trans h2).mem_iff.1 ha
    exact asc_inj hL ha2 hb (by omega)
  · rw [Qu.false_iff, lt_ci] at h
    omega
def AllOut (w : World) (L : List T) (e : Ending) (w' : World) : Prop :=
  (∃ A n c, e = .returned (.slice A n c) ∧ n ≤ c ∧ KRow tκ w' w'.heap.size A n L ∧ ((A = none ∧ c = 0) ∨ ∃ g, A = some ⟨g, 0, none⟩ ∧ w.heap.size ≤ g ∧ g < w'.heap.size ∧ RT w' g L)) ∧ Below w.heap.size w w'
set_option maxHeartbeats 1600000 in
theorem sorted_any (m : Option Nat) (L : List T) (Bm : Nat) (w : World) (hL : Asc L) (hlen : L.length ≤ 100000) (hBm : Bm < w.heap.size) (hm : w.cell? ⟨Bm, 0, none⟩ = some (.map m)) (hown : (m = none ∧ L = []) ∨ ∃ b, m = some b ∧ Owns w b L) :
    Calls Try.prog 27 #[.func (.func 43) #[] #[.pointer (some ⟨Bm, 0, none⟩)], .func (.func 29) #[] #[]] w (AllOut w L) := by
  have HC := Lib.hid (collect_any m L Bm w hL hlen hBm hm hown)
  have HL := Lib.hid hL
  have HN := Lib.hid hlen
  clear hm hown hL hlen
  go_enter Try.func27, Try.ntmps27
  go_wp2_with fail
  refine HC.out.mono ?_
  rintro e w1 ⟨v, zs, rfl, hp, hrow, hb⟩
  obtain ⟨A, c, rfl, _⟩ := own_form hrow
  have HOWN : Hid (OwnK tκ w1 w.heap.size 39 A zs.length c zs) := ⟨by decide, hrow⟩
  have HP := Lib.hid hp
  have HB := Lib.hid hb
  have hzl : zs.length ≤ 100000 := by have := HP.out.length_eq; have := HN.out; omega
  clear hrow hp hb
  rcases own_g HOWN.out with ⟨rfl, h2, h3⟩ | ⟨g, rfl, h2, h3, h4⟩
  · obtain ⟨_, rfl, rfl⟩ := own_c HOWN.out
    have hs := Lib.hid (fun W => sort_none 0 (.func (.func 29) #[] #[]) W)
    obtain rfl : L = [] := List.nil_perm.1 HP.out
    clear h2 h3
    go_wp2_with fail
    refine (hs.out _).mono ?_
    rintro e w2 ⟨rfl, rfl⟩
    go_wp2
    go_ret
    exact ⟨⟨none, 0, 0, rfl, Nat.le_refl _, KRow.nil _ _ _, .inl ⟨rfl, rfl⟩⟩, HB.out⟩
  · have HS := Lib.hid (sort_any 29 ci swo_ci (enters_of Try.func29 (by kernel_rfl) rfl) byid_any g zs zs.length c w1 rfl (by omega) h3 (RT.of_own HOWN.out))
    go_wp2_with fail
    refine HS.out.mono ?_
    rintro e w2 ⟨rfl, ss, hp3, hw3, hr3, hk3⟩
    have hg2 : g < w2.heap.size := Nat.lt_of_lt_of_le h3 hk3.size
    have hlen : ss.length = zs.length := hp3.length_eq
    obtain rfl := sorted_same HL.out hp3 HP.out hw3
    have HB2 := Lib.hid (HB.out.trans (hk3.below HB.out.size (fun i hi e => by subst e; omega)))
    have HKR := hr3.krow hg2
    rw [hlen] at HKR
    have HKR2 := Lib.hid HKR
    have HR3 := Lib.hid hr3
    clear HKR hr3 hk3 hw3 hp3
    go_wp2
    go_ret
    exact ⟨⟨some ⟨g, 0, none⟩, zs.length, c, rfl, h4, HKR2.out, .inr ⟨g, rfl, h2, hg2, HR3.out⟩⟩, HB2.out⟩
set_option maxHeartbeats 1600000 in
theorem all_any (q : Nat) (m : Option Nat) (l : List T) (w : World) (hq : QuC w q m l) (hl : l.length ≤ 100000) : Calls Try.prog 13 #[.pointer (some ⟨q, 0, none⟩)] w (AllOut w l) := by
  have c0 := hq.cel.cell 0 _ rfl
  have hba : Below w.heap.size w (w.alloc (.cells #[.map m] 28)) := (Below.refl _ _).alloc (Nat.le_refl _) _
  have hq1 := hq.below hba
  have HS := Lib.hid (sorted_any m l w.heap.size (w.alloc (.cells #[.map m] 28)) hq.asc hl (by simp) ((Cel.lit w #[.map m] 28).cell 0 _ rfl) hq1.own)
  have HB := Lib.hid hba
  clear hba hq1 hq hl
  go_enter Try.func13, Try.ntmps13
  go_wp2_with (first
    | (go_at_call 28; refine (values_any _ _).mono ?_; rintro e w' ⟨rfl, rfl⟩)
    | (go_at_call 27; refine HS.out.mono ?_; rintro e w2 ⟨⟨A, n, c, rfl, hnc, hr, hf⟩, hb⟩))
  go_ret
  have h2 : (w.alloc (.cells #[.map m] 28)).heap.size = w.heap.size + 1 := by simp
  refine ⟨⟨A, n, c, rfl, hnc, hr, ?_⟩, HB.out.trans (hb.mono (by simp))⟩
  rcases hf with hf | ⟨g, rfl, h3, h4, h5⟩
  · exact .inl hf
  · exact .inr ⟨g, rfl, by omega, h4, h5⟩
/-- Those of an instance. -/
def ofL (L : List T) (k : Int) : List T := L.filter (ofI · k)
set_option maxHeartbeats 800000 in
theorem delf_none (f : Value) (w : World) : Calls Try.prog 12 #[.slice none 0 0, f] w fun e w' => e = .returned (.slice none 0 0) ∧ w = w' := by
  go_enter Try.func12, Try.ntmps12
  go_wp2_with fail
  refine (ix_none 0 f w).mono ?_
  rintro e w1 ⟨rfl, rfl⟩
  go_wp2
  go_ret
  exact ⟨rfl, rfl⟩
set_option maxHeartbeats 1600000 in
theorem of_any (q : Nat) (m : Option Nat) (l : List T) (k : Int) (w : World) (hq : QuC w q m l) (hl : l.length ≤ 100000) :
    Calls Try.prog 8 #[.pointer (some ⟨q, 0, none⟩), .int .i64 k] w fun e w' =>
      (∃ A c, e = .returned (.slice A (ofL l k).length c) ∧ KRow tκ w' w'.heap.size A (ofL l k).length (ofL l k)) ∧ Below w.heap.size w w' := by
  have hba : Below w.heap.size w (w.alloc (.cells #[.int .i64 k] 3)) := (Below.refl _ _).alloc (Nat.le_refl _) _
  have hk : Cel (w.alloc (.cells #[.int .i64 k] 3)) w.heap.size [.int .i64 k] := Cel.lit w #[.int .i64 k] 3
  have HA := Lib.hid (all_any q m l _ (hq.below hba) hl)
  have HL := Lib.hid hl
  have HB := Lib.hid hba
  have HC := Lib.hid hk
  have HZ := Lib.hid (show (w.alloc (.cells #[.int .i64 k] 3)).heap.size = w.heap.size + 1 by simp)
  clear hba hk hq hl
  go_enter Try.func8, Try.ntmps8
  go_wp2_with fail
  generalize w.alloc _ = wa at *
  refine HA.out.mono ?_
  rintro e w1 ⟨⟨A, n, c, rfl, hnc, hr, hf⟩, hb1⟩
  have HB1 := Lib.hid (HB.out.trans (hb1.mono HB.out.size))
  have hln : l.length = n := hr.len (by decide)
  have HLN := Lib.hid hln
  have hcell : w1.cell? ⟨w.heap.size, 0, none⟩ = some (.int .i64 k) := (HC.out.below hb1 (by have := HZ.out; omega)).cell 0 _ rfl
  rcases hf with ⟨rfl, rfl⟩ | ⟨g, rfl, hg0, hg1, hrt⟩
  · obtain rfl : n = 0 := by omega
    obtain rfl : l = [] := List.eq_nil_of_length_eq_zero hln
    clear hcell hr hb1 hnc hln HA HC
    go_wp2_with fail
    refine (delf_none _ _).mono ?_
    rintro e w2 ⟨rfl, rfl⟩
    go_wp2
    go_ret
    exact ⟨⟨none, 0, rfl, KRow.nil _ _ _⟩, HB1.out⟩
  · have HD := Lib.hid (delf_any w.heap.size g k l n c w1 hln (by have := HL.out; omega) hnc hcell (by have := HZ.out; omega) hg1 hrt)
    have HG := Lib.hid hg1
    have HG0 : Hid (w.heap.size ≤ g) := by have := HZ.out; unfold Hid; omega
    clear hcell hr hb1 hnc hln HA HC hrt
    go_wp2_with fail
    refine HD.out.mono ?_
    rintro e w2 ⟨rfl, hrt2, hk2⟩
    have HR2 := Lib.hid (hrt2.krow (Nat.lt_of_lt_of_le HG.out hk2.size))
    have HB2 := Lib.hid (HB1.out.trans (hk2.below HB1.out.size (fun i hi e => by subst e; have := HG0.out; omega)))
    clear hrt2 hk2
    go_wp2
    go_ret
    exact ⟨⟨_, c, rfl, HR2.out⟩, HB2.out⟩
end St
end Go.Proofs.Ytdmbbbljamjhkaa
