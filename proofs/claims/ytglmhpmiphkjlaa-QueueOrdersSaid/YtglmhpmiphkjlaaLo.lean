/- Package queue: Pick. -/
import Derived.Test.YtglmhpmiphkjlaaLj
import Derived.Test.YtglmhpmiphkjlaaLn
namespace Go.Proofs.Ytglmhpmiphkjlaa
open Go.RowKit

namespace Qu
open Ls (T)
/-- What may be picked. -/
def cand (l : List T) (now : Int) (ts : List ByteArray) : List T := l.filter fun x => asks ts x.top && x.free now
/-- What Pick tells. -/
def IsPick (l : List T) (now most : Int) (ts : List ByteArray) (r : List T) : Prop := ∃ s : List T, s.Perm (cand l now ts) ∧ s.Pairwise (fun a b => ¬ Ahead b a) ∧ r = s.take most.toNat
theorem sorted_is (l : List T) : ∃ s : List T, s.Perm l ∧ s.Pairwise (fun a b => ¬ Ahead b a) := by
  refine ⟨l.mergeSort (fun a b => !ltOf cf b a), List.mergeSort_perm _ _, ?_⟩
  have h := List.pairwise_mergeSort (le := fun a b : T => !ltOf cf b a) (fun a b c h1 h2 => by
    simp only [Bool.not_eq_true'] at *
    exact swo_cf.ntrans c b a h2 h1) (fun a b => by
    cases h1 : ltOf cf b a with
    | false => rfl
    | true =>
      have h2 : ltOf cf a b = false := by
        rw [false_iff, lt_cf]
        rw [lt_cf] at h1
        unfold Ahead at *
        omega
      rw [h2]
      rfl) l
  refine h.imp fun {a b} hab => ?_
  rw [← lt_cf, ← false_iff]
  simpa using hab
theorem delf_none (c : Nat) (fv : Value) (w : World) : Calls Try.prog 30 #[.slice none 0 c, fv] w fun e w' => e = .returned (.slice none 0 c) ∧ w' = w := by
  have hx := fun W => ix_none c fv W
  go_enter Try.func30, Try.ntmps30
  go_wp2_with (go_at_call 40; refine (hx _).mono ?_; rintro e w' ⟨rfl, rfl⟩)
  go_ret
  exact ⟨rfl, rfl⟩
theorem own_c {w : World} {base n c : Nat} {e : TypeId} {r : List T} (h : OwnK tκ w base e none n c r) : n = 0 ∧ c = 0 ∧ r = [] := by
  obtain ⟨h1, h2⟩ := h.nn rfl
  refine ⟨h1, h2, ?_⟩
  have := h.len
  rw [h1] at this
  exact List.eq_nil_of_length_eq_zero this
def PickOut (w : World) (l : List T) (now most : Int) (ts : List ByteArray) (e : Ending) (w' : World) : Prop :=
  (∃ A' n' c' r, e = .returned (.slice A' n' c') ∧ IsPick l now most ts r ∧ KRow tκ w' w'.heap.size A' n' r ∧ ∀ a, A' = some a → w.heap.size ≤ a.block) ∧ Below w.heap.size w w'
set_option maxRecDepth 100000 in
set_option maxHeartbeats 3200000 in
theorem pick_any (q : Nat) (m : Option Nat) (l : List T) (now most : Int) (A : Option Addr) (n c : Nat) (ts : List ByteArray) (w : World) (hq : QuC w q m l) (hx : KRow xκ w w.heap.size A n ts) (hts : ∀ s ∈ ts, s.size ≤ 1000) (hn : n ≤ 100000) (hl : l.length ≤ 100000) :
    Calls Try.prog 18 #[.pointer (some ⟨q, 0, none⟩), .int .i64 now, .int .i64 most, .slice A n c] w (PickOut w l now most ts) := by
  have hba : Below w.heap.size w (w.alloc (.cells #[.int .i64 now] 2)) := (Below.refl _ _).alloc (Nat.le_refl _) _
  have hca := Cel.lit w #[.int .i64 now] 2
  have HOF := Lib.hid (of_any q m l A n c ts (w.alloc (.cells #[.int .i64 now] 2)) (hq.below hba) ((hx.below hba (Nat.le_refl _)).mono hba.size) hts hn hl)
  have HB := Lib.hid hba
  have HC := Lib.hid hca
  have hws : (w.alloc (.cells #[.int .i64 now] 2)).heap.size = w.heap.size + 1 := by simp
  have HL := Lib.hid hl
  rw [hws] at HOF
  clear hq hx hts hn hl hba hca
  by_cases hm : most < 1
  · go_enter Try.func18, Try.ntmps18
    go_wp2
    go_ret
    obtain ⟨s, h1, h2⟩ := sorted_is (cand l now ts)
    exact ⟨⟨none, 0, 0, [], rfl, ⟨s, h1, h2, by rw [show most.toNat = 0 by omega, List.take_zero]⟩, KRow.nil _ _ _, fun _ h => by cases h⟩, HB.out⟩
  · go_enter Try.func18, Try.ntmps18
    go_upto_region 4 with (fail)
    generalize w.alloc _ = wa at *
    go_wp2_with fail
    refine HOF.out.mono ?_
    rintro e w1 ⟨⟨A1, n1, c1, r, rfl, hown, hperm⟩, hb1⟩
    have HOWN := Lib.hid hown
    have HP := Lib.hid hperm
    have HB1 := Lib.hid hb1
    clear hown hperm hb1
    have hrl : n1 ≤ 100000 := by
      have h1 := HP.out.length_eq
      have h2 := HOWN.out.len
      have h3 := List.length_filter_le (fun x : T => asks ts x.top) l
      have h4 := HL.out
      omega
    have hc0 := HC.out.cell 0 _ rfl
    have hc1 := (HB1.out.cell (p := ⟨w.heap.size, 0, none⟩) (by show w.heap.size < _; omega)).trans hc0
    have HC1 := Lib.hid hc1
    clear hc0 hc1
    rcases own_g HOWN.out with ⟨rfl, h2, h3⟩ | ⟨g, rfl, h2, h3, h4⟩
    · obtain ⟨rfl, rfl, rfl⟩ := own_c HOWN.out
      have hd := Lib.hid (fun W => delf_none 0 (.func (.func 28) #[] #[.pointer (some ⟨w.heap.size, 0, none⟩)]) W)
      have hs := Lib.hid (fun W => sort_none 0 (.func (.func 33) #[] #[]) W)
      have HE : Hid (IsPick l now most ts []) := by
        refine ⟨[], ?_, List.Pairwise.nil, by simp⟩
        unfold cand
        have h1 := HP.out.symm
        have h2 : (l.filter fun x => asks ts x.top) = [] := List.perm_nil.1 h1
        have h3 : (l.filter fun x => asks ts x.top && x.free now) = [] := by
          rw [List.filter_eq_nil_iff] at h2 ⊢
          intro x hx h
          rw [Bool.and_eq_true] at h
          exact h2 x hx h.1
        rw [h3]
      clear h2 h3
      go_wp2_with fail
      refine (hd.out _).mono ?_
      rintro e w2 ⟨rfl, rfl⟩
      go_wp2_with fail
      refine (hs.out _).mono ?_
      rintro e w3 ⟨rfl, rfl⟩
      have hmn : ¬ most ≤ 0 := by omega
      go_wp2
      go_ret
      exact ⟨⟨none, 0, 0, [], by show Ending.returned (.slice none (min most 0).toNat 0) = _; rw [show (min most 0).toNat = 0 by omega], HE.out, KRow.nil _ _ _, fun _ h => (by cases h)⟩, HB.out.trans (HB1.out.mono (Nat.le_succ _))⟩
    · have hne : w.heap.size ≠ g := by omega
      have HD := Lib.hid (delf_any w.heap.size g now r n1 c1 w1 HOWN.out.len (by omega) h4 HC1.out hne h3 (RT.of_own HOWN.out))
      have HF : Hid ((r.filter (T.free · now)).Perm (cand l now ts)) := by
        have h1 := HP.out.filter (T.free · now)
        rw [List.filter_filter] at h1
        refine h1.trans (List.Perm.of_eq ?_)
        unfold cand
        refine List.filter_congr fun x _ => ?_
        rw [Bool.and_comm]
      have hfl := List.length_filter_le (T.free · now) r
      rw [HOWN.out.len] at hfl
      generalize r.filter (T.free · now) = f at *
      go_wp2_with fail
      refine HD.out.mono ?_
      rintro e w2 ⟨rfl, hr2, hk2⟩
      have hg2 : g < w2.heap.size := Nat.lt_of_lt_of_le h3 hk2.size
      have HS := Lib.hid (sort_any 33 cf swo_cf (enters_of Try.func33 (by kernel_rfl) rfl) order_any g f f.length c1 w2 rfl (by omega) hg2 hr2)
      have HK2 := Lib.hid hk2
      clear hr2 hk2
      go_wp2_with fail
      refine HS.out.mono ?_
      rintro e w3 ⟨rfl, ss, hp3, hw3, hr3, hk3⟩
      have HP3 := Lib.hid hp3
      have HW3 := Lib.hid hw3
      have HR3 := Lib.hid hr3
      have HK3 := Lib.hid hk3
      clear hp3 hw3 hr3 hk3
      have hm1 : 1 ≤ most := by omega
      have HBF : Hid (Below w.heap.size w w3) := by
        have b1 : Below w.heap.size w w1 := HB.out.trans (HB1.out.mono (Nat.le_succ _))
        have b2 : Below w.heap.size w1 w2 := HK2.out.below b1.size (fun i hi e => by subst e; omega)
        have b3 : Below w.heap.size w2 w3 := HK3.out.below (Nat.le_trans b1.size HK2.out.size) (fun i hi e => by subst e; omega)
        exact (b1.trans b2).trans b3
      have hg3 : g < w3.heap.size := Nat.lt_of_lt_of_le hg2 HK3.out.size
      have HPK : Hid (∀ k : Nat, most.toNat = k → IsPick l now most ts (ss.take k)) := fun k hk => ⟨ss, HP3.out.trans HF.out, HW3.out.imp (fun {a b} hab => by rw [← lt_cf, ← false_iff]; exact hab), by rw [hk]⟩
      have hlen : ss.length = f.length := HP3.out.length_eq
      by_cases hmf : most ≤ (f.length : Int)
      · obtain ⟨k, rfl⟩ : ∃ k : Nat, most = (k : Int) := ⟨most.toNat, by omega⟩
        have HK : Hid (k ≤ f.length) := by
          show k ≤ f.length
          omega
        have hkc : (k : Int) ≤ (c1 : Int) := by omega
        have HKR := (HR3.out.take k).krow hg3
        rw [List.length_take, Nat.min_eq_left (by omega)] at HKR
        have HKR2 := Lib.hid HKR
        clear HKR
        go_wp2
        go_ret
        exact ⟨⟨some ⟨g, 0, none⟩, k, c1, _, by show Ending.returned (.slice (some ⟨g, 0, none⟩) (min (k : Int) (f.length : Int)).toNat c1) = _; rw [show (min (k : Int) (f.length : Int)).toNat = k by omega], HPK.out k (by omega), HKR2.out, fun a ha => by cases ha; show w.heap.size ≤ g; omega⟩, HBF.out⟩
      · have hmf2 : (f.length : Int) < most := by omega
        have hkc : (f.length : Int) ≤ (c1 : Int) := by omega
        have HKR := HR3.out.krow hg3
        rw [hlen] at HKR
        have HKR2 := Lib.hid HKR
        clear HKR
        go_wp2
        go_ret
        refine ⟨⟨some ⟨g, 0, none⟩, f.length, c1, ss, by show Ending.returned (.slice (some ⟨g, 0, none⟩) (min most (f.length : Int)).toNat c1) = _; rw [show (min most (f.length : Int)).toNat = f.length by omega], ?_, HKR2.out, fun a ha => by cases ha; show w.heap.size ≤ g; omega⟩, HBF.out⟩
        have h := HPK.out most.toNat rfl
        rwa [List.take_of_length_le (by omega)] at h
end Qu
end Go.Proofs.Ytglmhpmiphkjlaa
