/- Walks of package num: Text of a Reader, and what a Reader tells of itself. -/
import Derived.Test.YtggplgmjonnliaaGreatDoorRdi
namespace Go.Proofs.YtggplgmjonnliaaGreatDoor
open Go.RowKit

theorem intSays_range {lo hi : Int} {l : List UInt8} {e : Int} (h : (intSays lo hi l e).2.2 = 0) : lo ≤ (intSays lo hi l e).1 ∧ (intSays lo hi l e).1 ≤ hi := by
  unfold intSays at h ⊢
  split at h
  · next he => exact absurd h he
  · next he =>
    rw [if_neg he]
    split at h
    · next h2 => exact absurd h h2
    · next h2 =>
      rw [if_neg h2]
      split at h
      · cases h
      · next h3 =>
        rw [if_neg h3]
        show lo ≤ zag _ ∧ zag _ ≤ hi
        omega

/-- What Text answers, what is then left, the error. -/
def textSays (most : Int) (l : List UInt8) (e : Int) : List UInt8 × List UInt8 × Int :=
  if (intSays 0 2147483647 l e).2.2 ≠ 0 then ([], (intSays 0 2147483647 l e).2) else
    if most < (intSays 0 2147483647 l e).1 then ([], (intSays 0 2147483647 l e).2.1, 105) else
      if ((intSays 0 2147483647 l e).2.1.length : Int) < (intSays 0 2147483647 l e).1 then ([], (intSays 0 2147483647 l e).2.1, 101) else
        ((intSays 0 2147483647 l e).2.1.take (intSays 0 2147483647 l e).1.toNat, (intSays 0 2147483647 l e).2.1.drop (intSays 0 2147483647 l e).1.toNat, 0)

section
variable {E : Int → Option Addr} {W w : World} {p : Nat} {l : List UInt8} {e : Int}
set_option maxRecDepth 4000 in
set_option maxHeartbeats 1600000 in
theorem text_any (most : Int) (hE : RdErrs W E) (hb : Below W.heap.size W w) (hp : W.heap.size ≤ p) (hR : RdC E w p l e) :
    Calls Tryz.prog 43 #[.pointer (some ⟨p, 0, none⟩), .int .i64 most] w fun x w' => x = .returned (.string ⟨(textSays most l e).1.toArray⟩) ∧ RdC E w' p (textSays most l e).2.1 (textSays most l e).2.2 ∧ w.grownBy w' (some p) := by
  have hgr : ∀ {w1 : World}, w.grownBy w1 (some p) → Below W.heap.size W w1 := fun hg => hb.grown hg hb.size (fun k hk => by cases hk; exact hp)
  have hN := int_any 0 2147483647 hE hb hp hR
  have hrg := intSays_range (lo := 0) (hi := 2147483647) (l := l) (e := e)
  have hS : textSays most l e = _ := rfl
  unfold textSays at hS
  change textSays most l e = _ at hS
  generalize textSays most l e = R at *
  generalize intSays 0 2147483647 l e = r at *
  obtain ⟨z, l', e'⟩ := r
  simp only at hS hN hrg
  have HS := Lib.hid hS
  have HR := Lib.hid hrg
  clear hS hrg
  go_enter Tryz.func43, Tryz.ntmps43
  go_wp2_with fail
  refine hN.mono ?_
  rintro x w1 ⟨rfl, hR1, hg1⟩
  obtain ⟨A, n, c, ev, h0, h1, f0, f1, hr, hA, hnc, hc, ha, hs⟩ := hR1.ex
  by_cases he' : e' = 0
  · subst he'
    obtain ⟨k, rfl⟩ : ∃ k : Nat, z = (k : Int) := ⟨z.toNat, by have := (HR.out rfl).1; omega⟩
    clear HR
    have hln := hr.len
    obtain rfl := seen_nil hs
    by_cases hmost : most < (k : Int)
    · obtain rfl : R = ([], l', 105) := by rw [HS.out, if_neg (by simp), if_pos hmost]
      clear HS
      obtain ⟨a, hka, hgl⟩ := hE.at105 ((hgr hg1))
      unfold errV at hgl
      go_wp2
      go_ret
      exact ⟨rfl, RdC.set1 h0 h1 f0 f1 hr hA hnc hc ha (SeenBy.err 105 a hka (by decide)), hg1.trans (grown_setCell _ _ _)⟩
    · by_cases hend : (l'.length : Int) < (k : Int)
      · obtain rfl : R = ([], l', 101) := by rw [HS.out, if_neg (by simp), if_neg hmost, if_pos hend]
        clear HS
        obtain ⟨a, hka, hgl⟩ := hE.at101 ((hgr hg1))
        unfold errV at hgl
        rw [hln] at hend
        go_wp2
        go_ret
        exact ⟨rfl, RdC.set1 h0 h1 f0 f1 hr hA hnc hc ha (SeenBy.err 101 a hka (by decide)), hg1.trans (grown_setCell _ _ _)⟩
      · obtain rfl : R = (l'.take k, l'.drop k, 0) := by rw [HS.out, if_neg (by simp), if_neg hmost, if_neg hend, Int.toNat_natCast]
        clear HS
        rw [hln] at hend
        have hfr := hr.front (k := k) (by omega)
        have k1 := hfr.string (P := Tryz.prog) (fun h => by have := (hA h).1; omega) c 34 9 5 Tryz.underlying34 Tryz.underlying5 Tryz.underlying9
        generalize hT : l'.take k = T at *
        by_cases hn0 : n = 0
        · subst hn0
          obtain rfl : k = 0 := by omega
          obtain rfl : l' = [] := List.eq_nil_of_length_eq_zero hln
          obtain rfl : [] = T := by simpa using hT
          clear hT
          cases A with
          | none =>
            obtain ⟨_, rfl⟩ := hA rfl
            go_wp2
            go_ret
            exact ⟨rfl, RdC.set0 h0 h1 f0 f1 (Bytes.nil _ _ _) (fun _ => ⟨rfl, rfl⟩) (by omega) (by omega) (fun a h => by cases h) hs, hg1.trans (grown_setCell _ _ _)⟩
          | some a =>
            go_wp2
            go_ret
            exact ⟨rfl, RdC.set0 h0 h1 f0 f1 (Bytes.nil _ _ _) (fun h => by cases h) (by omega) (by omega) ha hs, hg1.trans (grown_setCell _ _ _)⟩
        · obtain ⟨b, off, rfl, hbb, _⟩ := hr.2 (by omega)
          have hbp' := ha _ rfl
          have hbp : b ≠ p := Nat.ne_of_lt hbp'
          have hbk := hr.back (k := k) (by omega)
          by_cases hck : k = c
          · subst hck
            obtain rfl : n = k := by omega
            go_wp2
            go_ret
            refine ⟨rfl, RdC.set0 h0 h1 f0 f1 ?_ (fun h => by cases h) (by omega) (by omega) (fun a h => by cases h; exact hbp') hs, hg1.trans (grown_setCell _ _ _)⟩
            rw [show l'.drop n = [] from List.drop_eq_nil_of_le (by omega)]
            first
              | exact Bytes.nil _ _ _
              | (rw [Nat.sub_self]; exact Bytes.nil _ _ _)
          · go_wp2
            go_ret
            refine ⟨rfl, RdC.set0 h0 h1 f0 f1 ?_ (fun h => by cases h) (by omega) (by omega) (fun a h => by cases h; exact hbp') hs, hg1.trans (grown_setCell _ _ _)⟩
            exact hbk
  · obtain rfl : R = ([], l', e') := by rw [HS.out, if_pos he']
    clear HS HR
    obtain ⟨a, rfl⟩ := seen_not hs he'
    unfold errV at h1
    go_wp2
    go_ret
    exact ⟨rfl, hR1, hg1⟩

set_option maxHeartbeats 400000 in
theorem err_any (hR : RdC E w p l e) :
    Calls Tryz.prog 22 #[.pointer (some ⟨p, 0, none⟩)] w fun x w' => (∃ ev, x = .returned ev ∧ SeenBy E ev e) ∧ w = w' := by
  obtain ⟨A, n, c, ev, h0, h1, f0, f1, hr, hA, hnc, hc, ha, hs⟩ := hR.ex
  go_enter Tryz.func22, Tryz.ntmps22
  go_wp2
  go_ret
  exact ⟨⟨ev, rfl, hs⟩, rfl⟩

set_option maxHeartbeats 400000 in
theorem left_any (hR : RdC E w p l e) :
    Calls Tryz.prog 24 #[.pointer (some ⟨p, 0, none⟩)] w fun x w' => x = .returned (.int .i64 l.length) ∧ w = w' := by
  obtain ⟨A, n, c, ev, h0, h1, f0, f1, hr, hA, hnc, hc, ha, hs⟩ := hR.ex
  have hln := hr.len
  rw [hln]
  go_enter Tryz.func24, Tryz.ntmps24
  go_wp2
  go_ret
  exact ⟨rfl, rfl⟩

/-- What Done tells. -/
def doneSays (l : List UInt8) (e : Int) : Int := if e = 0 ∧ l ≠ [] then 102 else e


set_option maxHeartbeats 400000 in
theorem read_any (A : Option Addr) (n c : Nat) (hr : Bytes w w.heap.size A n l) (hA : A = none → n = 0 ∧ c = 0) (hn : n ≤ 70368744177664) :
    Calls Tryz.prog 18 #[.slice A n c] w fun x w' => ∃ p, x = .returned (.pointer (some ⟨p, 0, none⟩)) ∧ w.heap.size ≤ p ∧ RdC E w' p l 0 ∧ Below w.heap.size w w' := by
  go_enter Tryz.func18, Tryz.ntmps18
  go_wp2_with fail
  refine (clone_any A n c l w hr hA (by omega)).mono ?_
  rintro x w1 ⟨A1, c1, rfl, ho1, hb1⟩
  have hs1 := hb1.size
  go_wp2
  go_ret
  have hh := heap_alloc_new w1 (.cells #[.slice A1 n c1, .nilIface] 79)
  have hz := (Below.refl w1.heap.size w1).alloc (Nat.le_refl _) (.cells #[.slice A1 n c1, .nilIface] 79)
  refine ⟨w1.heap.size, rfl, hs1, ⟨A1, n, c1, .nilIface, ?_, ?_, ?_, ?_, ?_, ho1.nn, ho1.cap, ho1.most, ?_, SeenBy.nil⟩, hb1.alloc hs1 _⟩
  · exact cell_of_row _ w1.heap.size 0 _ _ (0, 0) hh
  · exact cell_of_row _ w1.heap.size 1 _ _ (0, 0) hh
  · unfold World.frozen?; rw [hh]; rfl
  · unfold World.frozen?; rw [hh]; rfl
  · exact (ho1.bytes.below hz (Nat.le_refl _)).mono (by simp)
  · intro a h
    obtain ⟨_, hlt⟩ := World.ownsRow.lt ho1 a.block (by rw [h]; rfl)
    omega
end
end Go.Proofs.YtggplgmjonnliaaGreatDoor
