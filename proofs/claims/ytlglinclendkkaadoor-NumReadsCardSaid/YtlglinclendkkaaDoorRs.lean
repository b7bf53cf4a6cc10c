/- Walks of the document's own Reader: Text, Flag, Done. -/
import Derived.Test.YtlglinclendkkaaDoorRr
namespace Go.Proofs.YtlglinclendkkaaDoor
open Go.RowKit

section
variable {w : World} {B p : Nat} {l : List UInt8} {e : Int}
set_option maxRecDepth 4000 in
set_option maxHeartbeats 1600000 in
theorem refText_any (most : Int) (hR : RdD w B p l e) :
    Calls Tryd.prog 12 #[.pointer (some ⟨p, 0, none⟩), .int .i64 most] w fun x w' => x = .returned (.string ⟨(textSays most l e).1.toArray⟩) ∧ RdD w' B p (textSays most l e).2.1 (textSays most l e).2.2 ∧ w.grownBy w' (some p) := by
  have hN := refInt_any 0 2147483647 hR
  have hrg := intSays_range (lo := 0) (hi := 2147483647) (l := l) (e := e)
  have hlow := hR.low
  have hS : textSays most l e = _ := rfl
  unfold textSays at hS
  change textSays most l e = _ at hS
  generalize textSays most l e = R at *
  generalize intSays 0 2147483647 l e = r at *
  obtain ⟨z, l', e'⟩ := r
  simp only at hS hN hrg
  have HS := Lib.hid hS
  have HR := Lib.hid hrg
  clear hS hrg
  go_enter Tryd.func12, Tryd.ntmps12
  go_wp2_with fail
  refine hN.mono ?_
  rintro x w1 ⟨rfl, hR1, hg1⟩
  obtain ⟨A, n, c, h0, h1, f0, f1, hr, hA, hnc, hc, ha⟩ := hR1.ex
  by_cases he' : e' = 0
  · subst he'
    obtain ⟨k, rfl⟩ : ∃ k : Nat, z = (k : Int) := ⟨z.toNat, by have := (HR.out rfl).1; omega⟩
    clear HR
    have hln := hr.len
    by_cases hmost : most < (k : Int)
    · obtain rfl : R = ([], l', 105) := by rw [HS.out, if_neg (by simp), if_pos hmost]
      clear HS
      go_wp2_with fail
      refine (refFail_any 105 hR1).mono ?_
      rintro y w2 ⟨⟨v, rfl⟩, hR2, hg2⟩
      go_wp2
      go_ret
      exact ⟨rfl, hR2, hg1.trans hg2⟩
    · by_cases hend : (l'.length : Int) < (k : Int)
      · obtain rfl : R = ([], l', 101) := by rw [HS.out, if_neg (by simp), if_neg hmost, if_pos hend]
        clear HS
        rw [hln] at hend
        go_wp2_with fail
        refine (refFail_any 101 hR1).mono ?_
        rintro y w2 ⟨⟨v, rfl⟩, hR2, hg2⟩
        go_wp2
        go_ret
        exact ⟨rfl, hR2, hg1.trans hg2⟩
      · obtain rfl : R = (l'.take k, l'.drop k, 0) := by rw [HS.out, if_neg (by simp), if_neg hmost, if_neg hend, Int.toNat_natCast]
        clear HS
        rw [hln] at hend
        have hfr := hr.front (k := k) (by omega)
        have k1 := hfr.string (P := Tryd.prog) (fun h => by have := (hA h).1; omega) c 22 9 5 Tryd.underlying22 Tryd.underlying5 Tryd.underlying9
        generalize hT : l'.take k = T at *
        by_cases hn0 : n = 0
        · subst hn0
          obtain rfl : k = 0 := by omega
          obtain rfl : l' = [] := List.eq_nil_of_length_eq_zero hln
          obtain rfl : [] = T := by simpa using hT
          clear hT
          cases A with
          | none =>
            obtain ⟨_, rfl⟩ := hA rfl
            go_wp2
            go_ret
            exact ⟨rfl, RdD.set0 h0 h1 f0 f1 (Bytes.nil _ _ _) (fun _ => ⟨rfl, rfl⟩) (by omega) (by omega) (fun _ a h => by cases h) hlow, hg1.trans (grown_setCell _ _ _)⟩
          | some a =>
            go_wp2
            go_ret
            exact ⟨rfl, RdD.set0 h0 h1 f0 f1 (Bytes.nil _ _ _) (fun h => by cases h) (by omega) (by omega) (fun h => absurd h (by omega)) hlow, hg1.trans (grown_setCell _ _ _)⟩
        · obtain ⟨b, off, rfl, hbb, _⟩ := hr.2 (by omega)
          have hbp' := ha (by omega) _ rfl
          have hbp : b ≠ p := Nat.ne_of_lt (Nat.lt_of_lt_of_le hbp' hlow)
          have hbk := hr.back (k := k) (by omega)
          by_cases hck : k = c
          · subst hck
            obtain rfl : n = k := by omega
            go_wp2
            go_ret
            refine ⟨rfl, RdD.set0 h0 h1 f0 f1 ?_ (fun h => by cases h) (by omega) (by omega) (fun _ a h => by cases h; exact hbp') hlow, hg1.trans (grown_setCell _ _ _)⟩
            rw [show l'.drop n = [] from List.drop_eq_nil_of_le (by omega)]
            first
              | exact Bytes.nil _ _ _
              | (rw [Nat.sub_self]; exact Bytes.nil _ _ _)
          · go_wp2
            go_ret
            refine ⟨rfl, RdD.set0 h0 h1 f0 f1 ?_ (fun h => by cases h) (by omega) (by omega) (fun _ a h => by cases h; exact hbp') hlow, hg1.trans (grown_setCell _ _ _)⟩
            exact hbk
  · obtain rfl : R = ([], l', e') := by rw [HS.out, if_pos he']
    have hne : (e' == 0) = false := by simp [he']
    clear HS HR
    go_wp2
    go_ret
    exact ⟨rfl, hR1, hg1⟩

set_option maxHeartbeats 800000 in
theorem refFlag_any (hR : RdD w B p l e) :
    Calls Tryd.prog 14 #[.pointer (some ⟨p, 0, none⟩)] w fun x w' => x = .returned (.bool (flagSays l e).1) ∧ RdD w' B p (flagSays l e).2.1 (flagSays l e).2.2 ∧ w.grownBy w' (some p) := by
  obtain ⟨A, n, c, h0, h1, f0, f1, hr, hA, hnc, hc, ha⟩ := hR.ex
  have hlow := hR.low
  have hln := hr.len
  by_cases he : e = 0
  · subst he
    cases l with
    | nil =>
      obtain rfl : 0 = n := hln
      rw [show flagSays [] 0 = (false, [], 101) from by simp [flagSays]]
      go_enter Tryd.func14, Tryd.ntmps14
      go_wp2_with fail
      refine (refFail_any 101 hR).mono ?_
      rintro y w2 ⟨⟨v, rfl⟩, hR2, hg2⟩
      go_wp2
      go_ret
      exact ⟨rfl, hR2, hg2⟩
    | cons x t =>
      obtain ⟨b, off, rfl, hbb, hcx⟩ := hr.at_ (k := 0) (by simp at hln; omega)
      simp only [List.getElem_cons_zero, Nat.add_zero] at hcx
      have hbl := ha (by simp at hln; omega) _ rfl
      have hbp : b ≠ p := Nat.ne_of_lt (Nat.lt_of_lt_of_le hbl hlow)
      simp only [List.length_cons] at hln
      have hr' : Bytes w w.heap.size (some ⟨b, off + 1, none⟩) (n - 1) t := hr.back (k := 1) (by omega)
      have hn0 : ((n : Int) == 0) = false := by simp; omega
      obtain ⟨R, hRR⟩ : ∃ R, R = flagSays (x :: t) 0 := ⟨_, rfl⟩
      rw [← hRR]
      have HRR := Lib.hid hRR
      clear hRR
      go_enter Tryd.func14, Tryd.ntmps14
      go_upto_region 7 with (fail)
      go_cut [3] from 17 to 36 (fun v wx => v = .int .u8 (x.toNat : Int) ∧ RdD wx B p t 0 ∧ w.grownBy wx (some p))
      case first =>
        by_cases hc1 : c = 1
        · subst hc1
          obtain rfl : t = [] := List.eq_nil_of_length_eq_zero (by omega)
          go_wp2
          go_meet
          exact ⟨rfl, RdD.set0 h0 h1 f0 f1 (Bytes.nil _ _ _) (fun h => by cases h) (by omega) (by unfold maxLen; omega) (fun _ => ha (by omega)) hlow, grown_setCell _ _ _⟩
        · go_wp2
          go_meet
          exact ⟨rfl, RdD.set0 h0 h1 f0 f1 hr' (fun h => by cases h) (by omega) (by omega) (fun _ a h => by cases h; exact hbl) hlow, grown_setCell _ _ _⟩
      case rest =>
        obtain ⟨rfl, hR1, hg1⟩ := hcut
        clear hR h0 h1 f0 f1 hr hr' hA hnc hc ha hcx hbb hbl hbp hn0 hlow
        by_cases hx : 1 < x.toNat
        · obtain rfl : R = (false, t, 102) := by rw [HRR.out]; simp [flagSays, hx]
          have hx' : (1 : Int) < (x.toNat : Int) := by omega
          clear HRR
          go_wp2_with fail
          refine (refFail_any 102 hR1).mono ?_
          rintro y w2 ⟨⟨v, rfl⟩, hR2, hg2⟩
          go_wp2
          go_ret
          exact ⟨rfl, hR2, hg1.trans hg2⟩
        · obtain rfl : R = (x.toNat == 1, t, 0) := by rw [HRR.out]; simp [flagSays, hx]
          have hx' : ¬ (1 : Int) < (x.toNat : Int) := by omega
          have hx1 : ((x.toNat : Int) == 1) = (x.toNat == 1) := by
            rw [Bool.eq_iff_iff]; simp; omega
          clear HRR
          go_wp2
          go_ret
          exact ⟨rfl, hR1, hg1⟩
  · rw [show flagSays l e = (false, l, e) from by simp [flagSays, he]]
    have hne : (e == 0) = false := by simp [he]
    go_enter Tryd.func14, Tryd.ntmps14
    go_wp2
    go_ret
    exact ⟨rfl, hR, World.grownBy.refl _ _⟩

set_option maxHeartbeats 400000 in
theorem refDone_any (hR : RdD w B p l e) :
    Calls Tryd.prog 19 #[.pointer (some ⟨p, 0, none⟩)] w fun x w' => x = .returned (.int .i64 (doneSays l e)) ∧ w = w' := by
  obtain ⟨A, n, c, h0, h1, f0, f1, hr, hA, hnc, hc, ha⟩ := hR.ex
  have hln := hr.len
  by_cases he : e = 0
  · subst he
    cases l with
    | nil =>
      obtain rfl : 0 = n := hln
      rw [show doneSays [] 0 = 0 from rfl]
      go_enter Tryd.func19, Tryd.ntmps19
      go_wp2
      go_ret
      exact ⟨rfl, rfl⟩
    | cons x t =>
      have hpos : (0 : Int) < (n : Int) := by simp at hln; omega
      rw [show doneSays (x :: t) 0 = 102 from by simp [doneSays]]
      go_enter Tryd.func19, Tryd.ntmps19
      go_wp2
      go_ret
      exact ⟨rfl, rfl⟩
  · rw [show doneSays l e = e from by simp [doneSays, he]]
    have hne : (e == 0) = false := by simp [he]
    go_enter Tryd.func19, Tryd.ntmps19
    go_wp2
    go_ret
    exact ⟨rfl, rfl⟩
end
end Go.Proofs.YtlglinclendkkaaDoor
