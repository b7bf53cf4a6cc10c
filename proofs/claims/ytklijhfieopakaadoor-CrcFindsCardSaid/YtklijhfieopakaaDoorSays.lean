/- The walk of the statement CrcSays. -/
import Derived.Test.YtklijhfieopakaaDoorWe
import Derived.Test.YtklijhfieopakaaDoorSee
import Derived.Test.YtklijhfieopakaaDoorRef
namespace Go.Proofs.YtklijhfieopakaaDoor
open Go.RowKit

/-- What Open says, as the document has it: the error's number (0: none), and the bytes. -/
def openSpec (l : List UInt8) (s : BitVec 32) : Int × List UInt8 :=
  if l.length < 4 then (101, []) else if l.drop (l.length - 4) = Crc.tail (l.take (l.length - 4)) s then (0, l.take (l.length - 4)) else (103, [])

theorem errAt_of {w : World} {ads : List Addr} (hE : Errs w 65 sents ads) (i : Nat) (g : Nat) (hg : (sents)[i]? = some g) : ∃ a, ads[i]? = some a ∧ w.cell? ⟨g, 0, none⟩ = some (errV a) := by
  have hi : i < ads.length := by rw [hE.len]; exact (List.getElem?_eq_some_iff.1 hg).1
  exact ⟨ads[i], List.getElem?_eq_getElem hi, (hE.all i g _ hg (List.getElem?_eq_getElem hi)).var⟩

theorem open_any (ads : List Addr) (A : Option Addr) (n c : Nat) (l : List UInt8) (s : BitVec 32) (w : World) (hE : Errs w 65 sents ads) (hr : Bytes w w.heap.size A n l) (hnc : n ≤ c) (hn : n ≤ 70368744177664) (ht : Steps w) :
    Calls Tryd.prog 9 #[.slice A n c, .int .u32 (u s)] w fun e w' => ∃ A' n' c' ev, e = .returned (.tuple #[.slice A' n' c', ev]) ∧ SeenAs ads ev (openSpec l s).1 ∧ Bytes w' w'.heap.size A' n' (openSpec l s).2 ∧ n' ≤ n ∧ Below w.heap.size w w' := by
  have hl := hr.len
  unfold openSpec
  by_cases h4 : n < 4
  · obtain ⟨a, ha, hc⟩ := errAt_of hE 0 _ rfl
    rw [if_pos (by omega)]
    refine (open_short A n c s w _ hc h4).mono ?_
    rintro e w' ⟨rfl, hb⟩
    exact ⟨none, 0, 0, _, rfl, SeenAs.err 0 a ha, Bytes.nil _ _ _, Nat.zero_le _, hb⟩
  · rw [if_neg (by omega), hl]
    obtain ⟨a, ha, hc⟩ := errAt_of hE 2 _ rfl
    by_cases hx : l.drop (n - 4) = Crc.tail (l.take (n - 4)) s
    · rw [if_pos hx]
      refine (open_right A n c l s w _ hc (by omega) hr hnc hn ht hx).mono ?_
      rintro e w' ⟨A', c', rfl, ho, hb⟩
      exact ⟨A', n - 4, c', _, rfl, SeenAs.nil, ho.bytes, by omega, hb⟩
    · rw [if_neg hx]
      refine (open_wrong A n c l s w _ hc (by omega) hr hnc hn ht hx).mono ?_
      rintro e w' ⟨rfl, hb⟩
      exact ⟨none, 0, 0, _, rfl, SeenAs.err 2 a ha, Bytes.nil _ _ _, Nat.zero_le _, hb⟩

theorem refopen_any (A : Option Addr) (n c : Nat) (l : List UInt8) (s : BitVec 32) (w : World) (hr : Bytes w w.heap.size A n l) (hnc : n ≤ c) (hn : n ≤ 70368744177664) :
    Calls Tryd.prog 10 #[.slice A n c, .int .u32 (u s)] w fun e w' => ∃ A' n' c', e = .returned (.tuple #[.slice A' n' c', .int .i64 (openSpec l s).1]) ∧ Bytes w' w'.heap.size A' n' (openSpec l s).2 ∧ n' ≤ n ∧ Below w.heap.size w w' := by
  have hl := hr.len
  unfold openSpec
  by_cases h4 : n < 4
  · rw [if_pos (by omega)]
    refine (refopen_short A n c s w h4).mono ?_
    rintro e w' ⟨rfl, hb⟩
    exact ⟨none, 0, 0, rfl, Bytes.nil _ _ _, Nat.zero_le _, hb⟩
  · rw [if_neg (by omega), hl]
    by_cases hx : l.drop (n - 4) = Crc.tail (l.take (n - 4)) s
    · rw [if_pos hx]
      refine (refopen_right A n c l s w (by omega) hr hnc hn hx).mono ?_
      rintro e w' ⟨A', c', rfl, ho, hb⟩
      exact ⟨A', n - 4, c', rfl, ho.bytes, by omega, hb⟩
    · rw [if_neg hx]
      refine (refopen_wrong A n c l s w (by omega) hr hnc hn hx).mono ?_
      rintro e w' ⟨rfl, hb⟩
      exact ⟨none, 0, 0, rfl, Bytes.nil _ _ _, Nat.zero_le _, hb⟩

set_option maxHeartbeats 4000000 in
theorem says_walk (A : Option Addr) (n c : Nat) (la : List UInt8) (A' : Option Addr) (n' c' : Nat) (lb : List UInt8) (s o : BitVec 32) (ads : List Addr) (w : World) (h0 : InBytes w A n c la) (h1 : InBytes w A' n' c' lb)
    (hE : Errs w 65 sents ads) (ht : Steps w) (hn : n ≤ 300) (hn' : n' ≤ 300) :
    Calls Tryd.prog 3 #[.slice A n c, .slice A' n' c', .int .u32 (u s), .int .u32 (u o)] w fun e w' => e = .returned (.bool true) ∧ Below w.heap.size w w' := by
  obtain ⟨i0, hi0, hz0, hz1, hz2⟩ := info_parts info_u8
  go_enter Tryd.func3, Tryd.ntmps3
  go_wp2_with fail
  refine (first_any _ ht).mono ?_
  rintro e w1 ⟨rfl, hb1⟩
  have hs1 := hb1.size
  -- all
  go_wp2_with fail
  refine (refbytes_any A n c la _ ((h0.bytes.below hb1 (Nat.le_refl _)).mono hs1) (by omega)).mono ?_
  rintro e w2 ⟨A2, c2, rfl, ho2, hb2⟩
  have hb2' : Below w.heap.size w w2 := hb1.trans (hb2.mono hs1)
  have hs2 := hb2'.size
  go_wp2_with (at_builtin; refine append_row rfl (.tmp 32) (.tmp 33) _ rfl 5 i0 _ 1 1 Tryd.underlying22 hi0 hz0 hz1 hz2 rfl (by decide) w.heap.size _ n _ rfl (own_base ho2 hs1) w.heap.size A' n' c' (lb.map bv) rfl h1.nn (h1.bytes.below hb2' (Nat.le_refl _)) (bv_one _) ?h5 ?h6 hs2 ?_)
  case h5 => unfold maxLen; omega
  case h6 => omega
  intro v3 w3 ho3 hg3 hat3
  obtain ⟨A3, c3, rfl, hA3⟩ := own_form ho3
  have hb3 : Below w.heap.size w w3 := hb2'.grown hg3 hs2 (fun k hk => Nat.le_trans hs1 (ho2.lt k hk).1)
  have hs3 := hb3.size
  have hall : Bytes w3 w3.heap.size A3 (n + n') (la ++ lb) := by
    have : OwnBytes w3 w.heap.size 5 A3 (n + n') c3 (la ++ lb) := by unfold OwnBytes; rw [List.map_append]; exact ho3
    exact this.bytes
  clear ho3 hg3 hat3 ho2
  -- x, e
  go_wp2_with fail
  refine (open_any ads A' n' c' lb s _ (hE.below hb3 (Nat.le_refl _)) ((h1.bytes.below hb3 (Nat.le_refl _)).mono hs3) h1.cap (by omega) (ht.below hb3 (Nat.le_refl _))).mono ?_
  rintro e w4 ⟨X, nx, cx, ev, rfl, hsx, hbx, hnx, hb4⟩
  have hb4' : Below w.heap.size w w4 := hb3.trans (hb4.mono hs3)
  have hs4 := hb4'.size
  -- y, bad
  go_wp2_with fail
  refine (refopen_any A' n' c' lb s _ ((h1.bytes.below hb4' (Nat.le_refl _)).mono hs4) h1.cap (by omega)).mono ?_
  rintro e w5 ⟨Y, ny, cy, rfl, hby, hny, hb5⟩
  have hb5' : Below w.heap.size w w5 := hb4'.trans (hb5.mono hs4)
  have hs5 := hb5'.size
  -- z, f
  go_wp2_with fail
  refine (seal_any A n c la s _ ((h0.bytes.below hb5' (Nat.le_refl _)).mono hs5) h0.nn (by omega) (ht.below hb5' (Nat.le_refl _))).mono ?_
  rintro e w6 ⟨P, cp, rfl, hop, hb6⟩
  have hb6' : Below w.heap.size w w6 := hb5'.trans (hb6.mono hs5)
  have hs6 := hb6'.size
  go_wp2_with fail
  refine (open_any ads P (n + 4) cp (la ++ Crc.tail la s) o _ (hE.below hb6' (Nat.le_refl _)) hop.bytes hop.cap (by omega) (ht.below hb6' (Nat.le_refl _))).mono ?_
  rintro e w7 ⟨Z, nz, cz, fv, rfl, hsz, hbz, hnz, hb7⟩
  have hb7' : Below w.heap.size w w7 := hb6'.trans (hb7.mono hs6)
  have hs7 := hb7'.size
  -- w, worse
  go_wp2_with fail
  refine (refseal_any A n c la s _ ((h0.bytes.below hb7' (Nat.le_refl _)).mono hs7) h0.nn (by omega)).mono ?_
  rintro e w8 ⟨R, cr, rfl, hor, hb8⟩
  have hb8' : Below w.heap.size w w8 := hb7'.trans (hb8.mono hs7)
  have hs8 := hb8'.size
  go_wp2_with fail
  refine (refopen_any R (n + 4) cr (la ++ Crc.tail la s) o _ hor.bytes hor.cap (by omega)).mono ?_
  rintro e w9 ⟨V, nv, cv, rfl, hbv, hnv, hb9⟩
  have hb9' : Below w.heap.size w w9 := hb8'.trans (hb9.mono hs8)
  have hs9 := hb9'.size
  have g3 : Below w3.heap.size w3 w9 := ((((hb4.trans (hb5.mono hb4.size)).trans (hb6.mono (by have := hb4.size; have := hb5.size; omega))).trans (hb7.mono (by have := hb4.size; have := hb5.size; have := hb6.size; omega))).trans (hb8.mono (by have := hb4.size; have := hb5.size; have := hb6.size; have := hb7.size; omega))).trans (hb9.mono (by have := hb4.size; have := hb5.size; have := hb6.size; have := hb7.size; have := hb8.size; omega))
  have g4 : Below w4.heap.size w4 w9 := ((((hb5.trans (hb6.mono hb5.size)).trans (hb7.mono (by have := hb5.size; have := hb6.size; omega))).trans (hb8.mono (by have := hb5.size; have := hb6.size; have := hb7.size; omega)))).trans (hb9.mono (by have := hb5.size; have := hb6.size; have := hb7.size; have := hb8.size; omega))
  have g5 : Below w5.heap.size w5 w9 := (((hb6.trans (hb7.mono hb6.size)).trans (hb8.mono (by have := hb6.size; have := hb7.size; omega)))).trans (hb9.mono (by have := hb6.size; have := hb7.size; have := hb8.size; omega))
  have g7 : Below w7.heap.size w7 w9 := hb8.trans (hb9.mono hb8.size)
  -- what is held, in the last world
  have kall := (hall.below g3 (Nat.le_refl _)).mono g3.size
  have kx := (hbx.below g4 (Nat.le_refl _)).mono g4.size
  have ky := (hby.below g5 (Nat.le_refl _)).mono g5.size
  have kz := (hbz.below g7 (Nat.le_refl _)).mono g7.size
  have ka := (h0.bytes.below hb9' (Nat.le_refl _)).mono hs9
  have kb := (h1.bytes.below hb9' (Nat.le_refl _)).mono hs9
  have kE := hE.below hb9' (Nat.le_refl _)
  have kt := ht.below hb9' (Nat.le_refl _)
  clear hb4 hb5 hb6 hb7 hb8 hb9 g3 g4 g5 g7 hb4' hb5' hb6' hb7' hb8' hs4 hs5 hs6 hs7 hs8 hop hor hall hbx hby hbz hb2 hb2' hs2 hb3 hs3 hb1 hs1
  -- the end
  go_wp2_with fail
  refine (sum_two A n c la A' n' c' lb w9 ka (by omega) kb (by omega) kt).mono ?_
  rintro e w10 ⟨rfl, rfl⟩
  have r10 : Below w.heap.size w (w9.alloc (.cells #[.slice A n c, .slice A' n' c'] 22)) := hb9'.alloc hs9 _
  have s10 : Below w9.heap.size w9 (w9.alloc (.cells #[.slice A n c, .slice A' n' c'] 22)) := (Below.refl _ _).alloc (Nat.le_refl _) _
  generalize hw10 : w9.alloc (.cells #[.slice A n c, .slice A' n' c'] 22) = w10 at *
  clear hw10
  go_wp2_with fail
  refine (refsum_any _ A3 (n + n') c3 (la ++ lb) ((kall.below s10 (Nat.le_refl _)).mono s10.size) (by omega)).mono ?_
  rintro e w11 ⟨rfl, rfl⟩
  go_wp2_with fail
  refine (sum_one A n c la w10 ((ka.below s10 (Nat.le_refl _)).mono s10.size) (by omega) (kt.below s10 (Nat.le_refl _))).mono ?_
  rintro e w12 ⟨rfl, rfl⟩
  have r11 : Below w.heap.size w (w10.alloc (.cells #[.slice A n c] 22)) := r10.alloc r10.size _
  have s11 : Below w9.heap.size w9 (w10.alloc (.cells #[.slice A n c] 22)) := s10.alloc s10.size _
  generalize hw11 : w10.alloc (.cells #[.slice A n c] 22) = w11 at *
  clear hw11
  go_wp2_with fail
  refine (more_any (Crc.sum la) _ A' n' c' lb w11.heap.size ((kb.below s11 (Nat.le_refl _)).mono s11.size) (by omega) (kt.below s11 (Nat.le_refl _))).mono ?_
  rintro e w12 ⟨rfl, rfl⟩
  rw [← Crc.sum_append]
  go_wp2_with fail
  refine (sum_one A3 (n + n') c3 (la ++ lb) w11 ((kall.below s11 (Nat.le_refl _)).mono s11.size) (by omega) (kt.below s11 (Nat.le_refl _))).mono ?_
  rintro e w13 ⟨rfl, rfl⟩
  have r12 : Below w.heap.size w (w11.alloc (.cells #[.slice A3 (n + n') c3] 22)) := r11.alloc r11.size _
  have s12 : Below w9.heap.size w9 (w11.alloc (.cells #[.slice A3 (n + n') c3] 22)) := s11.alloc s11.size _
  generalize hw12 : w11.alloc (.cells #[.slice A3 (n + n') c3] 22) = w12 at *
  clear hw12
  go_wp2_with fail
  refine (seal_any A n c la s w12 ((ka.below s12 (Nat.le_refl _)).mono s12.size) h0.nn (by omega) (kt.below s12 (Nat.le_refl _))).mono ?_
  rintro e w13 ⟨P1, cp1, rfl, hp1, hb13⟩
  have r13 : Below w.heap.size w w13 := r12.trans (hb13.mono r12.size)
  have s13 : Below w9.heap.size w9 w13 := s12.trans (hb13.mono s12.size)
  go_wp2_with fail
  refine (refseal_any A n c la s w13 ((ka.below s13 (Nat.le_refl _)).mono s13.size) h0.nn (by omega)).mono ?_
  rintro e w14 ⟨R1, cr1, rfl, hr1, hb14⟩
  have r14 : Below w.heap.size w w14 := r13.trans (hb14.mono r13.size)
  have s14 : Below w9.heap.size w9 w14 := s13.trans (hb14.mono s13.size)
  go_wp2_with fail
  refine (same_any P1 R1 (n + 4) (n + 4) cp1 cr1 _ _ w14 ((hp1.bytes.below hb14 (Nat.le_refl _)).mono hb14.size) hr1.bytes (by omega) (by omega)).mono ?_
  rintro e w15 ⟨rfl, hb15⟩
  have r15 : Below w.heap.size w w15 := r14.trans (hb15.mono r14.size)
  have s15 : Below w9.heap.size w9 w15 := s14.trans (hb15.mono s14.size)
  rw [beq_self_eq_true]
  go_wp2_with fail
  refine (same_any X Y nx ny cx cy _ _ w15 ((kx.below s15 (Nat.le_refl _)).mono s15.size) ((ky.below s15 (Nat.le_refl _)).mono s15.size) (by omega) (by omega)).mono ?_
  rintro e w16 ⟨rfl, hb16⟩
  have r16 : Below w.heap.size w w16 := r15.trans (hb16.mono r15.size)
  have s16 : Below w9.heap.size w9 w16 := s15.trans (hb16.mono s15.size)
  rw [beq_self_eq_true]
  go_wp2_with fail
  refine (is_any ads ev _ w16 (kE.below s16 (Nat.le_refl _)) hsx _).mono ?_
  rintro e w17 ⟨rfl, hb17⟩
  have r17 : Below w.heap.size w w17 := r16.trans (hb17.mono r16.size)
  have s17 : Below w9.heap.size w9 w17 := s16.trans (hb17.mono s16.size)
  rw [beq_self_eq_true]
  go_wp2_with fail
  refine (same_any Z V nz nv cz cv _ _ w17 ((kz.below s17 (Nat.le_refl _)).mono s17.size) ((hbv.below s17 (Nat.le_refl _)).mono s17.size) (by omega) (by omega)).mono ?_
  rintro e w18 ⟨rfl, hb18⟩
  have r18 : Below w.heap.size w w18 := r17.trans (hb18.mono r17.size)
  have s18 : Below w9.heap.size w9 w18 := s17.trans (hb18.mono s17.size)
  rw [beq_self_eq_true]
  go_wp2_with fail
  refine (is_any ads fv _ w18 (kE.below s18 (Nat.le_refl _)) hsz _).mono ?_
  rintro e w19 ⟨rfl, hb19⟩
  have r19 : Below w.heap.size w w19 := r18.trans (hb19.mono r18.size)
  rw [beq_self_eq_true]
  go_wp2
  go_ret
  exact ⟨rfl, r19⟩

set_option maxHeartbeats 800000 in
theorem crcSays_walk (A : Option Addr) (n c : Nat) (la : List UInt8) (A' : Option Addr) (n' c' : Nat) (lb : List UInt8) (s o : BitVec 32) (ads : List Addr) (w : World) (h0 : InBytes w A n c la) (h1 : InBytes w A' n' c' lb)
    (hE : Errs w 65 sents ads) (ht : Steps w) :
    Calls Tryd.prog 3 #[.slice A n c, .slice A' n' c', .int .u32 (u s), .int .u32 (u o)] w fun e w' => e = .returned (.bool true) ∧ Below w.heap.size w w' := by
  by_cases hn : n ≤ 300
  · by_cases hn' : n' ≤ 300
    · exact says_walk A n c la A' n' c' lb s o ads w h0 h1 hE ht hn hn'
    · have d1 : decide (300 < (n : Int)) = false := by simp; omega
      have d2 : decide (300 < (n' : Int)) = true := by simp; omega
      go_enter Tryd.func3, Tryd.ntmps3
      go_wp2_with (go_at_call 7; refine (first_any _ ht).mono ?_; rintro e w1 ⟨rfl, hb1⟩)
      go_ret
      exact ⟨rfl, hb1⟩
  · have d1 : decide (300 < (n : Int)) = true := by simp; omega
    go_enter Tryd.func3, Tryd.ntmps3
    go_wp2_with (go_at_call 7; refine (first_any _ ht).mono ?_; rintro e w1 ⟨rfl, hb1⟩)
    go_ret
    exact ⟨rfl, hb1⟩
end Go.Proofs.YtklijhfieopakaaDoor
