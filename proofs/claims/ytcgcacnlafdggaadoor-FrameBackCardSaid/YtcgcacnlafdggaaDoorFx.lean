/- The walk of FrameBack. -/
import Derived.Test.YtcgcacnlafdggaaDoorFz
import Derived.Test.YtcgcacnlafdggaaDoorSame
import Derived.Test.YtcgcacnlafdggaaDoorRefB
import Derived.Test.YtcgcacnlafdggaaDoorSet
namespace Go.Proofs.YtcgcacnlafdggaaDoor
open Go.RowKit

/-- One bit of a frame turned: what is read then has not its length, if anything is. -/
theorem Fr.turned_put {k : UInt8} {b : List UInt8} (hb : b.length ≤ 4000) {i : Nat} {x : UInt8} (hi : i < (Fr.put k b).length) (hx : x ≠ (Fr.put k b)[i]) :
    Fr.code ((Fr.put k b).set i x) ≠ 0 ∨ Fr.blen ((Fr.put k b).set i x) + 10 ≠ b.length + 10 := by
  by_cases h : Fr.blen ((Fr.put k b).set i x) + 10 ≠ b.length + 10
  · exact .inr h
  · left
    intro h0
    have hp := Fr.code_put (k := k) (t := []) hb
    rw [List.append_nil] at hp
    have hf := Fr.turned_not hi rfl hx (by rw [hp.2.2.2, Fr.put_len]) (by rw [hp.2.2.2]; omega) (Fr.code_zero hp.1).2
    rw [(Fr.code_zero h0).2] at hf
    cases hf
theorem xor_bit (y : UInt8) (r : Nat) (hr : r < 8) : y ^^^ UInt8.ofNat (2 ^ r) ≠ y := by
  refine Fr.xor_ne y _ ?_
  match r, hr with
  | 0, _ => decide
  | 1, _ => decide
  | 2, _ => decide
  | 3, _ => decide
  | 4, _ => decide
  | 5, _ => decide
  | 6, _ => decide
  | 7, _ => decide

section
variable {E : Int → Option Addr} {w : World}
theorem fread_put (kd : UInt8) (l t : List UInt8) (A : Option Addr) (n m c : Nat) (hE : FrErrs w E) (ht : Steps w) (hr : Bytes w w.heap.size A m (Fr.put kd l ++ t)) (hA : A = none → m = 0 ∧ c = 0) (hn : m ≤ c) (hc : m ≤ 70368744177664) (hl : l.length = n) (h4 : n ≤ 4000) :
    Calls Tryd.prog 16 #[.slice A m c] w fun e w' => ∃ A' c', e = .returned (.tuple #[.int .u8 (kd.toNat : Int), .slice A' n c', .int .i64 ((n : Int) + 10), .nilIface]) ∧
      OwnBytes w' w.heap.size 5 A' n c' l ∧ Below w.heap.size w w' := by
  subst hl
  obtain ⟨h1, h2, h3, h5⟩ := Fr.code_put (k := kd) (t := t) h4
  have hq := fread_all A m c _ hE ht hr hA hn hc
  rw [Fr.said_yes h1, h1, h2, h3, h5] at hq
  refine hq.mono ?_
  rintro e w1 ⟨A', c', ev, rfl, hs, ho, hb⟩
  obtain rfl := seen_nil hs
  exact ⟨A', c', rfl, ho, hb⟩
theorem fread_cut (kd : UInt8) (l : List UInt8) (A : Option Addr) (n m c : Nat) (hE : FrErrs w E) (ht : Steps w) (hr : Bytes w w.heap.size A m ((Fr.put kd l).take m)) (hA : A = none → m = 0 ∧ c = 0) (hn : m ≤ c) (hl : l.length = n) (h4 : n ≤ 4000) (hm : m < n + 10) :
    Calls Tryd.prog 16 #[.slice A m c] w fun e w' => ∃ A' c' ev, e = .returned (.tuple #[.int .u8 0, .slice A' 0 c', .int .i64 0, ev]) ∧ SeenBy E ev 101 ∧ Below w.heap.size w w' := by
  subst hl
  have h1 := Fr.code_part (k := kd) (b := l) h4 hm
  have hq := fread_all A m c _ hE ht hr hA hn (by omega)
  rw [Fr.said_not (by rw [h1]; decide), h1] at hq
  refine hq.mono ?_
  rintro e w1 ⟨A', c', ev, rfl, hs, ho, hb⟩
  exact ⟨A', c', ev, rfl, hs, hb⟩
theorem fread_turned (kd : UInt8) (l : List UInt8) (q : Nat) (x : UInt8) (A : Option Addr) (n m c : Nat) (hE : FrErrs w E) (ht : Steps w) (hr : Bytes w w.heap.size A m ((Fr.put kd l).set q x)) (hA : A = none → m = 0 ∧ c = 0) (hn : m ≤ c) (hl : l.length = n) (h4 : n ≤ 4000)
    (hm : m ≤ 70368744177664) (hq : q < (Fr.put kd l).length) (hx : x ≠ (Fr.put kd l)[q]) :
    Calls Tryd.prog 16 #[.slice A m c] w fun e w' => ∃ kk A' m' c' cnt ev, e = .returned (.tuple #[.int .u8 kk, .slice A' m' c', .int .i64 ((cnt : Nat) : Int), ev]) ∧ ((ev = .nilIface ∧ cnt ≠ n + 10) ∨ ∃ a, ev = errV a) ∧ Below w.heap.size w w' := by
  subst hl
  have h1 := Fr.turned_put (k := kd) h4 hq hx
  refine (fread_all A m c _ hE ht hr hA hn hm).mono ?_
  rintro e w1 ⟨A', c', ev, rfl, hs, ho, hb⟩
  refine ⟨_, A', _, c', _, ev, rfl, ?_, hb⟩
  by_cases h0 : Fr.code ((Fr.put kd l).set q x) = 0
  · left
    rw [h0] at hs
    refine ⟨seen_nil hs, ?_⟩
    rw [Fr.said_yes h0]
    exact h1.resolve_left (fun h => h h0)
  · exact .inr (seen_not hs h0)
end

set_option maxRecDepth 8000 in
set_option maxHeartbeats 800000 in
theorem frameBack_walk (kd : UInt8) (A : Option Addr) (n c : Nat) (l : List UInt8) (T : Option Addr) (nt ct : Nat) (tl : List UInt8) (cut bit : Int) (ads : List Addr) (w : World)
    (h0 : InBytes w A n c l) (h1 : InBytes w T nt ct tl) (b1 : -9223372036854775808 ≤ cut) (b2 : cut ≤ 9223372036854775807) (b3 : -9223372036854775808 ≤ bit) (b4 : bit ≤ 9223372036854775807)
    (hE0 : Errs w 77 sents ads) (ht : Steps w) :
    Calls Tryd.prog 4 #[.int .u8 (kd.toNat : Int), .slice A n c, .slice T nt ct, .int .i64 cut, .int .i64 bit] w fun e w' => e = .returned (.bool true) ∧ Below w.heap.size w w' := by
  obtain ⟨i0, hi0, hz0, hz1, hz2⟩ := info_parts info_u8
  have hE := frErrs16 hE0
  have r0 := h0.bytes
  have r1 := h1.bytes
  have l0 := r0.len
  have l1 := r1.len
  have nn0 := h0.nn
  have nn1 := h1.nn
  clear h0 h1
  by_cases hall : n ≤ 300 ∧ nt ≤ 50
  · obtain ⟨hn, hnt⟩ := hall
    have hl4 : l.length ≤ 4000 := by omega
    go_enter Tryd.func4, Tryd.ntmps4
    go_wp2_with fail
    refine (first_any w ht).mono ?_
    rintro e w1 ⟨rfl, hb1⟩
    have hs1 := hb1.size
    go_wp2_with fail
    refine (fput_any (w := w1) kd A n c l (ht.below hb1 (Nat.le_refl _)) ((r0.below hb1 (Nat.le_refl _)).mono hs1) nn0 (by omega)).mono ?_
    rintro e w2 ⟨A2, c2, rfl, ho2, b12⟩
    have hb2 : Below w.heap.size w w2 := hb1.trans (b12.mono hs1)
    have hs2 := hb2.size
    have ho2' : OwnBytes w2 w.heap.size 5 A2 (n + 10) c2 (Fr.put kd l) := ho2.base hs1
    have hcap2 := ho2'.cap
    have hlp := ho2'.len
    clear ho2 b12 hb1 hs1
    have hbn : (bne ((n : Int) + 10) ((n : Int) + 10)) = false := by simp
    -- a copy, the tail behind
    go_wp2_with fail
    refine (refbytes_any A2 (n + 10) c2 _ w2 ho2'.bytes (by omega)).mono ?_
    rintro e w3 ⟨A3, c3, rfl, ho3, b23⟩
    have hb3 : Below w.heap.size w w3 := hb2.trans (b23.mono hs2)
    have hs3 := hb3.size
    have ho3' : OwnBytes w3 w.heap.size 5 A3 (n + 10) c3 (Fr.put kd l) := ho3.base hs2
    have ho23 := own_below ho2' b23 (Nat.le_refl _)
    go_wp2_with (at_builtin; refine append_row rfl (.tmp 60) (.tmp 61) 25 rfl 5 i0 _ 1 1 Tryd.underlying25 hi0 hz0 hz1 hz2 rfl (by decide) w.heap.size _ (n + 10) _ rfl ho3' w.heap.size T nt ct _ rfl nn1 (r1.below hb3 (Nat.le_refl _)) (bv_one tl) ?h5 ?h6 hs3 ?_)
    case h5 => unfold maxLen; omega
    case h6 => omega
    intro v4 w4 ho4 hg4 hat4
    obtain ⟨A4, c4, rfl, _⟩ := own_form ho4
    have ho4' : OwnBytes w4 w.heap.size 5 A4 (n + 10 + nt) c4 (Fr.put kd l ++ tl) := by unfold OwnBytes; rw [List.map_append]; exact ho4
    have hb4 : Below w.heap.size w w4 := hb3.grown hg4 hs3 (fun k hk => (ho3'.lt k hk).1)
    have ho24 : OwnBytes w4 w.heap.size 5 A2 (n + 10) c2 (Fr.put kd l) := World.ownsRow.kept ho23 hg4 (by
      obtain ⟨g2, rfl, hg2, hl2⟩ := own_some ho2' (by omega)
      obtain ⟨g3, rfl, hg3, hl3⟩ := own_some ho3 (by omega)
      right
      intro e
      have := Option.some.inj e
      simp only at this
      omega)
    have hs4 := hb4.size
    clear ho4 hg4 hat4 ho23 ho3' ho3 b23 ho2' hb3 hs3 hb2 hs2
    go_wp2_with fail
    refine (fread_put kd l tl A4 n (n + 10 + nt) c4 (hE.below hb4) (ht.below hb4 (Nat.le_refl _)) ho4'.bytes ho4'.nn ho4'.cap (by omega) l0 (by omega)).mono ?_
    rintro e w5 ⟨A5, c5, rfl, ho5, b45⟩
    have hb5 : Below w.heap.size w w5 := hb4.trans (b45.mono hs4)
    have hs5 := hb5.size
    have ho25 := ho24.below b45 (Nat.le_refl _)
    have ho55 : OwnBytes w5 w.heap.size 5 A5 n c5 l := ho5.base hs4
    clear ho4' ho24 b45 hb4 hs4 ho5
    -- cut off
    obtain ⟨g2, rfl, hg2, hgs2⟩ := own_some ho25 (by omega)
    go_wp2_with fail
    refine (number_any cut ((n : Int) + 10) w5 (by omega) b1 b2 (by omega)).mono ?_
    rintro e w6 ⟨⟨k, rfl, hk⟩, rfl⟩
    have hk' : k < n + 10 := by omega
    have hkc : (k : Int) ≤ (c2 : Int) := by omega
    clear hk
    have hfr := ho25.bytes.front (k := k) (by omega)
    go_wp2_with fail
    refine (fread_cut kd l (some ⟨g2, 0, none⟩) n k c2 (hE.below hb5) (ht.below hb5 (Nat.le_refl _)) hfr (fun h => by cases h) (by omega) l0 (by omega) hk').mono ?_
    rintro e w7 ⟨A7, c7, ev7, rfl, hs7, b57⟩
    have hb7 : Below w.heap.size w w7 := hb5.trans (b57.mono hs5)
    have hz7 := hb7.size
    have ho27 := ho25.below b57 (Nat.le_refl _)
    have ho57 := ho55.below b57 (Nat.le_refl _)
    clear hfr b57 ho25 ho55 hb5 hs5 hgs2
    -- one bit turned
    go_wp2_with fail
    refine (number_any bit (8 * ((n : Int) + 10)) w7 (by omega) b3 b4 (by omega)).mono ?_
    rintro e w8 ⟨⟨at_, rfl, hat⟩, rfl⟩
    have hat' : at_ < 8 * (n + 10) := by omega
    clear hat
    go_wp2_with fail
    refine (refbytes_any (some ⟨g2, 0, none⟩) (n + 10) c2 _ w7 ho27.bytes (by omega)).mono ?_
    rintro e w9 ⟨A9, c9, rfl, ho9, b79⟩
    have hb9 : Below w.heap.size w w9 := hb7.trans (b79.mono hz7)
    have hz9 := hb9.size
    have ho29 := ho27.below b79 (Nat.le_refl _)
    have ho59 := ho57.below b79 (Nat.le_refl _)
    obtain ⟨g9, rfl, hg9, hgs9⟩ := own_some ho9 (by omega)
    have hg9w : w.heap.size ≤ g9 := Nat.le_trans hz7 hg9
    have hne29 : g2 ≠ g9 := by
      have := (ho27.lt g2 rfl).2
      omega
    have hne59 : ∀ g, (Value.slice A5 n c5).ownBlock = some g → g ≠ g9 := fun g hg => by
      have := (ho57.lt g hg).2
      omega
    have ho9' : OwnBytes w9 w.heap.size 5 (some ⟨g9, 0, none⟩) (n + 10) c9 (Fr.put kd l) := ho9.base hz7
    obtain ⟨q, hq⟩ : ∃ q, q = at_ / 8 := ⟨_, rfl⟩
    obtain ⟨r, hr⟩ : ∃ r, r = at_ % 8 := ⟨_, rfl⟩
    have hqn : q < n + 10 := by omega
    have hr8 : r < 8 := by omega
    have eq8 : (at_ : Int) / 8 = (q : Int) := by omega
    have er8 : (at_ : Int) % 8 = (r : Int) := by omega
    have hqI : (q : Int) < (n : Int) + 10 := by omega
    have hql : q < (Fr.put kd l).length := by rw [Fr.put_len]; omega
    obtain ⟨bq, offq, heq, _, hcq⟩ := ho9'.bytes.at_ hqn
    obtain ⟨rfl, rfl⟩ : g9 = bq ∧ 0 = offq := by injection heq with he; injection he with h1 h2; exact ⟨h1, h2⟩
    rw [Nat.zero_add] at hcq
    have hfq := own_frozen ho9' q
    have HX := Lib.hid (xor_bit ((Fr.put kd l)[q]'hql) r hr8)
    generalize hy : (Fr.put kd l)[q]'hql = y at *
    have hxor := u8_turn y r
    have ho10 := own_set (q := q) ho9' (y ^^^ UInt8.ofNat (2 ^ r))
    have hbel := hb9.setCell (p := ⟨g9, q, none⟩) hg9w (.int .u8 ((y ^^^ UInt8.ofNat (2 ^ r)).toNat : Int))
    clear hq hr hg9 hgs9 heq b79 ho9 ho57 ho27 hb7 hz7
    generalize hyn : y ^^^ UInt8.ofNat (2 ^ r) = yn at *
    have ho2a : OwnBytes (w9.setCell ⟨g9, q, none⟩ (.int .u8 (yn.toNat : Int))) w.heap.size 5 (some ⟨g2, 0, none⟩) (n + 10) c2 (Fr.put kd l) := World.ownsRow.kept ho29 (grown_setCell w9 ⟨g9, q, none⟩ _) (.inr fun e => hne29 (Option.some.inj e))
    have ho5a : OwnBytes (w9.setCell ⟨g9, q, none⟩ (.int .u8 (yn.toNat : Int))) w.heap.size 5 A5 n c5 l := World.ownsRow.kept ho59 (grown_setCell w9 ⟨g9, q, none⟩ _) (by
      cases hb : (Value.slice A5 n c5).ownBlock with
      | none => exact .inl rfl
      | some g => exact .inr fun e => hne59 g hb (Option.some.inj e))
    have hxq : yn ≠ (Fr.put kd l)[q]'hql := by rw [hy]; exact HX.out
    clear hyn ho29 ho59 hne29 hne59 HX ho9' hg9w
    go_wp2_with fail
    generalize hwa : w9.setCell ⟨g9, q, none⟩ (.int .u8 (yn.toNat : Int)) = wa at *
    have hza := hbel.size
    refine (fread_turned kd l q yn (some ⟨g9, 0, none⟩) n (n + 10) c9 (hE.below hbel) (ht.below hbel (Nat.le_refl _)) ho10.bytes (fun h => by cases h) ho10.cap l0 (by omega) (by omega) hql hxq).mono ?_
    rintro e wb ⟨kk, Ab, mb, cb, cnt, evb, rfl, hcase, bab⟩
    have hbb : Below w.heap.size w wb := hbel.trans (bab.mono hza)
    have hzb := hbb.size
    have ho5b := ho5a.below bab (Nat.le_refl _)
    clear hwa ho2a ho5a ho10 bab hbel hza hxq hql hy hcq hfq hxor hb9 hz9
    -- too long a body
    go_wp2_with (at_make; refine wpList_make_full _ rfl _ _ 25 rfl w.heap.size 5 i0 _ 1 Tryd.underlying25 hi0 hz0 hz1 .i64 .i64 _ _ 4001 rfl rfl rfl rfl ?h2 ?h3 ?h4 ?_)
    case h2 => rw [hz2]; decide
    case h3 => decide
    case h4 => exact hzb
    intro wc hoc hgc
    have bbc : Below wb.heap.size wb wc := (Below.refl _ _).grown hgc (Nat.le_refl _) (fun k hk => by cases hk)
    have hbc : Below w.heap.size w wc := hbb.trans (bbc.mono hzb)
    have hzc := hbc.size
    have ho5c := ho5b.below bbc (Nat.le_refl _)
    clear hoc hgc bbc hbb ho5b
    go_wp2_with fail
    refine (fput_long kd _ 4001 _ (hE.below hbc) (by decide)).mono ?_
    rintro e wd ⟨evd, rfl, hsd, bcd⟩
    have hbd : Below w.heap.size w wd := hbc.trans (bcd.mono hzc)
    have hzd := hbd.size
    have ho5d := ho5c.below bcd (Nat.le_refl _)
    have r0d := (r0.below hbd (Nat.le_refl _)).mono hzd
    have sg := seenAs_of hE0 hs7
    have sl := seenAs_of hE0 hsd
    have hll : (l == l) = true := by simp
    have hnn : ((n : Int) + 10 == (n : Int) + 10) = true := by simp
    clear ho5c hbc hzc bcd hzb
    clear hsd hs7
    rcases hcase with ⟨rfl, hcnt⟩ | ⟨ax, rfl⟩
    · have hcb : (bne (cnt : Int) ((n : Int) + 10)) = true := by simp; omega
      go_wp2_with fail
      refine (same_any A5 A n n c5 c l l wd ho5d.bytes r0d (by omega) (by omega)).mono ?_
      rintro e we ⟨rfl, bde⟩
      have hbe : Below w.heap.size w we := hbd.trans (bde.mono hzd)
      rw [hll]
      go_wp2_with fail
      refine (is_any ads ev7 101 we (hE0.below hbe (Nat.le_refl _)) sg 101).mono ?_
      rintro e wf ⟨rfl, bef⟩
      have hbf : Below w.heap.size w wf := hbe.trans (bef.mono hbe.size)
      go_wp2_with fail
      refine (is_any ads evd 105 wf (hE0.below hbf (Nat.le_refl _)) sl 105).mono ?_
      rintro e wg ⟨rfl, bfg⟩
      go_wp2
      go_ret
      exact ⟨by simp, hbf.trans (bfg.mono hbf.size)⟩
    · unfold errV
      go_wp2_with fail
      refine (same_any A5 A n n c5 c l l wd ho5d.bytes r0d (by omega) (by omega)).mono ?_
      rintro e we ⟨rfl, bde⟩
      have hbe : Below w.heap.size w we := hbd.trans (bde.mono hzd)
      rw [hll]
      go_wp2_with fail
      refine (is_any ads ev7 101 we (hE0.below hbe (Nat.le_refl _)) sg 101).mono ?_
      rintro e wf ⟨rfl, bef⟩
      have hbf : Below w.heap.size w wf := hbe.trans (bef.mono hbe.size)
      go_wp2_with fail
      refine (is_any ads evd 105 wf (hE0.below hbf (Nat.le_refl _)) sl 105).mono ?_
      rintro e wg ⟨rfl, bfg⟩
      go_wp2
      go_ret
      exact ⟨by simp, hbf.trans (bfg.mono hbf.size)⟩
  · go_enter Tryd.func4, Tryd.ntmps4
    go_wp2_with fail
    refine (first_any w ht).mono ?_
    rintro e w1 ⟨rfl, hb1⟩
    by_cases h8 : n ≤ 300
    · have h30 : 50 < nt := by omega
      go_wp2
      go_ret
      exact ⟨rfl, hb1⟩
    · go_wp2
      go_ret
      exact ⟨rfl, hb1⟩
end Go.Proofs.YtcgcacnlafdggaaDoor
