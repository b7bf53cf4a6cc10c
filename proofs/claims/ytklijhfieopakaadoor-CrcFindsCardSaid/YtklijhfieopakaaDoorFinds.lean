/- The walk of the statement CrcFinds. -/
import Derived.Test.YtklijhfieopakaaDoorWe
import Derived.Test.YtklijhfieopakaaDoorSays
import Derived.Test.YtklijhfieopakaaDoorTrip
import Derived.Test.YtklijhfieopakaaDoorQuiet
import Derived.Laws.BitsAllLaws
namespace Go.Proofs.YtklijhfieopakaaDoor
open Go.RowKit

theorem u32_test (a : BitVec 32) (m : Nat) : Go.bits .and .u32 (u a / (2 : Int) ^ m) 1 = if a.getLsbD m then 1 else 0 := by
  have e : u a / (2 : Int) ^ m = u (a >>> m) := by
    unfold u
    rw [BitVec.toNat_ushiftRight, Nat.shiftRight_eq_div_pow]
    simp
  rw [e, u32_and1]
  simp only [BitVec.getLsbD_ushiftRight, Nat.add_zero]
theorem u8_turn (x : UInt8) (r : Nat) : Go.bits .xor .u8 (x.toNat : Int) ((2 : Int) ^ r % (256 : Int)) = ((x ^^^ UInt8.ofNat (2 ^ r)).toNat : Int) := by
  have e : (2 : Int) ^ r % (256 : Int) = ((UInt8.ofNat (2 ^ r)).toNat : Int) := by
    rw [UInt8.toNat_ofNat']; simp
  rw [e, u8_xor_nat _ _ x.toNat_lt (UInt8.toNat_lt _), UInt8.toNat_xor]
/-- One bit turned in a row of the call's own. -/
theorem own_flip {w : World} {base n c g p q r : Nat} {e : TypeId} {l : List UInt8} {x : UInt8} (h : OwnBytes w base e (some ⟨g, 0, none⟩) n c l) (hq : q = p / 8) (hr : r = p % 8) (hql : q < l.length) (hx : l[q]'hql = x) :
    OwnBytes (w.setCell ⟨g, q, none⟩ (.int .u8 (Go.bits .xor .u8 (x.toNat : Int) ((2 : Int) ^ r % (256 : Int))))) base e (some ⟨g, 0, none⟩) n c (Crc.flip l p) := by
  rw [u8_turn]
  have h1 := (World.ownsRow.stored h q (bv (x ^^^ UInt8.ofNat (2 ^ r)))).1
  rw [← List.map_set] at h1
  have e1 : Crc.flip l p = l.set q (x ^^^ UInt8.ofNat (2 ^ r)) := by
    unfold Crc.flip
    rw [← hq, ← hr, ← hx]
    simp [List.getD, hql]
  rw [e1]
  exact h1
theorem open_iff (A : Option Addr) (n c : Nat) (l : List UInt8) (s : BitVec 32) (w : World) (aS : Addr) (P : Prop) (hE : w.cell? ⟨1, 0, none⟩ = some (errV aS)) (hn : 4 ≤ n) (hr : Bytes w w.heap.size A n l) (hnc : n ≤ c) (hn2 : n ≤ 70368744177664) (ht : Steps w)
    (hP : l.drop (n - 4) = Crc.tail (l.take (n - 4)) s ↔ P) :
    Calls Tryd.prog 9 #[.slice A n c, .int .u32 (u s)] w fun e w' => ∃ A' n' c' ev, e = .returned (.tuple #[.slice A' n' c', ev]) ∧ ((ev = .nilIface ∧ P) ∨ (ev = errV aS ∧ ¬ P)) ∧ Below w.heap.size w w' := by
  by_cases hx : l.drop (n - 4) = Crc.tail (l.take (n - 4)) s
  · refine (open_right A n c l s w _ hE hn hr hnc hn2 ht hx).mono ?_
    rintro e w' ⟨A', c', rfl, _, hb⟩
    exact ⟨A', n - 4, c', _, rfl, .inl ⟨rfl, hP.1 hx⟩, hb⟩
  · refine (open_wrong A n c l s w _ hE hn hr hnc hn2 ht hx).mono ?_
    rintro e w' ⟨rfl, hb⟩
    exact ⟨none, 0, 0, _, rfl, .inr ⟨rfl, fun h => hx (hP.2 h)⟩, hb⟩
theorem own_some {w : World} {base n c : Nat} {e : TypeId} {A : Option Addr} {l : List UInt8} (h : OwnBytes w base e A n c l) (hn : 0 < n) : ∃ g, A = some ⟨g, 0, none⟩ ∧ base ≤ g ∧ g < w.heap.size := by
  rcases h.2 with ⟨_, h0⟩ | ⟨g, cap, cur, hv, hg, hh, _⟩
  · omega
  · injection hv with hA _ _
    refine ⟨g, hA, hg, ?_⟩
    rcases Nat.lt_or_ge g w.heap.size with h' | h'
    · exact h'
    · rw [Array.getElem?_eq_none h'] at hh; cases hh

set_option maxRecDepth 100000 in
set_option maxHeartbeats 4000000 in
theorem finds_walk (A : Option Addr) (n c : Nat) (b : List UInt8) (s : BitVec 32) (at_ : Int) (burst : BitVec 32) (i k l : Int) (w : World) (h0 : InBytes w A n c b)
    (b1 : -9223372036854775808 ≤ at_) (b1' : at_ ≤ 9223372036854775807) (b2 : -9223372036854775808 ≤ i) (b2' : i ≤ 9223372036854775807) (b3 : -9223372036854775808 ≤ k) (b3' : k ≤ 9223372036854775807) (b4 : -9223372036854775808 ≤ l) (b4' : l ≤ 9223372036854775807)
    (aS : Addr) (hS : w.cell? ⟨1, 0, none⟩ = some (errV aS)) (ht : Steps w) (hn : n ≤ 500) :
    Calls Tryd.prog 4 #[.slice A n c, .int .u32 (u s), .int .i64 at_, .int .u32 (u burst), .int .i64 i, .int .i64 k, .int .i64 l] w fun e w' => e = .returned (.bool true) ∧ Below w.heap.size w w' := by
  obtain ⟨i0, hi0, hz0, hz1, hz2⟩ := info_parts info_u8
  have hbl := h0.bytes.len
  go_enter Tryd.func4, Tryd.ntmps4
  go_wp2_with fail
  refine (first_any _ ht).mono ?_
  rintro e w1 ⟨rfl, hb1⟩
  have hs1 := hb1.size
  -- s
  go_wp2_with fail
  refine (seal_any A n c b s _ ((h0.bytes.below hb1 (Nat.le_refl _)).mono hs1) h0.nn (by omega) (ht.below hb1 (Nat.le_refl _))).mono ?_
  rintro e w2 ⟨S, cs, rfl, hoS, hb2⟩
  have hb2' : Below w.heap.size w w2 := hb1.trans (hb2.mono hs1)
  have hs2 := hb2'.size
  have hnn : (bne ((n : Int) + 4) ((n : Int) + 4)) = false := by simp
  -- c
  go_wp2_with fail
  refine (refbytes_any S (n + 4) cs _ _ hoS.bytes (by omega)).mono ?_
  rintro e w3 ⟨C, cc, rfl, hoC, hb3⟩
  have hb3' : Below w.heap.size w w3 := hb2'.trans (hb3.mono hs2)
  have hs3 := hb3'.size
  -- from
  go_wp2_with fail
  refine (number_any at_ _ _ (by omega) b1 b1' (by omega)).mono ?_
  rintro e w4 ⟨⟨fr, rfl, hfr⟩, rfl⟩
  have hfr2 : fr + 32 ≤ 8 * (n + 4) := by omega
  obtain ⟨g, rfl, hg, hglt⟩ := own_some hoC (by omega)
  have hLs : (b ++ Crc.tail b s).length = n + 4 := by rw [List.length_append, Crc.tail_len, hbl]
  have HC := Lib.hid hoC
  clear hoC
  go_wp2
  go_loopw [20] (fun j wr => ∃ m : Nat, m ≤ 32 ∧ j = .int .i64 m ∧ (∃ E : List UInt8, E.length = n + 4 ∧ OwnBytes wr w2.heap.size 5 (some ⟨g, 0, none⟩) (n + 4) cc (Crc.turn (b ++ Crc.tail b s) E) ∧ Crc.run 0#32 E = Crc.burstSyn (n + 4) fr burst m) ∧ Below w2.heap.size w2 wr) (fun j _ => 32 - (intOf j).toNat)
  case atStart => exact ⟨0, by omega, rfl, ⟨List.replicate (n + 4) 0, by simp, by rw [Crc.turn_zero hLs]; exact HC.out, Crc.run_zero _⟩, hb3⟩
  case round =>
    obtain ⟨m, hm, rfl, ⟨E, hEl, hoE, hsyn⟩, hbw⟩ := hrel
    by_cases hlt : m < 32
    · by_cases hbit : burst.getLsbD m = true
      · have hp : fr + m < 8 * (n + 4) := by omega
        obtain ⟨q, hq⟩ : ∃ q, q = (fr + m) / 8 := ⟨_, rfl⟩
        obtain ⟨r, hr⟩ : ∃ r, r = (fr + m) % 8 := ⟨_, rfl⟩
        have hqn : q < n + 4 := by omega
        have eq1 : ((fr : Int) + (m : Int)) / (8 : Int) = (q : Int) := by omega
        have eq2 : ((fr : Int) + (m : Int)) % (8 : Int) = (r : Int) := by omega
        have hcell := hoE.bytes.at_ hqn
        obtain ⟨b9, off9, he9, _, hc9⟩ := hcell
        injection he9 with he9
        injection he9 with he91 he92 he93
        subst he91; subst he92
        rw [Nat.zero_add] at hc9
        have hfz := World.ownsRow.frozenAt hoE q
        have Hown := Lib.hid hoE
        have Hsyn := Lib.hid hsyn
        have Hq := Lib.hid hq
        have Hr := Lib.hid hr
        have hqI : (q : Int) < (n : Int) + 4 := by omega
        have hlen : q < (Crc.turn (b ++ Crc.tail b s) E).length := by rw [Crc.turn_len hLs hEl]; exact hqn
        generalize hx : (Crc.turn (b ++ Crc.tail b s) E)[q]'hlen = x at *
        have Hx := Lib.hid hx
        have htest := u32_test burst m
        rw [if_pos hbit] at htest
        clear hx hq hr hoE hsyn
        go_wp2
        go_roundw
        case measure => simp [intOf]; omega
        case rel =>
          obtain ⟨f1, f2, f3⟩ := Crc.flip_seen (p := fr + m) hLs hEl hp
          refine ⟨m + 1, by omega, by go_num, ⟨Crc.turn E (Crc.unit (n + 4) (fr + m)), f2, ?_, ?_⟩, Below.setCell hbw (p := ⟨g, q, none⟩) hg _⟩
          · rw [← f1]
            exact own_flip Hown.out Hq.out Hr.out hlen Hx.out
          · rw [f3, Hsyn.out]
            exact (if_pos hbit).symm
      · have htest := u32_test burst m
        rw [if_neg hbit] at htest
        have Hown := Lib.hid hoE
        have Hsyn := Lib.hid hsyn
        clear hoE hsyn
        go_wp2
        go_roundw
        case measure => simp [intOf]; omega
        case rel => exact ⟨m + 1, by omega, by go_num, ⟨E, hEl, Hown.out, by rw [Hsyn.out]; exact (if_neg hbit).symm⟩, hbw⟩
    · have hm32 : m = 32 := by omega
      subst hm32
      clear hlt hm HC
      have hbr : Below w.heap.size w wr := hb2'.trans (hbw.mono hs2)
      have hsr := hbr.size
      have hS2 : wr.cell? ⟨1, 0, none⟩ = some (errV aS) := (hbr.cell (p := ⟨1, 0, none⟩) (World.lt_of_cell hS)).trans hS
      have hzero := Crc.burst_zero (n + 4) fr burst (by omega)
      have hiff := Crc.seen_iff b s E (by omega)
      rw [hsyn, hzero, hbl] at hiff
      have HI := Lib.hid hiff
      have HE := Lib.hid hsyn
      clear hiff hsyn hzero
      have htr := ht.below hbr (Nat.le_refl _)
      -- e
      go_wp2_with fail
      refine (open_iff (some ⟨g, 0, none⟩) (n + 4) cc _ s _ aS (burst = 0#32) hS2 (by omega) hoE.bytes hoE.cap (by omega) htr (by rw [show n + 4 - 4 = n from by omega]; exact HI.out)).mono ?_
      rintro e w5 ⟨X, nx, cx, ev, rfl, hev, hb5⟩
      have HV := Lib.hid hev
      clear hev hoE
      have hb5' : Below w.heap.size w w5 := hbr.trans (hb5.mono hsr)
      have hb25 : Below w2.heap.size w2 w5 := hbw.trans (hb5.mono hbw.size)
      have hs5 := hb5'.size
      have hkS := (hoS.bytes.below hb25 (Nat.le_refl _)).mono hb25.size
      -- d
      go_wp2_with fail
      refine (refbytes_any S (n + 4) cs _ _ hkS (by omega)).mono ?_
      rintro e w6 ⟨D, cd, rfl, hoD, hb6⟩
      have hb6' : Below w.heap.size w w6 := hb5'.trans (hb6.mono hs5)
      go_wp2_with fail
      refine (number_any i _ _ (by omega) b2 b2' (by omega)).mono ?_
      rintro e w7 ⟨⟨p1, rfl, hp1⟩, rfl⟩
      go_wp2_with fail
      refine (number_any k _ _ (by omega) b3 b3' (by omega)).mono ?_
      rintro e w7 ⟨⟨p2, rfl, hp2⟩, rfl⟩
      go_wp2_with fail
      refine (number_any l _ _ (by omega) b4 b4' (by omega)).mono ?_
      rintro e w7 ⟨⟨p3, rfl, hp3⟩, rfl⟩
      obtain ⟨g2, rfl, hg2, hg2lt⟩ := own_some hoD (by omega)
      have hal : Below w6.heap.size w6 (w6.alloc (.cells #[.int .i64 p1, .int .i64 p2, .int .i64 p3] 3)) := (Below.refl _ _).alloc (Nat.le_refl _) _
      have HD := Lib.hid (hoD.below hal (Nat.le_refl _))
      have hb56 : Below w5.heap.size w5 (w6.alloc (.cells #[.int .i64 p1, .int .i64 p2, .int .i64 p3] 3)) := hb6.alloc hb6.size _
      have hcs : ∀ t, t < 3 → (w6.alloc (.cells #[.int .i64 p1, .int .i64 p2, .int .i64 p3] 3)).cell? ⟨w6.heap.size, t, none⟩ = some (.int .i64 (([p1, p2, p3].getD t 0 : Nat) : Int)) := by
        intro t htt
        have := cell_of_row (w6.alloc (.cells #[.int .i64 p1, .int .i64 p2, .int .i64 p3] 3)) w6.heap.size t #[.int .i64 p1, .int .i64 p2, .int .i64 p3] 3 (0, 0) (heap_alloc_new w6 _)
        rw [this]
        match t, htt with
        | 0, _ => rfl
        | 1, _ => rfl
        | 2, _ => rfl
      have HCS := Lib.hid hcs
      clear hoD hcs hal
      go_wp2
      go_loopw [25] (fun j wr2 => ∃ m : Nat, m ≤ 3 ∧ j = .int .i64 m ∧ (∃ E2 : List UInt8, E2.length = n + 4 ∧ OwnBytes wr2 w5.heap.size 5 (some ⟨g2, 0, none⟩) (n + 4) cd (Crc.turn (b ++ Crc.tail b s) E2) ∧ Crc.run 0#32 E2 = Crc.threeSyn (n + 4) p1 p2 p3 m) ∧ (∀ t, t < 3 → wr2.cell? ⟨w6.heap.size, t, none⟩ = some (.int .i64 (([p1, p2, p3].getD t 0 : Nat) : Int))) ∧ Below w5.heap.size w5 wr2) (fun j _ => 3 - (intOf j).toNat)
      case atStart => exact ⟨0, by omega, rfl, ⟨List.replicate (n + 4) 0, by simp, by rw [Crc.turn_zero hLs]; exact HD.out, Crc.run_zero _⟩, HCS.out, hb56⟩
      case round =>
        obtain ⟨m, hm, rfl, ⟨E2, hE2l, hoE2, hsyn2⟩, hcs2, hbw2⟩ := hrel
        by_cases hlt : m < 3
        · obtain ⟨p, hp⟩ : ∃ p, p = [p1, p2, p3].getD m 0 := ⟨_, rfl⟩
          have hpn : p < 8 * (n + 4) ∧ Crc.threeSyn (n + 4) p1 p2 p3 (m + 1) = Crc.threeSyn (n + 4) p1 p2 p3 m ^^^ Crc.bits (8 * (n + 4) - p) 1#32 := by
            match m, hlt with
            | 0, _ => subst hp; exact ⟨by omega, by simp [Crc.threeSyn]⟩
            | 1, _ => subst hp; exact ⟨by omega, rfl⟩
            | 2, _ => subst hp; exact ⟨by omega, rfl⟩
          have hcm := hcs2 m hlt
          rw [← hp] at hcm
          obtain ⟨q, hq⟩ : ∃ q, q = p / 8 := ⟨_, rfl⟩
          obtain ⟨r, hr⟩ : ∃ r, r = p % 8 := ⟨_, rfl⟩
          have hqn : q < n + 4 := by omega
          have eq1 : (p : Int) / (8 : Int) = (q : Int) := by omega
          have eq2 : (p : Int) % (8 : Int) = (r : Int) := by omega
          have hcell := hoE2.bytes.at_ hqn
          obtain ⟨b9, off9, he9, _, hc9⟩ := hcell
          injection he9 with he9
          injection he9 with he91 he92 he93
          subst he91; subst he92
          rw [Nat.zero_add] at hc9
          have hfz := World.ownsRow.frozenAt hoE2 q
          have Hown := Lib.hid hoE2
          have Hsyn := Lib.hid hsyn2
          have Hq := Lib.hid hq
          have Hr := Lib.hid hr
          have Hpn := Lib.hid hpn.2
          have Hcs := Lib.hid hcs2
          have hplt := hpn.1
          have hqI : (q : Int) < (n : Int) + 4 := by omega
          have hmI : (m : Int) < 3 := by omega
          have hm0 : (0 : Int) ≤ m := by omega
          have hlen : q < (Crc.turn (b ++ Crc.tail b s) E2).length := by rw [Crc.turn_len hLs hE2l]; exact hqn
          generalize hx : (Crc.turn (b ++ Crc.tail b s) E2)[q]'hlen = x at *
          have Hx := Lib.hid hx
          clear hx hq hr hoE2 hsyn2 hpn hp hcs2
          go_wp2
          go_region
          go_wp2
          go_roundw
          case measure => simp [intOf]; omega
          case rel =>
            obtain ⟨f1, f2, f3⟩ := Crc.flip_seen (p := p) hLs hE2l hplt
            refine ⟨m + 1, by omega, by go_num, ⟨Crc.turn E2 (Crc.unit (n + 4) p), f2, ?_, ?_⟩, ?_, Below.drew (Below.setCell hbw2 (p := ⟨g2, q, none⟩) hg2 _)⟩
            · rw [← f1]
              exact own_below (own_flip Hown.out Hq.out Hr.out hlen Hx.out) (Below.refl _ _).drew (Nat.le_refl _)
            · rw [f3, Hsyn.out, Hpn.out]
            · intro t htt
              exact (World.cell?_setCell_other wr ⟨g2, q, none⟩ ⟨w6.heap.size, t, none⟩ _ (fun e => by injection e with e1; omega)).trans (Hcs.out t htt)
        · have hm3 : m = 3 := by omega
          subst hm3
          clear hlt hm hcs2 HCS HD
          have hbr2 : Below w.heap.size w wr := hb5'.trans (hbw2.mono hs5)
          have hsr2 := hbr2.size
          have hS3 : wr.cell? ⟨1, 0, none⟩ = some (errV aS) := (hbr2.cell (p := ⟨1, 0, none⟩) (World.lt_of_cell hS)).trans hS
          have hne3 : Crc.run 0#32 E2 ≠ 0#32 := by rw [hsyn2]; exact Crc.threeSyn_ne (by omega)
          have hiff2 : (Crc.turn (b ++ Crc.tail b s) E2).drop (n + 4 - 4) = Crc.tail ((Crc.turn (b ++ Crc.tail b s) E2).take (n + 4 - 4)) s ↔ False := by
            rw [show n + 4 - 4 = b.length from by omega, Crc.seen_iff b s E2 (by omega)]
            exact ⟨fun h => hne3 h, fun h => h.elim⟩
          have hds : (Crc.turn (b ++ Crc.tail b s) E2 == (b ++ Crc.tail b s)) = false := by
            rw [beq_eq_false_iff_ne]
            exact fun h => hne3 (Crc.turn_same (by omega) h)
          have HDS := Lib.hid hds
          have HI2 := Lib.hid hiff2
          clear hds hiff2 hne3 hsyn2
          have htr2 := ht.below hbr2 (Nat.le_refl _)
          have hkD := hoE2.bytes
          have hkDc := hoE2.cap
          clear hoE2
          -- f
          go_wp2_with fail
          refine (open_iff (some ⟨g2, 0, none⟩) (n + 4) cd _ s _ aS False hS3 (by omega) hkD hkDc (by omega) htr2 HI2.out).mono ?_
          rintro e w8 ⟨Y, ny, cy, fv, rfl, hfv, hb8⟩
          obtain rfl : fv = errV aS := by
            rcases hfv with ⟨_, h⟩ | ⟨h, _⟩
            · exact h.elim
            · exact h
          clear hfv
          have hb8' : Below w.heap.size w w8 := hbr2.trans (hb8.mono hsr2)
          have hb58 : Below w5.heap.size w5 w8 := hbw2.trans (hb8.mono hbw2.size)
          have hs8 := hb8'.size
          have hkS8 := (hkS.below hb58 (Nat.le_refl _)).mono hb58.size
          have hkD8 := (hkD.below hb8 (Nat.le_refl _)).mono hb8.size
          have hS8 : w8.cell? ⟨1, 0, none⟩ = some (errV aS) := (hb8'.cell (p := ⟨1, 0, none⟩) (World.lt_of_cell hS)).trans hS
          have htk : (b ++ Crc.tail b s).take (n + 4 - 4) = b := by rw [show n + 4 - 4 = b.length from by omega, List.take_left]
          -- back, g
          go_wp2_with fail
          refine (open_right S (n + 4) cs (b ++ Crc.tail b s) s _ _ hS8 (by omega) hkS8 hoS.cap (by omega) (ht.below hb8' (Nat.le_refl _)) (by rw [htk, show n + 4 - 4 = b.length from by omega, List.drop_left])).mono ?_
          rintro e w9 ⟨Z, cz, rfl, hoZ, hb9⟩
          have hb9' : Below w.heap.size w w9 := hb8'.trans (hb9.mono hs8)
          have hs9 := hb9'.size
          rw [htk] at hoZ
          have qD := (hkD8.below hb9 (Nat.le_refl _)).mono hb9.size
          have qS := (hkS8.below hb9 (Nat.le_refl _)).mono hb9.size
          have qZ := hoZ.bytes
          have qB := (h0.bytes.below hb9' (Nat.le_refl _)).mono hs9
          clear htk
          rw [show n + 4 - 4 = n from by omega] at qZ hoZ ⊢
          have k1 : ∀ q, Calls Tryd.prog 16 #[.slice (some ⟨g2, 0, none⟩) (n + 4) cd, .slice S (n + 4) cs] (w9.drewN q) fun e w'' => e = .returned (.bool false) ∧ ∃ m, w'' = w9.drewN m := by
            intro q
            have := same_quiet (some ⟨g2, 0, none⟩) S (n + 4) (n + 4) cd cs _ _ (w9.drewN q) _ _ (qD.drewN q) (qS.drewN q) (by omega) (by omega)
            rw [HDS.out] at this
            exact Calls.quiet_of this
          have k2 : ∀ q, Calls Tryd.prog 16 #[.slice Z n cz, .slice A n c] (w9.drewN q) fun e w'' => e = .returned (.bool true) ∧ ∃ m, w'' = w9.drewN m := by
            intro q
            have := same_quiet Z A n n cz c b b (w9.drewN q) _ _ (qZ.drewN q) (qB.drewN q) (by omega) (by omega)
            rw [show (b == b) = true from by simp] at this
            exact Calls.quiet_of this
          have K1 := Lib.hid k1
          have K2 := Lib.hid k2
          clear k1 k2
          rcases HV.out with ⟨rfl, hbz⟩ | ⟨rfl, hbz⟩
          · have hub : (u burst == 0) = true := by rw [hbz]; rfl
            have hub2 : (u burst != 0) = false := by rw [hbz]; rfl
            clear hbz
            unfold errV
            go_wp2
            go_quiet ((first | (go_at_call 16; with_reducible exact K1.out _) | (go_at_call 16; with_reducible exact K2.out _)))
            go_wp2
            go_ret
            exact ⟨rfl, below_drewN hb9' _⟩
          · have hub : (u burst == 0) = false := by rw [beq_eq_false_iff_ne]; intro h; exact hbz (u_inj (h.trans u_zero.symm))
            have hub2 : (u burst != 0) = true := by rw [bne, hub]; rfl
            clear hbz
            unfold errV
            go_wp2
            go_quiet ((first | (go_at_call 16; with_reducible exact K1.out _) | (go_at_call 16; with_reducible exact K2.out _)))
            go_wp2
            go_ret
            exact ⟨rfl, below_drewN hb9' _⟩

set_option maxHeartbeats 800000 in
theorem crcFinds_walk (A : Option Addr) (n c : Nat) (b : List UInt8) (s : BitVec 32) (at_ : Int) (burst : BitVec 32) (i k l : Int) (ads : List Addr) (w : World) (h0 : InBytes w A n c b)
    (b1 : -9223372036854775808 ≤ at_) (b1' : at_ ≤ 9223372036854775807) (b2 : -9223372036854775808 ≤ i) (b2' : i ≤ 9223372036854775807) (b3 : -9223372036854775808 ≤ k) (b3' : k ≤ 9223372036854775807) (b4 : -9223372036854775808 ≤ l) (b4' : l ≤ 9223372036854775807)
    (hE : Errs w 65 [0, 1] ads) (ht : Steps w) :
    Calls Tryd.prog 4 #[.slice A n c, .int .u32 (u s), .int .i64 at_, .int .u32 (u burst), .int .i64 i, .int .i64 k, .int .i64 l] w fun e w' => e = .returned (.bool true) ∧ Below w.heap.size w w' := by
  by_cases hn : n ≤ 500
  · obtain ⟨a1, ha1⟩ : ∃ a, ads[1]? = some a := by
      have := hE.len
      exact ⟨ads[1]'(by simp at this; omega), List.getElem?_eq_getElem _⟩
    exact finds_walk A n c b s at_ burst i k l w h0 b1 b1' b2 b2' b3 b3' b4 b4' a1 (hE.all 1 _ a1 rfl ha1).var ht hn
  · go_enter Tryd.func4, Tryd.ntmps4
    go_wp2_with (go_at_call 7; refine (first_any _ ht).mono ?_; rintro e w1 ⟨rfl, hb1⟩)
    go_ret
    exact ⟨rfl, hb1⟩
end Go.Proofs.YtklijhfieopakaaDoor
