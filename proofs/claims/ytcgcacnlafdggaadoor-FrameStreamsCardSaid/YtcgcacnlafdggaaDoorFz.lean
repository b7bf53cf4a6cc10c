/- The walk of FrameSpoilt. -/
import Derived.Test.YtcgcacnlafdggaaDoorSt
import Derived.Test.YtcgcacnlafdggaaDoorFp
import Derived.Test.YtcgcacnlafdggaaDoorFg
import Derived.Test.YtcgcacnlafdggaaDoorNumber
import Derived.Test.YtcgcacnlafdggaaDoorSet
import Derived.Test.YtcgcacnlafdggaaDoorTabs
import Derived.Test.YtcgcacnlafdggaaDoorFrame
namespace Go.Proofs.YtcgcacnlafdggaaDoor
open Go.RowKit

set_option maxHeartbeats 400000 in
theorem first_any (w : World) (ht : Steps w) :
    Calls Tryd.prog 7 #[] w fun e w' => e = .returned (.bool true) ∧ Below w.heap.size w w' := by
  go_enter Tryd.func7, Tryd.ntmps7
  go_wp2_with fail
  refine (fput_any (w := w) 1 none 0 0 [] ht (Bytes.nil _ _ _) (fun _ => ⟨rfl, rfl⟩) (by omega)).mono ?_
  rintro e w1 ⟨A1, c1, rfl, ho1, hb1⟩
  go_wp2
  go_ret
  exact ⟨rfl, hb1⟩

set_option maxRecDepth 8000 in
set_option maxHeartbeats 4000000 in
theorem frameSpoilt_walk (n0 at0 : Int) (x : UInt8) (ads : List Addr) (w : World)
    (b1 : -9223372036854775808 ≤ n0) (b2 : n0 ≤ 9223372036854775807) (b3 : -9223372036854775808 ≤ at0) (b4 : at0 ≤ 9223372036854775807)
    (hE0 : Errs w 77 [0, 3, 2, 1] ads) (ht : Steps w) :
    Calls Tryd.prog 6 #[.int .i64 n0, .int .i64 at0, .int .u8 (x.toNat : Int)] w fun e w' => e = .returned (.bool true) ∧ Below w.heap.size w w' := by
  obtain ⟨E, hE⟩ : ∃ E, FrErrs w E := ⟨_, frErrs4 hE0⟩
  clear hE0
  go_enter Tryd.func6, Tryd.ntmps6
  go_wp2_with fail
  refine (first_any w ht).mono ?_
  rintro e w1 ⟨rfl, hb1⟩
  go_wp2_with fail
  refine (number_any n0 5 w1 (by decide) b1 b2 (by decide)).mono ?_
  rintro e w2 ⟨⟨n', rfl, hn'⟩, rfl⟩
  obtain ⟨n, hn⟩ : ∃ n, n = n' + 1 := ⟨_, rfl⟩
  have hn5 : n ≤ 5 := by omega
  have hnc : (n' : Int) + 1 = (n : Int) := by omega
  have hn1 : 1 ≤ n := by omega
  clear hn hn'
  go_wp2_with fail
  refine (number_any at0 n w1 (by omega) b3 b4 (by omega)).mono ?_
  rintro e w2 ⟨⟨at_, rfl, hat⟩, rfl⟩
  have hat' : at_ < n := by omega
  clear hat
  by_cases hx : x = 0
  · subst hx
    go_wp2
    go_ret
    exact ⟨rfl, hb1⟩
  · have hx0 : ((x.toNat : Int) == 0) = false := by
      rw [beq_eq_false_iff_ne]
      intro e
      exact hx (UInt8.toNat_inj.1 (by show x.toNat = 0; omega))
    have HX := Lib.hid hx
    clear hx
    have hs1 := hb1.size
    obtain ⟨p, hp⟩ : ∃ p, p = w1.heap.size := ⟨_, rfl⟩
    have h0 : StC (w1.alloc (.cells #[.slice none 0 0] 27)) w.heap.size p none [] := by
      subst hp
      refine ⟨⟨none, 0, 0, cell_of_row _ w1.heap.size 0 _ _ (0, 0) (heap_alloc_new w1 _), ?_, OwnTail.nil _ _ _, rfl⟩, hs1, by simp⟩
      unfold World.frozen?; rw [heap_alloc_new w1]; rfl
    have hb2 : Below w.heap.size w (w1.alloc (.cells #[.slice none 0 0] 27)) := hb1.alloc hs1 _
    go_wp2_with fail
    rw [← hp]
    clear hp
    generalize w1.alloc (.cells #[.slice none 0 0] 27) = w3 at *
    go_loopw [9, 10] (fun f i wr => ∃ k : Nat, k ≤ n ∧ i = .int .i64 k ∧ f = .int .i64 (12 * (k : Int)) ∧ (∃ q, StC wr w.heap.size p q (Fr.spoilt at_ x 0 k)) ∧ Below w.heap.size w wr) (fun _ i _ => n - (intOf i).toNat)
    case atStart => exact ⟨0, Nat.zero_le _, rfl, rfl, ⟨none, h0⟩, hb2⟩
    case round =>
      obtain ⟨k, hk, rfl, rfl, ⟨q, hst⟩, hbw⟩ := hrel
      clear h0 hb2
      by_cases hlt : k < n
      · have hk8 : ((UInt8.ofNat k).toNat : Int) = (k : Int) := by rw [UInt8.toNat_ofNat', Nat.mod_eq_of_lt (by omega)]
        have hal := (Below.refl wr.heap.size wr).alloc (Nat.le_refl _) (.cells #[.int .u8 (k : Int), .int .u8 7] 5)
        have hrow : Bytes (wr.alloc (.cells #[.int .u8 (k : Int), .int .u8 7] 5)) (wr.heap.size + 1) (some ⟨wr.heap.size, 0, none⟩) 2 [UInt8.ofNat k, 7] := by
          have := Row.lit wr #[.int .u8 (k : Int), .int .u8 7] 5
          unfold Bytes
          rw [show [UInt8.ofNat k, 7].map bv = [.int .u8 (k : Int), .int .u8 7] from by simp only [List.map_cons, List.map_nil, bv, hk8]; rfl]
          exact this
        have hput := fput_any (w := wr.alloc (.cells #[.int .u8 (k : Int), .int .u8 7] 5)) (UInt8.ofNat k) (some ⟨wr.heap.size, 0, none⟩) 2 2 [UInt8.ofNat k, 7]
          ((ht.below hbw (Nat.le_refl _)).below hal (Nat.le_refl _)) (by rw [size_alloc]; exact hrow) (fun h => by cases h) (by omega)
        rw [hk8] at hput
        have hst1 := hst.below hal
        have hbw1 := hbw.alloc hbw.size (.cells #[.int .u8 (k : Int), .int .u8 7] 5)
        clear hrow hal hbw hst
        go_wp2_with fail
        refine hput.mono ?_
        rintro e w5 ⟨A5, c5, rfl, ho5, hb5⟩
        have hst5 := hst1.below hb5
        have hbw5 := hbw1.trans (hb5.mono hbw1.size)
        have hz5 := hb5.size
        obtain ⟨g, rfl, hgb, hgs⟩ := own_some ho5 (by omega)
        have ho5' : OwnBytes w5 w.heap.size 5 (some ⟨g, 0, none⟩) 12 c5 (Fr.good k) := ho5.base hbw1.size
        have hgp : g ≠ p := fun e => by have := hst1.lt; omega
        have hgq : q ≠ some g := fun e => by have := (hst1.qlt g e).2; omega
        have hgw : w.heap.size ≤ g := Nat.le_trans hbw1.size hgb
        clear hput ho5 hst1 hbw1 hb5 hz5 hgb
        have hcap := ho5'.cap
        have hmost := ho5'.most
        have hlow := hst5.low
        have hsl : (Fr.spoilt at_ x 0 k).length = 12 * k := Fr.spoilt_len at_ x k 0
        have hap := Fr.spoilt_append at_ x k 0
        rw [Nat.zero_add] at hap
        have HA := Lib.hid hap
        clear hap
        by_cases hka : k = at_
        · subst hka
          obtain ⟨b6, off6, he6, _, hc6⟩ := ho5'.bytes.at_ (k := 6) (by omega)
          obtain ⟨rfl, rfl⟩ : g = b6 ∧ 0 = off6 := by injection he6 with he; injection he with h1 h2; exact ⟨h1, h2⟩
          rw [Fr.good_six] at hc6
          generalize hy : UInt8.ofNat k = y at *
          have hxor := u8_xor y x
          rw [hk8] at hxor
          have f6 := own_frozen ho5' 6
          have ho6 := own_set (q := 6) ho5' (y ^^^ x)
          have hst6 := hst5.kept (grown_setCell w5 ⟨g, 6, none⟩ (.int .u8 ((y ^^^ x).toNat : Int))) (fun e => hgp (Option.some.inj e)) (fun g' h1 h2 => hgq (by rw [h1]; exact h2.symm))
          have hb6 : Below w.heap.size w (w5.setCell ⟨g, 6, none⟩ (.int .u8 ((y ^^^ x).toNat : Int))) := hbw5.setCell (p := ⟨g, 6, none⟩) hgw _
          go_wp2_with fail
          refine (feed_any hst6 _ _ 12 c5 _ (fun h => by cases h) ho6.bytes (by rw [hsl]; omega) hb6.size).mono ?_
          rintro e w7 ⟨rfl, ⟨q', hst7, hq'⟩, hTwo⟩
          have hb7 := hTwo.below hb6 (Nat.le_refl _) hlow (fun g' e => (hst6.qlt g' e).1)
          have e7 : Fr.spoilt k x 0 k ++ (Fr.good k).set 6 (y ^^^ x) = Fr.spoilt k x 0 (k + 1) := by rw [HA.out, if_pos trivial, ← hy]; rfl
          rw [e7] at hst7
          clear hTwo hst6 hst5 hb6 hbw5 ho5' ho6 HA hsl e7
          go_wp2
          go_roundw
          case rel => exact ⟨k + 1, by omega, by go_num, by go_num, ⟨q', hst7⟩, hb7⟩
          case measure => simp [intOf]; omega
        · have hka' : ((k : Int) == (at_ : Int)) = false := by rw [beq_eq_false_iff_ne]; omega
          go_wp2_with fail
          refine (feed_any hst5 _ _ 12 c5 _ (fun h => by cases h) ho5'.bytes (by rw [hsl]; omega) hbw5.size).mono ?_
          rintro e w7 ⟨rfl, ⟨q', hst7, hq'⟩, hTwo⟩
          have hb7 := hTwo.below hbw5 (Nat.le_refl _) hlow (fun g' e => (hst5.qlt g' e).1)
          have e7 : Fr.spoilt at_ x 0 k ++ Fr.good k = Fr.spoilt at_ x 0 (k + 1) := by rw [HA.out, if_neg hka]
          rw [e7] at hst7
          clear hTwo hst5 hbw5 ho5' HA hsl e7
          go_wp2
          go_roundw
          case rel => exact ⟨k + 1, by omega, by go_num, by go_num, ⟨q', hst7⟩, hb7⟩
          case measure => simp [intOf]; omega
      · have hkn : k = n := by omega
        subst hkn
        have hlow := hst.low
        rw [← Fr.left_start (at_ := at_) (n := k) (x := x)] at hst
        go_wp2_with fail
        obtain ⟨wo, hwo⟩ : ∃ wo : World, wo = wr := ⟨_, rfl⟩
        rw [← hwo]
        rw [← hwo] at hst hbw
        clear hwo
        go_loopw [13, 14] (fun g i wr => ∃ j m : Nat, j ≤ k ∧ i = .int .i64 j ∧ g = .int .i64 m ∧ (j < k → m = j) ∧ (j = k → m + 1 = k) ∧ StC wr w.heap.size p q (Fr.left_ at_ k x j) ∧ Below w.heap.size w wr) (fun _ i _ => k - (intOf i).toNat)
        case atStart => exact ⟨0, 0, Nat.zero_le _, rfl, rfl, fun _ => rfl, fun h => by omega, hst, hbw⟩
        case round =>
          obtain ⟨j, m, hj, rfl, rfl, hm1, hm2, hst2, hbw2⟩ := hrel
          clear hst hbw
          by_cases hjk : j < k
          · obtain rfl : m = j := hm1 hjk
            obtain ⟨hnx, hcs⟩ := Fr.left_step (at_ := at_) (n := k) (x := x) (k := m) hn5 hat' hjk HX.out
            have hlen := Fr.left_len at_ k x m
            have hnext := next_any hE ht hbw2 (Nat.le_refl _) hst2 (by omega)
            rw [hnx] at hnext
            have hm8 : ((UInt8.ofNat m).toNat : Int) = (m : Int) := by rw [UInt8.toNat_ofNat', Nat.mod_eq_of_lt (by omega)]
            clear hlen hnx hm1 hm2
            rcases hcs with ⟨hlast, j', hj', hsome⟩ | ⟨hlast, hnone⟩
            · rw [Fr.got_some hsome] at hnext
              clear hsome
              go_wp2_with fail
              refine hnext.mono ?_
              rintro e w7 ⟨A7, c7, rfl, ho7, hst7, hg7⟩
              have hb7 : Below w.heap.size w w7 := hbw2.grown hg7 hbw2.size (fun g h => by cases h; exact hlow)
              clear hnext ho7 hg7 hst2 hbw2
              by_cases hma : m < at_
              · obtain rfl : j' = m := hj' hma
                go_wp2
                go_roundw
                case rel => exact ⟨j' + 1, j' + 1, by omega, by go_num, by go_num, fun _ => rfl, fun h => by omega, hst7, hb7⟩
                case measure => simp [intOf]; omega
              · generalize UInt8.ofNat j' = y at *
                go_wp2
                go_roundw
                case rel => exact ⟨m + 1, m + 1, by omega, by go_num, by go_num, fun _ => rfl, fun h => by omega, hst7, hb7⟩
                case measure => simp [intOf]; omega
            · rw [Fr.got_none hnone] at hnext
              clear hnone
              go_wp2_with fail
              refine hnext.mono ?_
              rintro e w7 ⟨A7, c7, rfl, ho7, hst7, hg7⟩
              have hb7 : Below w.heap.size w w7 := hbw2.grown hg7 hbw2.size (fun g h => by cases h; exact hlow)
              clear hnext ho7 hg7 hst2 hbw2
              go_wp2
              go_roundw
              case rel => exact ⟨m + 1, m, by omega, by go_num, rfl, fun h => by omega, fun h => by omega, hst7, hb7⟩
              case measure => simp [intOf]; omega
          · obtain rfl : j = k := by omega
            have hm3 := hm2 rfl
            rw [Fr.left_end hat'] at hst2
            clear hm1 hm2
            go_wp2_with (go_at_call 14; refine (left_any hst2).mono ?_; rintro e w8 ⟨rfl, rfl⟩)
            go_ret
            exact ⟨by simp; omega, hbw2⟩
end Go.Proofs.YtcgcacnlafdggaaDoor
