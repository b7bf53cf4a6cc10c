/- The walk of NumPuts. -/
import Derived.Test.YtlglinclendkkaaNp
import Derived.Test.YtlglinclendkkaaSame
import Derived.Test.YtlglinclendkkaaFrame
import Derived.Test.YtlglinclendkkaaOpen
namespace Go.Proofs.Ytlglinclendkkaa
open Go.RowKit

theorem flags_take (fs : List Bool) (k : Nat) (h : k < fs.length) : (fs.take (k + 1)).map flagOf = (fs.take k).map flagOf ++ [flagOf fs[k]] := by
  rw [List.take_succ_eq_append_getElem h]
  simp only [List.map_append, List.map_cons, List.map_nil]
theorem mem_take_succ {α : Type} {l : List α} {k : Nat} {p : α → Prop} (h : k < l.length) (hp : ∀ x ∈ l.take k, p x) (hk : p l[k]) : ∀ x ∈ l.take (k + 1), p x := by
  rw [List.take_succ_eq_append_getElem h]
  intro x hx
  rcases List.mem_append.1 hx with hx | hx
  · exact hp x hx
  · obtain rfl := List.mem_singleton.1 hx
    exact hk

set_option maxRecDepth 8000 in
set_option maxHeartbeats 8000000 in
theorem numPuts_walk (A : Option Addr) (n c : Nat) (l : List UInt8) (D : Option Addr) (k d : Nat) (ns : List Int) (T : Option Addr) (t tc : Nat) (ss : List ByteArray) (F : Option Addr) (f fc : Nat) (fs : List Bool) (w : World)
    (h0 : InBytes w A n c l) (h1 : InRow w 1 D k d (ns.map (Value.int .i64))) (hbd : ∀ y ∈ ns, -9223372036854775808 ≤ y ∧ y ≤ 9223372036854775807) (h2 : InRow w 1 T t tc (ss.map Value.string)) (_ : ∀ y ∈ ss, y.size ≤ maxLen) (h3 : InRow w 1 F f fc (fs.map Value.bool)) :
    Calls Try.prog 3 #[.slice A n c, .slice D k d, .slice T t tc, .slice F f fc] w fun e w' => e = .returned (.bool true) ∧ Below w.heap.size w w' := by
  have r0 := h0.bytes
  have r1 : Row w w.heap.size D k (ns.map (Value.int .i64)) := h1.row
  have r2 : Row w w.heap.size T t (ss.map Value.string) := h2.row
  have r3 : Row w w.heap.size F f (fs.map Value.bool) := h3.row
  have nn0 := h0.nn
  have ln : l.length = n := r0.len
  have lk : ns.length = k := by simpa using r1.len
  have lt : ss.length = t := by simpa using r2.len
  have lf : fs.length = f := by simpa using r3.len
  clear h0 h1 h2 h3
  by_cases hall : n ≤ 50 ∧ k ≤ 20 ∧ t ≤ 10 ∧ f ≤ 20
  · obtain ⟨hn, hk, ht, hf⟩ := hall
    go_enter Try.func3, Try.ntmps3
    go_wp2_with fail
    refine (first_any w).mono ?_
    rintro e w1 ⟨rfl, hb1⟩
    go_wp2_with fail
    go_loopw [10] (fun i wr => ∃ j : Nat, j ≤ t ∧ i = .int .i64 j ∧ (∀ s ∈ ss.take j, s.size ≤ 300) ∧ Below w.heap.size w wr) (fun i _ => t - (intOf i).toNat)
    case atStart => exact ⟨0, Nat.zero_le _, rfl, by simp, hb1⟩
    case round =>
      obtain ⟨j, hj, rfl, hsz, hbw⟩ := hrel
      have HS := Lib.hid hsz
      clear hsz
      by_cases hlt : j < t
      · obtain ⟨b, off, rfl, hbb, hc⟩ := (r2.below hbw (Nat.le_refl _)).at_ hlt
        have hj' : j < ss.length := by omega
        rw [List.getElem_map] at hc
        have hH := Lib.hid (mem_take_succ hj' HS.out)
        generalize ss[j]'hj' = x at *
        by_cases hx : x.size ≤ 300
        · have hH' := Lib.hid (hH.out hx)
          clear hH HS
          go_wp2_with fail
          go_roundw
          case measure => simp [intOf]; omega
          case rel => exact ⟨j + 1, by omega, by go_num, hH'.out, hbw⟩
        · clear hH HS
          go_wp2_with fail
          go_ret
          exact ⟨rfl, hbw⟩
      · have hje : ss.take j = ss := List.take_of_length_le (by omega)
        have hsz := HS.out
        rw [hje] at hsz
        clear HS hje
        obtain ⟨d1, d2⟩ : Hid (∀ s ∈ ss, s.size ≤ 300) ∧ Hid (∀ y ∈ ns, -9223372036854775808 ≤ y ∧ y ≤ 9223372036854775807) := ⟨Lib.hid hsz, Lib.hid hbd⟩
        clear hsz hbd
        go_wp2_with fail
        refine (refbytes_any A n c l _ ((r0.below hbw (Nat.le_refl _)).mono hbw.size) (by omega)).mono ?_
        rintro e w2 ⟨AX, cX, rfl, oX, bX⟩
        have b2 : Below w.heap.size w w2 := hbw.trans (bX.mono hbw.size)
        go_wp2_with fail
        refine (refbytes_any A n c l _ ((r0.below b2 (Nat.le_refl _)).mono b2.size) (by omega)).mono ?_
        rintro e w3 ⟨AY, cY, rfl, oY, bY⟩
        have b3 : Below w.heap.size w w3 := b2.trans (bY.mono b2.size)
        go_wp2_with fail
        refine (refbytes_any A n c l _ ((r0.below b3 (Nat.le_refl _)).mono b3.size) (by omega)).mono ?_
        rintro e w4 ⟨AZ, cZ, rfl, oZ, bZ⟩
        have b4 : Below w.heap.size w w4 := b3.trans (bZ.mono b3.size)
        have O : Own3 w4 w.heap.size 5 (.slice AX n cX) (.slice AY n cY) (.slice AZ n cZ) n n n l l l :=
          ⟨own_base (own_below (own_below oX bY (Nat.le_refl _)) bZ (Nat.le_refl _)) hbw.size, own_base (own_below oY bZ (Nat.le_refl _)) b2.size, own_base oZ b3.size,
            apart_of oX oY (Nat.le_refl _), apart_of oX oZ bY.size, apart_of oY oZ (Nat.le_refl _)⟩
        clear oX oY oZ bX bY bZ b2 b3 hbw
        go_wp2_with fail
        go_loopw [11, 14] (fun v i wr => ∃ j : Nat, j ≤ k ∧ i = .int .i64 j ∧ ∃ A1 m1 c1, v = .slice A1 m1 c1 ∧ Own3 wr w.heap.size 5 (.slice A1 m1 c1) (.slice AY n cY) (.slice AZ n cZ) m1 n n (l ++ encs (ns.take j)) l l ∧ Below w.heap.size w wr) (fun _ i _ => k - (intOf i).toNat)
        case atStart => exact ⟨0, Nat.zero_le _, rfl, AX, n, cX, rfl, by simpa [encs] using O, b4⟩
        case round =>
          clear O b4
          obtain ⟨j, hj, rfl, A1, m1, c1, rfl, O, hbw⟩ := hrel
          by_cases hlt : j < k
          · obtain ⟨b, off, rfl, hbb, hc⟩ := (r1.below hbw (Nat.le_refl _)).at_ hlt
            have hj' : j < ns.length := by omega
            have hH := Lib.hid (encs_take ns j hj')
            have hb := d2.out ns[j] (List.getElem_mem hj')
            have hlen := encs_len (ns.take j) fun x hx => d2.out x (mem_take hx)
            have hl2 := OwnBytes.len O.x
            rw [List.length_append] at hl2
            rw [List.length_take, Nat.min_eq_left (by omega)] at hlen
            rw [List.getElem_map] at hc
            generalize ns[j]'hj' = x at *
            go_wp2_with fail
            refine (refPut_any A1 m1 c1 _ x _ w.heap.size hb.1 hb.2 O.x hbw.size (by omega)).mono ?_
            rintro e w5 ⟨A2, c2, rfl, o5, g5⟩
            go_wp2
            go_roundw
            case measure => simp [intOf]; omega
            case rel =>
              refine ⟨j + 1, by omega, by go_num, A2, _, c2, rfl, ?_, below_grew hbw g5 O.x (Nat.le_refl _)⟩
              rw [hH.out, ← List.append_assoc]
              exact O.stepX o5 g5
          · have hje : ns.take j = ns := List.take_of_length_le (by omega)
            rw [hje] at O
            clear hje
            go_wp2_with fail
            go_loopw [12, 15] (fun v i wr => ∃ j : Nat, j ≤ t ∧ i = .int .i64 j ∧ ∃ A2 m2 c2, v = .slice A2 m2 c2 ∧ Own3 wr w.heap.size 5 (.slice A1 m1 c1) (.slice A2 m2 c2) (.slice AZ n cZ) m1 m2 n (l ++ encs ns) (l ++ textsOf (ss.take j)) l ∧ Below w.heap.size w wr) (fun _ i _ => t - (intOf i).toNat)
            case atStart => exact ⟨0, Nat.zero_le _, rfl, AY, n, cY, rfl, by simpa [textsOf] using O, hbw⟩
            case round =>
              clear O hbw
              obtain ⟨j, hj, rfl, A2, m2, c2, rfl, O, hbw⟩ := hrel
              by_cases hlt : j < t
              · obtain ⟨b, off, rfl, hbb, hc⟩ := (r2.below hbw (Nat.le_refl _)).at_ hlt
                have hj' : j < ss.length := by omega
                have hH := Lib.hid (textsOf_take ss j hj')
                have hb := d1.out ss[j] (List.getElem_mem hj')
                have hlen := textsOf_len 300 (by decide) (ss.take j) fun x hx => d1.out x (mem_take hx)
                have hl2 := OwnBytes.len O.y
                rw [List.length_append] at hl2
                rw [List.length_take, Nat.min_eq_left (by omega)] at hlen
                rw [List.getElem_map] at hc
                generalize ss[j]'hj' = x at *
                go_wp2_with fail
                refine (refPutText_any A2 m2 c2 _ x _ w.heap.size (by omega) O.y hbw.size (by omega)).mono ?_
                rintro e w5 ⟨A3, m3, c3, rfl, o5, g5⟩
                go_wp2
                go_roundw
                case measure => simp [intOf]; omega
                case rel =>
                  refine ⟨j + 1, by omega, by go_num, A3, m3, c3, rfl, ?_, below_grew hbw g5 O.y (Nat.le_refl _)⟩
                  rw [hH.out, ← List.append_assoc]
                  exact O.stepY o5 g5
              · have hje : ss.take j = ss := List.take_of_length_le (by omega)
                rw [hje] at O
                clear hje
                go_wp2_with fail
                go_loopw [13, 16] (fun v i wr => ∃ j : Nat, j ≤ f ∧ i = .int .i64 j ∧ ∃ A3 m3 c3, v = .slice A3 m3 c3 ∧ Own3 wr w.heap.size 5 (.slice A1 m1 c1) (.slice A2 m2 c2) (.slice A3 m3 c3) m1 m2 m3 (l ++ encs ns) (l ++ textsOf ss) (l ++ (fs.take j).map flagOf) ∧ Below w.heap.size w wr) (fun _ i _ => f - (intOf i).toNat)
                case atStart => exact ⟨0, Nat.zero_le _, rfl, AZ, n, cZ, rfl, by simpa using O, hbw⟩
                case round =>
                  clear O hbw
                  obtain ⟨j, hj, rfl, A3, m3, c3, rfl, O, hbw⟩ := hrel
                  by_cases hlt : j < f
                  · obtain ⟨b, off, rfl, hbb, hc⟩ := (r3.below hbw (Nat.le_refl _)).at_ hlt
                    have hj' : j < fs.length := by omega
                    have hH := Lib.hid (flags_take fs j hj')
                    have hl2 := OwnBytes.len O.z
                    rw [List.length_append, List.length_map, List.length_take, Nat.min_eq_left (by omega)] at hl2
                    rw [List.getElem_map] at hc
                    generalize fs[j]'hj' = x at *
                    go_wp2_with fail
                    refine (refPutFlag_any A3 m3 c3 _ x _ w.heap.size O.z hbw.size (by omega)).mono ?_
                    rintro e w5 ⟨A4, m4, c4, rfl, o5, g5⟩
                    go_wp2
                    go_roundw
                    case measure => simp [intOf]; omega
                    case rel =>
                      refine ⟨j + 1, by omega, by go_num, A4, m4, c4, rfl, ?_, below_grew hbw g5 O.z (Nat.le_refl _)⟩
                      rw [hH.out, ← List.append_assoc]
                      exact O.stepZ o5 g5
                  · have hje : fs.take j = fs := List.take_of_length_le (by omega)
                    rw [hje] at O
                    clear hje
                    have e1 := encs_len ns d2.out
                    have e2 := textsOf_len 300 (by decide) ss d1.out
                    have q1 := OwnBytes.len O.x
                    have q2 := OwnBytes.len O.y
                    have q3 := OwnBytes.len O.z
                    rw [List.length_append] at q1 q2 q3
                    rw [List.length_map] at q3
                    go_wp2_with fail
                    refine (put_any A n c l D k d ns _ ((r0.below hbw (Nat.le_refl _)).mono hbw.size) nn0 (by omega) ((r1.below hbw (Nat.le_refl _)).mono hbw.size) (by omega) d2.out).mono ?_
                    rintro e w6 ⟨A6, m6, c6, rfl, o6, b6⟩
                    have O6 := O.below b6
                    have h6 : Below w.heap.size w w6 := hbw.trans (b6.mono hbw.size)
                    have q6 := o6.len
                    rw [List.length_append] at q6
                    clear O
                    go_wp2_with fail
                    refine (same_any A6 A1 m6 m1 c6 c1 _ _ _ o6.bytes (OwnBytes.bytes O6.x) (by omega) (by omega)).mono ?_
                    rintro e w7 ⟨rfl, b7⟩
                    have O7 := O6.below b7
                    have h7 : Below w.heap.size w w7 := h6.trans (b7.mono h6.size)
                    clear O6 o6 b6 b7 q6
                    rw [beq_self_eq_true]
                    go_wp2_with fail
                    refine (putText_any 300 (by decide) A n c l T t tc ss _ ((r0.below h7 (Nat.le_refl _)).mono h7.size) nn0 (by omega) ((r2.below h7 (Nat.le_refl _)).mono h7.size) (by omega) d1.out).mono ?_
                    rintro e w8 ⟨A8, m8, c8, rfl, o8, b8⟩
                    have O8 := O7.below b8
                    have h8 : Below w.heap.size w w8 := h7.trans (b8.mono h7.size)
                    have q8 := o8.len
                    rw [List.length_append] at q8
                    clear O7
                    go_wp2_with fail
                    refine (same_any A8 A2 m8 m2 c8 c2 _ _ _ o8.bytes (OwnBytes.bytes O8.y) (by omega) (by omega)).mono ?_
                    rintro e w9 ⟨rfl, b9⟩
                    have O9 := O8.below b9
                    have h9 : Below w.heap.size w w9 := h8.trans (b9.mono h8.size)
                    clear O8 o8 b8 b9 q8
                    rw [beq_self_eq_true]
                    go_wp2_with fail
                    refine (putFlag_any A n c l F f fc fs _ ((r0.below h9 (Nat.le_refl _)).mono h9.size) nn0 (by omega) ((r3.below h9 (Nat.le_refl _)).mono h9.size) (by omega)).mono ?_
                    rintro e wa ⟨Aa, ma, ca, rfl, oa, ba⟩
                    have Oa := O9.below ba
                    have ha : Below w.heap.size w wa := h9.trans (ba.mono h9.size)
                    have qa := oa.len
                    rw [List.length_append, List.length_map] at qa
                    clear O9
                    go_wp2_with fail
                    refine (same_any Aa A3 ma m3 ca c3 _ _ _ oa.bytes (OwnBytes.bytes Oa.z) (by omega) (by omega)).mono ?_
                    rintro e wb ⟨rfl, bb⟩
                    rw [beq_self_eq_true]
                    go_wp2
                    go_ret
                    exact ⟨rfl, ha.trans (bb.mono ha.size)⟩
  · go_enter Try.func3, Try.ntmps3
    go_wp2_with fail
    refine (first_any w).mono ?_
    rintro e w1 ⟨rfl, hb1⟩
    by_cases c1 : 50 < n
    · go_wp2
      go_ret
      exact ⟨rfl, hb1⟩
    by_cases c2 : 20 < k
    · go_wp2
      go_ret
      exact ⟨rfl, hb1⟩
    by_cases c3 : 10 < t
    · go_wp2
      go_ret
      exact ⟨rfl, hb1⟩
    have c4 : 20 < f := by omega
    clear hall
    go_wp2
    go_ret
    exact ⟨rfl, hb1⟩
end Go.Proofs.Ytlglinclendkkaa
