/- The walk of NumTexts. -/
import Derived.Test.YtlglinclendkkaaDoorRk
import Derived.Test.YtlglinclendkkaaDoorFrame
import Derived.Test.YtlglinclendkkaaDoorOpen
namespace Go.Proofs.YtlglinclendkkaaDoor
open Go.RowKit

set_option maxRecDepth 8000 in
set_option maxHeartbeats 8000000 in
theorem numTexts_walk (T : Option Addr) (t tc : Nat) (ss : List ByteArray) (most : Int) (F : Option Addr) (f fc : Nat) (fs : List Bool) (ads : List Addr) (w : World)
    (h0 : InRow w 1 T t tc (ss.map Value.string)) (_ : ∀ y ∈ ss, y.size ≤ maxLen) (_ : -9223372036854775808 ≤ most) (_ : most ≤ 9223372036854775807) (h2 : InRow w 1 F f fc (fs.map Value.bool)) (hE0 : Errs w 76 [2, 3, 1, 0] ads) :
    Calls Tryd.prog 5 #[.slice T t tc, .int .i64 most, .slice F f fc] w fun e w' => e = .returned (.bool true) ∧ Below w.heap.size w w' := by
  obtain ⟨E, hE⟩ : ∃ E, RdErrs w E := by
    refine ⟨fun c => if c = 101 then ads[0]? else if c = 102 then ads[1]? else if c = 105 then ads[2]? else ads[3]?, ?_, ?_, ?_, ?_⟩
    · exact errIn_of hE0 101 0 _ rfl rfl
    · exact errIn_of hE0 102 1 _ rfl rfl
    · exact errIn_of hE0 105 2 _ rfl rfl
    · exact errIn_of hE0 107 3 _ rfl rfl
  clear hE0
  have r0 : Row w w.heap.size T t (ss.map Value.string) := h0.row
  have r2 : Row w w.heap.size F f (fs.map Value.bool) := h2.row
  have lt : ss.length = t := by simpa using r0.len
  have lf : fs.length = f := by simpa using r2.len
  clear h0 h2
  by_cases hall : t ≤ 10 ∧ f ≤ 20 ∧ 0 ≤ most ∧ most ≤ 60
  · obtain ⟨ht, hf, hm0, hm1⟩ := hall
    go_enter Tryd.func5, Tryd.ntmps5
    go_wp2_with fail
    refine (first_any w).mono ?_
    rintro e w1 ⟨rfl, hb1⟩
    go_wp2_with fail
    go_loopw [9] (fun i wr => ∃ j : Nat, j ≤ t ∧ i = .int .i64 j ∧ (∀ s ∈ ss.take j, s.size ≤ 50) ∧ Below w.heap.size w wr) (fun i _ => t - (intOf i).toNat)
    case atStart => exact ⟨0, Nat.zero_le _, rfl, by simp, hb1⟩
    case round =>
      obtain ⟨j, hj, rfl, hsz, hbw⟩ := hrel
      have HS := Lib.hid hsz
      clear hsz
      by_cases hlt : j < t
      · obtain ⟨b, off, rfl, hbb, hc⟩ := (r0.below hbw (Nat.le_refl _)).at_ hlt
        have hj' : j < ss.length := by omega
        rw [List.getElem_map] at hc
        have hH := Lib.hid (mem_take_succ hj' HS.out)
        generalize ss[j]'hj' = x at *
        by_cases hx : x.size ≤ 50
        · have hH' := Lib.hid (hH.out hx)
          clear hH HS
          go_wp2_with fail
          go_roundw
          case measure => simp [intOf]; omega
          case rel => exact ⟨j + 1, by omega, by go_num, hH'.out, hbw⟩
        · clear hH HS
          go_wp2_with fail
          go_ret
          exact ⟨rfl, hbw⟩
      · have hje : ss.take j = ss := List.take_of_length_le (by omega)
        have hsz := HS.out
        rw [hje] at hsz
        have d1 := Lib.hid hsz
        clear HS hje hsz
        go_wp2_with fail
        refine (putText_any 50 (by decide) none 0 0 [] T t tc ss _ (Bytes.nil _ _ _) (fun _ => ⟨rfl, rfl⟩) (by decide) ((r0.below hbw (Nat.le_refl _)).mono hbw.size) (by omega) d1.out).mono ?_
        rintro e w2 ⟨A2, m2, c2, rfl, o2, b2⟩
        rw [List.nil_append] at o2
        have h2 : Below w.heap.size w w2 := hbw.trans (b2.mono hbw.size)
        have l2 := o2.len
        have l3 := textsOf_len 50 (by decide) ss d1.out
        go_wp2_with fail
        refine (read_any (E := E) A2 m2 c2 o2.bytes o2.nn (by omega)).mono ?_
        rintro e w3 ⟨p, rfl, hp, hR, b3⟩
        have h3 : Below w.heap.size w w3 := h2.trans (b3.mono h2.size)
        have hp' : w.heap.size ≤ p := Nat.le_trans h2.size hp
        clear o2 b2 b3 hp h2 l2 l3
        go_wp2_with fail
        go_loopw [8, 11] (fun v i wr => ∃ (j : Nat) (b : Bool) (L : List UInt8) (e : Int), j ≤ t ∧ i = .int .i64 j ∧ v = .bool b ∧ (b = true → e ≠ 0) ∧ (b = false → e = 0 ∧ L = textsOf (ss.drop j)) ∧ RdC E wr p L e ∧ Below w.heap.size w wr) (fun _ i _ => t - (intOf i).toNat)
        case atStart => exact ⟨0, false, _, 0, Nat.zero_le _, rfl, rfl, by simp, by simp, hR, h3⟩
        case round =>
          clear hR h3
          obtain ⟨j, b, L, e, hj, rfl, rfl, hb1, hb0, hR, hbw⟩ := hrel
          have HB1 := Lib.hid hb1
          have HB0 := Lib.hid hb0
          clear hb1 hb0
          by_cases hlt : j < t
          · obtain ⟨bl, off, rfl, hbb, hc⟩ := r0.at_ hlt
            have hj' : j < ss.length := by omega
            rw [List.getElem_map] at hc
            have hH := Lib.hid (textsOf_drop hj')
            have hx := d1.out ss[j] (List.getElem_mem hj')
            generalize ss[j]'hj' = x at *
            have hT := text_any most hE hbw hp' hR
            cases b with
            | false =>
              obtain ⟨rfl, rfl⟩ := HB0.out rfl
              rw [hH.out] at hT
              clear HB0 HB1 hR
              by_cases hxm : (x.size : Int) ≤ most
              · rw [textSays_in (by omega) hxm, ba_toList] at hT
                go_wp2_with fail
                refine hT.mono ?_
                rintro y w5 ⟨rfl, hR5, hg5⟩
                have hb5 : Below w.heap.size w w5 := hbw.grown hg5 hbw.size (fun k hk => by cases hk; exact hp')
                have hc5 := (hb5.cell (p := ⟨bl, off + j, none⟩) hbb).trans hc
                go_wp2_with fail
                go_roundw
                case measure => simp [intOf]; omega
                case rel => exact ⟨j + 1, false, _, 0, by omega, by go_num, rfl, by simp, fun _ => ⟨rfl, rfl⟩, hR5, hb5⟩
              · rw [textSays_long (by omega) (by omega)] at hT
                go_wp2_with fail
                refine hT.mono ?_
                rintro y w5 ⟨rfl, hR5, hg5⟩
                have hb5 : Below w.heap.size w w5 := hbw.grown hg5 hbw.size (fun k hk => by cases hk; exact hp')
                have hc5 := (hb5.cell (p := ⟨bl, off + j, none⟩) hbb).trans hc
                go_wp2_with fail
                go_roundw
                case measure => simp [intOf]; omega
                case rel => exact ⟨j + 1, true, _, 105, by omega, by go_num, rfl, by simp, by simp, hR5, hb5⟩
            | true =>
              have he := HB1.out rfl
              rw [textSays_err he] at hT
              clear HB0 HB1 hR hH
              go_wp2_with fail
              refine hT.mono ?_
              rintro y w5 ⟨rfl, hR5, hg5⟩
              have hb5 : Below w.heap.size w w5 := hbw.grown hg5 hbw.size (fun k hk => by cases hk; exact hp')
              have hc5 := (hb5.cell (p := ⟨bl, off + j, none⟩) hbb).trans hc
              go_wp2_with fail
              go_roundw
              case measure => simp [intOf]; omega
              case rel => exact ⟨j + 1, true, _, e, by omega, by go_num, rfl, fun _ => he, by simp, hR5, hb5⟩
          · go_wp2_with fail
            refine (putFlag_any none 0 0 [] F f fc fs _ (Bytes.nil _ _ _) (fun _ => ⟨rfl, rfl⟩) (by decide) ((r2.below hbw (Nat.le_refl _)).mono hbw.size) (by omega)).mono ?_
            rintro y w6 ⟨A6, m6, c6, rfl, o6, b6⟩
            have hb6 : Below w.heap.size w w6 := hbw.trans (b6.mono hbw.size)
            have l6 := o6.len
            rw [List.nil_append, List.length_map, lf] at l6
            subst l6
            have hR6 : RdC E w6 p L e := hR.below b6
            cases b with
            | false =>
              obtain ⟨rfl, rfl⟩ := HB0.out rfl
              have hD := done_any hE hb6 hR6
              rw [show doneSays (textsOf (ss.drop j)) 0 = 0 from by rw [List.drop_eq_nil_of_le (by omega)]; rfl] at hD
              clear HB0 HB1 hR hR6 o6
              go_wp2_with fail
              refine hD.mono ?_
              rintro y w7 ⟨⟨ev, rfl, hs⟩, rfl⟩
              obtain rfl := seen_nil hs
              go_wp2
              go_ret
              exact ⟨rfl, hb6⟩
            | true =>
              have he := HB1.out rfl
              have hD := done_any hE hb6 hR6
              rw [show doneSays L e = e from by simp [doneSays, he]] at hD
              clear HB0 HB1 hR hR6 o6
              go_wp2_with fail
              refine hD.mono ?_
              rintro y w7 ⟨⟨ev, rfl, hs⟩, rfl⟩
              obtain ⟨a, rfl⟩ := seen_not hs he
              unfold errV
              go_wp2
              go_ret
              exact ⟨rfl, hb6⟩
  · go_enter Tryd.func5, Tryd.ntmps5
    go_wp2_with fail
    refine (first_any w).mono ?_
    rintro e w1 ⟨rfl, hb1⟩
    by_cases c1 : 10 < t
    · go_wp2
      go_ret
      exact ⟨rfl, hb1⟩
    by_cases c2 : 20 < f
    · go_wp2
      go_ret
      exact ⟨rfl, hb1⟩
    by_cases c3 : most < 0
    · go_wp2
      go_ret
      exact ⟨rfl, hb1⟩
    have c4 : 60 < most := by omega
    clear hall
    go_wp2
    go_ret
    exact ⟨rfl, hb1⟩
end Go.Proofs.YtlglinclendkkaaDoor
