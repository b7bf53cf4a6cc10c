/- The walk of NumBack. -/
import Derived.Test.YtlglinclendkkaaDoorRp
import Derived.Test.YtlglinclendkkaaDoorRefB
import Derived.Test.YtlglinclendkkaaDoorNumber
import Derived.Test.YtlglinclendkkaaDoorFrame
import Derived.Test.YtlglinclendkkaaDoorOpen
import Derived.Deep.RegionWith
import Derived.Deep.DeepCutAuto
namespace Go.Proofs.YtlglinclendkkaaDoor
open Go.RowKit

theorem below_some {W w w' : World} {p : Nat} (hb : Below W.heap.size W w) (hg : w.grownBy w' (some p)) (hp : W.heap.size ≤ p) : Below W.heap.size W w' :=
  hb.grown hg hb.size (fun k hk => by cases hk; exact hp)

theorem own_kept {w w' : World} {base : Nat} {e : TypeId} {sz n : Nat} {v : Value} {xs : List Value} {row : Option Nat} (h : w.ownsRow base e sz v n xs) (hg : w.grownBy w' row) (ha : ∀ g, v.ownBlock = some g → row ≠ some g) : w'.ownsRow base e sz v n xs :=
  h.kept hg (by
    cases hb : v.ownBlock with
    | none => exact .inl rfl
    | some g => exact .inr fun e => ha g hb e.symm)

set_option maxRecDepth 8000 in
set_option maxHeartbeats 8000000 in
theorem numBack_walk (D : Option Addr) (k d : Nat) (ns : List Int) (s : ByteArray) (f : Bool) (A : Option Addr) (n c : Nat) (tail : List UInt8) (cut : Int) (ads : List Addr) (w : World)
    (h0 : InRow w 1 D k d (ns.map (Value.int .i64))) (hbd : ∀ y ∈ ns, -9223372036854775808 ≤ y ∧ y ≤ 9223372036854775807) (_ : s.size ≤ maxLen) (h3 : InBytes w A n c tail) (hc0 : -9223372036854775808 ≤ cut) (hc1 : cut ≤ 9223372036854775807)
    (hE0 : Errs w 76 sents ads) :
    Calls Tryd.prog 4 #[.slice D k d, .string s, .bool f, .slice A n c, .int .i64 cut] w fun e w' => e = .returned (.bool true) ∧ Below w.heap.size w w' := by
  obtain ⟨E, hEE, hE⟩ : ∃ E, E = (fun c => if 101 ≤ c then ads[(c - 101).toNat]? else none) ∧ RdErrs w E :=
    ⟨_, rfl, errIn_of hE0 101 0 _ rfl rfl, errIn_of hE0 102 1 _ rfl rfl, errIn_of hE0 105 4 _ rfl rfl, errIn_of hE0 107 6 _ rfl rfl⟩
  have r0 : Row w w.heap.size D k (ns.map (Value.int .i64)) := h0.row
  have r3 := h3.bytes
  have nn3 := h3.nn
  have lk : ns.length = k := by simpa using r0.len
  have ln : tail.length = n := r3.len
  clear h0 h3
  have D2 := Lib.hid hbd
  clear hbd
  by_cases hall : k ≤ 15 ∧ s.size ≤ 100 ∧ n ≤ 40
  · obtain ⟨hk, hs, hn⟩ := hall
    obtain ⟨i0, hi0, hz0, hz1, hz2⟩ := info_parts info_u8
    go_enter Tryd.func4, Tryd.ntmps4
    go_wp2_with fail
    refine (first_any w).mono ?_
    rintro e w1 ⟨rfl, hb1⟩
    go_wp2_with fail
    refine (put_any none 0 0 [] D k d ns _ (Bytes.nil _ _ _) (fun _ => ⟨rfl, rfl⟩) (by decide) ((r0.below hb1 (Nat.le_refl _)).mono hb1.size) (by omega) D2.out).mono ?_
    rintro e w2 ⟨A2, m2, c2, rfl, o2, b2⟩
    rw [List.nil_append] at o2
    have h2 : Below w.heap.size w w2 := hb1.trans (b2.mono hb1.size)
    have l2 := o2.len
    have q2 := encs_len ns D2.out
    have a2 := (Below.refl w2.heap.size w2).alloc (Nat.le_refl _) (.cells #[.string s] 9)
    have hrow2 : Row (w2.alloc (.cells #[.string s] 9)) (w2.heap.size + 1) (some ⟨w2.heap.size, 0, none⟩) 1 [.string s] := Row.lit w2 #[.string s] 9
    go_wp2_with fail
    refine (putText_any 100 (by decide) A2 m2 c2 _ _ 1 1 [s] _ ((o2.bytes.below a2 (Nat.le_refl _)).mono (by simp)) o2.nn (by omega) (hrow2.mono (by simp)) (by decide) (by simpa using hs)).mono ?_
    rintro e w3 ⟨A3, m3, c3, rfl, o3, b3⟩
    have h3 : Below w.heap.size w w3 := (h2.alloc h2.size _).trans (b3.mono (by have := h2.size; simp; omega))
    have l3 := o3.len
    rw [List.length_append] at l3
    have q3 := textsOf_len 100 (by decide) [s] (by simpa using hs)
    rw [List.length_singleton] at q3
    have a3 := (Below.refl w3.heap.size w3).alloc (Nat.le_refl _) (.cells #[.bool f] 4)
    have hrow3 : Row (w3.alloc (.cells #[.bool f] 4)) (w3.heap.size + 1) (some ⟨w3.heap.size, 0, none⟩) 1 [.bool f] := Row.lit w3 #[.bool f] 4
    go_wp2_with fail
    refine (putFlag_any A3 m3 c3 _ _ 1 1 [f] _ ((o3.bytes.below a3 (Nat.le_refl _)).mono (by simp)) o3.nn (by omega) (hrow3.mono (by simp)) (by decide)).mono ?_
    rintro e w4 ⟨A4, m4, c4, rfl, o4, b4⟩
    have h4 : Below w.heap.size w w4 := (h3.alloc h3.size _).trans (b4.mono (by have := h3.size; simp; omega))
    have hbl : (encs ns ++ textsOf [s]) ++ [f].map flagOf = encs ns ++ (textOf s ++ [flagOf f]) := by simp [textsOf]
    rw [hbl] at o4
    have l4 := o4.len
    rw [List.length_append, List.length_append, List.length_singleton] at l4
    have q4 : (textOf s).length ≤ 110 := by simpa [textsOf] using q3
    clear hbl q3 l2 l3 o2 o3 b2 b3 b4 a2 a3 hrow2 hrow3 h2 h3
    go_wp2_with fail
    refine (refbytes_any A4 m4 c4 _ _ o4.bytes (by omega)).mono ?_
    rintro e w5 ⟨A5, c5, rfl, o5, b5⟩
    have h5 : Below w.heap.size w w5 := h4.trans (b5.mono h4.size)
    have o45 := own_below o4 b5 (Nat.le_refl _)
    have hap := apart_of o4 o5 (Nat.le_refl _)
    go_wp2_with (at_builtin; refine append_row rfl (.tmp 47) (.tmp 48) _ rfl 5 i0 _ 1 1 Tryd.underlying22 hi0 hz0 hz1 hz2 rfl (by decide) w4.heap.size _ m4 _ rfl o5 w5.heap.size A n c (tail.map bv) rfl nn3 ((r3.below h5 (Nat.le_refl _)).mono h5.size) (bv_one _) ?h5 ?h6 b5.size ?_)
    case h5 => unfold maxLen; omega
    case h6 => omega
    intro v6 w6 o6 g6 _
    obtain ⟨A6, c6, rfl, _⟩ := own_form o6
    have O6 : OwnBytes w6 w4.heap.size 5 A6 (m4 + n) c6 (encs ns ++ (textOf s ++ (flagOf f :: tail))) := by
      unfold OwnBytes
      simpa using o6
    have o46 := own_kept o45 g6 (fun g h => hap g h)
    have h6 : Below w.heap.size w w6 := h5.grown g6 h5.size (fun g h => Nat.le_trans h4.size (o5.lt g h).1)
    have ha4 : ∀ a, A4 = some a → a.block < w6.heap.size := by
      intro a h
      exact (World.ownsRow.lt o46 a.block (by rw [h]; rfl)).2
    clear o6 g6 hap o45 o4 o5 b5 h5 h4
    go_wp2_with fail
    refine (read_any (E := E) A6 (m4 + n) c6 O6.bytes O6.nn (by omega)).mono ?_
    rintro e w7 ⟨p1, rfl, hp1, hR1, b7⟩
    have h7 : Below w.heap.size w w7 := h6.trans (b7.mono h6.size)
    have hp1' : w.heap.size ≤ p1 := Nat.le_trans h6.size hp1
    have r4 : Bytes w7 w7.heap.size A4 m4 (encs ns ++ (textOf s ++ [flagOf f])) := OwnBytes.bytes (own_below o46 b7 (Nat.le_refl _))
    have nn4 := OwnBytes.nn o46
    have cap4 := OwnBytes.cap o46
    have ha4' : ∀ a, A4 = some a → some p1 ≠ some a.block := fun a h e => by
      have := ha4 a h
      have := Option.some.inj e
      omega
    clear O6 o46 b7 h6 hp1 ha4
    go_wp2_with fail
    go_loopw [14] (fun i wr => ∃ j : Nat, j ≤ k ∧ i = .int .i64 j ∧ RdC E wr p1 (encs (ns.drop j) ++ (textOf s ++ (flagOf f :: tail))) 0 ∧ Bytes wr wr.heap.size A4 m4 (encs ns ++ (textOf s ++ [flagOf f])) ∧ Below w.heap.size w wr) (fun i _ => k - (intOf i).toNat)
    case atStart => exact ⟨0, Nat.zero_le _, rfl, hR1, r4, h7⟩
    case round =>
      clear hR1 r4 h7
      obtain ⟨j, hj, rfl, hR1, r4, hbw⟩ := hrel
      by_cases hlt : j < k
      · obtain ⟨bl, off, rfl, hbb, hc⟩ := r0.at_ hlt
        have hj' : j < ns.length := by omega
        rw [List.getElem_map] at hc
        have hx := D2.out ns[j] (List.getElem_mem hj')
        rw [encs_drop hj', List.append_assoc] at hR1
        generalize ns[j]'hj' = x at *
        have hT := int_any (-9223372036854775808) 9223372036854775807 hE hbw.drew hp1' hR1.drew
        rw [intSays_in hx.1 hx.2 hx.1 hx.2] at hT
        have hcw := (hbw.cell (p := ⟨bl, off + j, none⟩) hbb).trans hc
        have r4d := bytes_kept r4 (grown_drew wr none) (fun _ _ h => by cases h)
        clear hR1 r4
        go_wp2_with fail
        go_region_with (go_at_call 8; refine hT.mono ?_; rintro y w8 ⟨rfl, hR8, hg8⟩; have hb8 := below_some hbw.drew hg8 hp1'; have hc8 := (hb8.cell (p := ⟨bl, off + j, none⟩) hbb).trans hc)
        all_goals
          go_wp2_with fail
          go_roundw
          case measure => simp [intOf]; omega
          case rel => exact ⟨j + 1, by omega, by go_num, hR8, bytes_kept r4d hg8 ha4', hb8⟩
      · have hd : ns.drop j = [] := List.drop_eq_nil_of_le (by omega)
        rw [hd] at hR1
        clear hd
        have hR1' : RdC E wr p1 (textOf s ++ (flagOf f :: tail)) 0 := hR1
        have hT := text_any 100 hE hbw hp1' hR1'
        rw [textSays_in (by omega) (by omega), ba_toList] at hT
        clear hR1 hR1'
        go_wp2_with fail
        refine hT.mono ?_
        rintro y w8 ⟨rfl, hR8, hg8⟩
        have hb8 := below_some hbw hg8 hp1'
        have r8 := bytes_kept r4 hg8 ha4'
        have hF := flag_any hE hb8 hp1' hR8
        rw [flagSays_in] at hF
        clear hT r4 hg8 hR8 hbw
        go_wp2_with fail
        refine hF.mono ?_
        rintro y w9 ⟨rfl, hR9, hg9⟩
        have hb9 := below_some hb8 hg9 hp1'
        have r9 := bytes_kept r8 hg9 ha4'
        clear hF r8 hg9 hb8
        go_wp2_with fail
        refine (left_any hR9).mono ?_
        rintro y wa ⟨rfl, rfl⟩
        rw [ln]
        obtain ⟨b4, off4, rfl, hb4, hc4⟩ := r9.2 (by omega)
        have hm4 : (0 : Int) < (m4 : Int) := by omega
        have hm4' : ((m4 : Int) == 0) = false := by simp; omega
        go_wp2_with fail
        refine (number_any cut m4 _ hm4 hc0 hc1 (by omega)).mono ?_
        rintro y wb ⟨⟨q, rfl, hq⟩, rfl⟩
        have hq' : q < m4 := by omega
        have rq := r9.front (k := q) (by omega)
        clear hc4
        go_wp2_with fail
        refine (read_any (E := E) (some ⟨b4, off4, none⟩) q c4 rq (fun h => by cases h) (by omega)).mono ?_
        rintro y wc ⟨p2, rfl, hp2, hR2, bc⟩
        have hc : Below w.heap.size w wc := hb9.trans (bc.mono hb9.size)
        have hp12 : p1 < p2 := Nat.lt_of_lt_of_le hR9.lt hp2
        have hp2' : w.heap.size ≤ p2 := by omega
        have hR1 := hR9.below bc
        have hC : CutOf (encs (ns.drop 0) ++ (textOf s ++ [flagOf f])) ((encs ns ++ (textOf s ++ [flagOf f])).take q) 0 := by
          refine .inr ⟨rfl, q, ?_, rfl⟩
          have := r9.len
          rw [List.drop_zero]
          omega
        have hk12 : ∀ b, b ≤ p1 → some p2 ≠ some b := fun b h e => by
          have := Option.some.inj e
          omega
        clear rq r9 hR9 bc hp2 hb9
        go_wp2_with fail
        go_loopw [19] (fun i wr => ∃ (j : Nat) (L : List UInt8) (e : Int), j ≤ k ∧ i = .int .i64 j ∧ CutOf (encs (ns.drop j) ++ (textOf s ++ [flagOf f])) L e ∧ RdC E wr p2 L e ∧ RdC E wr p1 tail 0 ∧ Below w.heap.size w wr) (fun i _ => k - (intOf i).toNat)
        case atStart => exact ⟨0, _, 0, Nat.zero_le _, rfl, hC, hR2, hR1, hc⟩
        case round =>
          clear hC hR2 hR1 hc
          obtain ⟨j, L, e, hj, rfl, hC, hR2, hR1, hbw⟩ := hrel
          have HC := Lib.hid hC
          clear hC
          by_cases hlt : j < k
          · have hj' : j < ns.length := by omega
            have hx := D2.out ns[j] (List.getElem_mem hj')
            have HC' := HC.out
            rw [encs_drop hj', List.append_assoc] at HC'
            have HD := Lib.hid (CutOf.int hx.1 hx.2 HC')
            have hT := int_any (-9223372036854775808) 9223372036854775807 hE hbw hp2' hR2
            clear hR2 HC HC' hx
            generalize intSays (-9223372036854775808) 9223372036854775807 L e = R at *
            go_wp2_with fail
            refine hT.mono ?_
            rintro y wd ⟨rfl, hR2, hg⟩
            have hbd := below_some hbw hg hp2'
            have hR1' := hR1.kept hg hk12
            go_wp2
            go_roundw
            case measure => simp [intOf]; omega
            case rel => exact ⟨j + 1, _, _, by omega, by go_num, HD.out, hR2, hR1', hbd⟩
          · have HC' := HC.out
            rw [show ns.drop j = [] from List.drop_eq_nil_of_le (by omega)] at HC'
            have HD := Lib.hid (CutOf.text (most := 100) (s := s) (T := [flagOf f]) (by omega) (by omega) HC')
            have hT := text_any 100 hE hbw hp2' hR2
            clear hR2 HC HC'
            generalize textSays 100 L e = R at *
            go_wp2_with fail
            refine hT.mono ?_
            rintro y wd ⟨rfl, hR2, hg⟩
            have hbd := below_some hbw hg hp2'
            have hR1' := hR1.kept hg hk12
            have hF := flag_any hE hbd hp2' hR2
            rw [CutOf.flag HD.out] at hF
            clear hT hR2 hR1 hg hbw HD
            generalize flagSays R.2.1 R.2.2 = R' at *
            go_wp2_with fail
            refine hF.mono ?_
            rintro y we ⟨rfl, hR2, hg⟩
            have hbe := below_some hbd hg hp2'
            have hR1 := hR1'.kept hg hk12
            clear hF hR1' hg hbd
            have a5 := (Below.refl we.heap.size we).alloc (Nat.le_refl _) (.cells #[.int .i64 (k : Int)] 2)
            have hrow5 : Row (we.alloc (.cells #[.int .i64 (k : Int)] 2)) (we.heap.size + 1) (some ⟨we.heap.size, 0, none⟩) 1 [.int .i64 (k : Int)] := Row.lit we #[.int .i64 (k : Int)] 2
            go_wp2_with fail
            refine (put_any none 0 0 [] _ 1 1 [(k : Int)] _ (Bytes.nil _ _ _) (fun _ => ⟨rfl, rfl⟩) (by decide) (hrow5.mono (by simp)) (by decide) (by simp; omega)).mono ?_
            rintro y wf ⟨Af, mf, cf, rfl, of, bf⟩
            have bwf : Below we.heap.size we wf := a5.trans (bf.mono (by simp))
            have hbf : Below w.heap.size w wf := hbe.trans (bwf.mono hbe.size)
            have hR1f := hR1.below bwf
            have hR2f := hR2.below bwf
            have lf := of.len
            have hl1 : [] ++ encs [(k : Int)] = enc (zig (k : Int)) ++ [] := by simp [encs]
            rw [hl1] at of lf
            have lf' := enc_len10 (zig_lt (n := (k : Int)) (by omega) (by omega))
            rw [List.length_append, List.length_nil] at lf
            go_wp2_with fail
            refine (read_any (E := E) Af mf cf of.bytes of.nn (by omega)).mono ?_
            rintro y wg ⟨p3, rfl, hp3, hR3, bg⟩
            have hbg : Below w.heap.size w wg := hbf.trans (bg.mono hbf.size)
            have hp3' : w.heap.size ≤ p3 := Nat.le_trans hbf.size hp3
            have h23 : p2 < p3 := Nat.lt_of_lt_of_le hR2f.lt hp3
            have hR1g := hR1f.below bg
            have hR2g := hR2f.below bg
            have hk3 : ∀ b, b ≤ p2 → some p3 ≠ some b := fun b h e => by
              have := Option.some.inj e
              omega
            have hI := int_any ((k : Int) + 1) 100 hE hbg hp3' hR3
            rw [intSays_out (by omega) (by omega) (.inl (by omega))] at hI
            clear hR1 hR2 hR1f hR2f of bf bwf a5 hrow5 bg hp3 hR3 hbf hbe hl1 lf lf'
            go_wp2_with fail
            refine hI.mono ?_
            rintro y wh ⟨rfl, hR3, hg⟩
            have hbh := below_some hbg hg hp3'
            have hR1 := hR1g.kept hg (fun b h => hk3 b (by omega))
            have hR2 := hR2g.kept hg hk3
            clear hI hR1g hR2g hg hbg
            go_wp2_with fail
            refine (err_any hR1).mono ?_
            rintro y wi ⟨⟨ev, rfl, hs1⟩, rfl⟩
            obtain rfl := seen_nil hs1
            go_wp2_with fail
            refine (done_any hE hbh hR1).mono ?_
            rintro y wi ⟨⟨ev1, rfl, hs2⟩, rfl⟩
            by_cases ht : tail = []
            · subst ht
              obtain rfl : 0 = n := ln
              rw [show doneSays [] 0 = 0 from rfl] at hs2
              obtain rfl := seen_nil hs2
              go_wp2_with fail
              refine (err_any hR2).mono ?_
              rintro y wi ⟨⟨ev2, rfl, hs3⟩, rfl⟩
              rw [hEE] at hs3
              go_wp2_with fail
              refine (is_any ads ev2 101 _ (hE0.below hbh (Nat.le_refl _)) (seenAs_of hs3) 101).mono ?_
              rintro y wj ⟨rfl, bj⟩
              have hR3' := hR3.below bj
              have hbj : Below w.heap.size w wj := hbh.trans (bj.mono hbh.size)
              go_wp2_with fail
              refine (err_any hR3').mono ?_
              rintro y wi ⟨⟨ev4, rfl, hs4⟩, rfl⟩
              rw [hEE] at hs4
              go_wp2_with fail
              refine (is_any ads ev4 107 _ (hE0.below hbj (Nat.le_refl _)) (seenAs_of hs4) 107).mono ?_
              rintro y wk ⟨rfl, bk⟩
              go_wp2
              go_ret
              exact ⟨rfl, hbj.trans (bk.mono hbj.size)⟩
            · have hn0 : ((n : Int) == 0) = false := by
                have : tail.length ≠ 0 := fun h => ht (List.eq_nil_of_length_eq_zero h)
                simp; omega
              rw [show doneSays tail 0 = 102 from by simp [doneSays, ht]] at hs2
              obtain ⟨a1, rfl⟩ := seen_not hs2 (by decide)
              clear hs2
              unfold errV
              go_wp2_with fail
              refine (err_any hR2).mono ?_
              rintro y wi ⟨⟨ev2, rfl, hs3⟩, rfl⟩
              rw [hEE] at hs3
              go_wp2_with fail
              refine (is_any ads ev2 101 _ (hE0.below hbh (Nat.le_refl _)) (seenAs_of hs3) 101).mono ?_
              rintro y wj ⟨rfl, bj⟩
              have hR3' := hR3.below bj
              have hbj : Below w.heap.size w wj := hbh.trans (bj.mono hbh.size)
              go_wp2_with fail
              refine (err_any hR3').mono ?_
              rintro y wi ⟨⟨ev4, rfl, hs4⟩, rfl⟩
              rw [hEE] at hs4
              go_wp2_with fail
              refine (is_any ads ev4 107 _ (hE0.below hbj (Nat.le_refl _)) (seenAs_of hs4) 107).mono ?_
              rintro y wk ⟨rfl, bk⟩
              go_wp2
              go_ret
              exact ⟨rfl, hbj.trans (bk.mono hbj.size)⟩
  · go_enter Tryd.func4, Tryd.ntmps4
    go_wp2_with fail
    refine (first_any w).mono ?_
    rintro e w1 ⟨rfl, hb1⟩
    by_cases c1 : 15 < k
    · go_wp2
      go_ret
      exact ⟨rfl, hb1⟩
    by_cases c2 : 100 < s.size
    · go_wp2
      go_ret
      exact ⟨rfl, hb1⟩
    have c4 : 40 < n := by omega
    clear hall
    go_wp2
    go_ret
    exact ⟨rfl, hb1⟩
end Go.Proofs.YtlglinclendkkaaDoor
