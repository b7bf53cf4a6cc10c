/- The statement on names: its walk. -/
import Derived.Test.YthkgjdhbibialaaDoorVf
import Derived.Deep.RegionWith
import Derived.Deep.DeepCutAuto
import Derived.Test.YthkgjdhbibialaaDoorClone
import Derived.Test.YthkgjdhbibialaaDoorSet
namespace Go.Proofs.YthkgjdhbibialaaDoor
open Go.RowKit

namespace Vr
def alphaTab : ByteArray := ⟨#[97, 98, 99, 100, 101, 102, 103, 104, 105, 106, 107, 108, 109, 110, 111, 112, 113, 114, 115, 116, 117, 118, 119, 120, 121, 122, 48, 49, 50, 51, 52, 53, 54, 55, 56, 57, 95, 45]⟩
def alpha (x : UInt8) : UInt8 := (alphaTab[x.toNat % 38]?).getD 0
def alphaAt (i : Int) : Int := ((alphaTab[i.toNat]?).getD 0).toNat
theorem alphaTab_size : alphaTab.size = 38 := by decide +kernel
theorem alpha_at (x : UInt8) : alphaAt ((x.toNat : Int) % 38) = ((alpha x).toNat : Int) := by
  unfold alphaAt alpha
  rw [show ((x.toNat : Int) % 38).toNat = x.toNat % 38 from by omega]
theorem alpha_sign (x : UInt8) : sign (alpha x) = true := by
  have h : ∀ i : Fin 38, sign ((alphaTab[i.val]?).getD 0) = true := by decide +kernel
  exact h ⟨x.toNat % 38, Nat.mod_lt _ (by decide)⟩
def goodAt (s : List UInt8) (k : Nat) : Bool := (decide (1 ≤ s.length) && decide (s.length ≤ 24)) && (s.take k).all sign
theorem goodAt_all (s : List UInt8) : goodAt s s.length = name s := by unfold goodAt name; rw [List.take_length]
theorem goodAt_succ {s : List UInt8} {k : Nat} (h : k < s.length) : goodAt s (k + 1) = (goodAt s k && sign s[k]) := by
  unfold goodAt
  rw [List.take_succ_eq_append_getElem h, List.all_append, ← Bool.and_assoc]
  simp
theorem map_take {s : List UInt8} {k : Nat} (h : k < s.length) : (s.take (k + 1)).map alpha = (s.take k).map alpha ++ [alpha s[k]] := by
  rw [List.take_succ_eq_append_getElem h, List.map_append]; rfl
theorem name_map {s : List UInt8} (h1 : 1 ≤ s.length) (h2 : s.length ≤ 24) : name (s.map alpha) = true := by
  refine name_all (by simpa using h1) (by simpa using h2) fun k hk => ?_
  rw [List.getElem_map]
  exact alpha_sign _
theorem name_one (c : UInt8) : name [c] = sign c := by simp [name]
theorem name_set {s : List UInt8} (h1 : 1 ≤ s.length) (h2 : s.length ≤ 24) {k : Nat} (hk : k < s.length) (c : UInt8) : name ((s.map alpha).set k c) = sign c := by
  cases hc : sign c with
  | true =>
    refine name_all (by simpa using h1) (by simpa using h2) fun j hj => ?_
    rw [List.getElem_set]
    split
    · exact hc
    · rw [List.getElem_map]; exact alpha_sign _
  | false =>
    refine name_not (k := k) (by simpa using hk) ?_
    rw [List.getElem_set_self]
    exact hc
end Vr

theorem fold_alpha : (⟨#[97, 98, 99, 100, 101, 102, 103, 104, 105, 106, 107, 108, 109, 110, 111, 112, 113, 114, 115, 116, 117, 118, 119, 120, 121, 122, 48, 49, 50, 51, 52, 53, 54, 55, 56, 57, 95, 45]⟩ : ByteArray) = Vr.alphaTab := rfl
theorem run_index_alphas (w : World) (i : Int) (h0 : 0 ≤ i) (h1 : i < 38) : (Instr.index 9 (.string Vr.alphaTab) (.int .i64 i)).run Tryd.prog w = .ok (.int .u8 (Vr.alphaAt i)) w := by
  have hi : 0 ≤ i ∧ i < (Vr.alphaTab.size : Int) := by rw [Vr.alphaTab_size]; omega
  have h2 : i.toNat < Vr.alphaTab.size := by rw [Vr.alphaTab_size]; omega
  rw [run_index_string w _ Vr.alphaTab _ i Tryd.underlying9, dif_pos hi]
  simp only [Vr.alphaAt, ByteArray.getElem?_lt' _ _ h2, Option.getD_some]
attribute [local go_sem high] fold_alpha run_index_alphas

set_option maxRecDepth 10000 in
set_option maxHeartbeats 4000000 in
theorem varsNames_walk (s : ByteArray) (at_ : Int) (c : UInt8) (ads : List Addr) (w : World) (hs : s.size ≤ maxLen) (ha0 : -9223372036854775808 ≤ at_) (ha1 : at_ ≤ 9223372036854775807)
    (hE0 : Errs w 104 [0, 4, 2, 1, 3] ads) :
    Calls Tryd.prog 6 #[.string s, .int .i64 at_, .int .u8 (c.toNat : Int)] w fun e w' => e = .returned (.bool true) ∧ Below w.heap.size w w' := by
  obtain ⟨i0, hi0, hz0, hz1, hz2⟩ := info_parts info_u8
  have hE := vaErrs5 hE0
  unfold maxLen at hs
  clear hE0
  have hF := vfirst_any hE (Below.refl w.heap.size w)
  have hl : s.data.toList.length = s.size := by simp
  by_cases h40 : 40 < s.size
  · have h40' : (40 : Int) < (s.size : Int) := by omega
    clear hl
    go_enter Tryd.func6, Tryd.ntmps6
    go_wp2_with fail
    refine hF.mono ?_
    rintro e w1 ⟨rfl, hb1⟩
    go_wp2
    go_ret
    exact ⟨rfl, hb1⟩
  · have h40' : ¬ (40 : Int) < (s.size : Int) := by omega
    have HL := Lib.hid hl
    clear hl
    go_enter Tryd.func6, Tryd.ntmps6
    go_wp2_with fail
    refine hF.mono ?_
    rintro e w1 ⟨rfl, hb1⟩
    go_upto_region 6 with (fail)
    go_cut [8] from 12 to 110 (fun s8 wx => s8 = .bool (Vr.goodAt s.data.toList 0) ∧ wx = w1)
    case first =>
      go_wp2_with fail
      all_goals
        go_meet
        refine ⟨?_, rfl⟩
        have hl := HL.out
        unfold Vr.goodAt
        rw [hl]
        first
          | (simp; omega)
          | (congr 1; rw [Bool.eq_iff_iff]; simp; omega)
    case rest =>
      obtain ⟨rfl, rfl⟩ := hcut
      go_wp2_with fail
      go_loopw [8, 9, 10] (fun g v i wr => ∃ k : Nat, k ≤ s.size ∧ i = .int .i64 k ∧ g = .bool (Vr.goodAt s.data.toList k) ∧ ∃ A cp, v = .slice A k cp ∧ OwnBytes wr w.heap.size 5 A k cp ((s.data.toList.take k).map Vr.alpha) ∧ Below w.heap.size w wr) (fun _ _ i _ => s.size - (intOf i).toNat)
      case atStart => exact ⟨0, Nat.zero_le _, rfl, rfl, none, 0, rfl, World.ownsRow_nil _ _ _ _, hb1⟩
      case round =>
        obtain ⟨k, hk, rfl, rfl, A, cp, rfl, ho, hbw⟩ := hrel
        by_cases hlt : k < s.size
        · have hkl : k < s.data.toList.length := by rw [HL.out]; exact hlt
          have HG := Lib.hid (Vr.goodAt_succ hkl)
          have HM := Lib.hid (Vr.map_take hkl)
          have HX := Lib.hid (show s[k] = s.data.toList[k] from rfl)
          generalize s.data.toList[k] = x at *
          have hx := x.toNat_lt
          have hxs : s[k] = x := HX.out
          generalize Vr.goodAt s.data.toList k = g at *
          go_upto_region 12 with (fail)
          go_cut [8, 11] from 27 to 69 (fun s8 s11 wx => s8 = .bool (g && Vr.sign x) ∧ s11 = .int .u8 (x.toNat : Int) ∧ wx = wr)
          case first =>
            cases g with
            | true =>
              go_wp2_with fail
              all_goals
                go_meet
                refine ⟨?_, by simp [*], rfl⟩
                first
                  | (rw [Vr.sign_yes (by omega)]; rfl)
                  | (rw [Vr.sign_no (by omega)]; rfl)
                  | (congr 1; rw [Bool.eq_iff_iff]; simp [Vr.sign_iff]; omega)
            | false =>
              go_wp2_with fail
              go_meet
              exact ⟨rfl, rfl, rfl⟩
          case rest =>
            obtain ⟨rfl, rfl, rfl⟩ := hcut
            have hr0 : (0 : Int) ≤ (x.toNat : Int) % 38 := by omega
            have hr1 : (x.toNat : Int) % 38 < 38 := by omega
            have hbs := hbw.size
            go_wp2_with (at_builtin; refine append_byte rfl (.tmp 61) (.tmp 68) _ rfl 5 i0 _ Tryd.underlying48 hi0 hz0 hz1 hz2 rfl _ _ (Vr.alpha x) (Vr.alpha_at x) w.heap.size _ k _ rfl ho rfl ?h5 hbs ?_)
            case h5 => omega
            intro A4 c4 w4 ho4 hg4
            go_wp2
            go_roundw
            case measure => simp [intOf]; omega
            case rel =>
              refine ⟨k + 1, by omega, by go_num, by rw [HG.out], A4, c4, rfl, by rw [HM.out, List.map_take]; exact ho4, below_grew hbw hg4 ho (Nat.le_refl _)⟩
        · have HT := Lib.hid (show s.data.toList.take k = s.data.toList from List.take_of_length_le (by rw [HL.out]; omega))
          have hN := fun W' => name_any s W' (by omega)
          rw [HT.out] at ho
          have hGe : Vr.goodAt s.data.toList k = Vr.name s.data.toList := by rw [← Vr.goodAt_all, HL.out, show k = s.size from by omega]
          rw [hGe]
          clear hGe
          have HK := Lib.hid (show k = s.data.toList.length from by rw [HL.out]; omega)
          by_cases hk0 : k = 0
          · subst hk0
            go_wp2_with (go_at_call 14; refine (hN _).mono ?_; rintro e w' ⟨rfl, rfl⟩)
            go_ret
            exact ⟨rfl, hbw⟩
          · have hk0' : ((k : Int) == 0) = false := by rw [beq_eq_false_iff_ne]; omega
            by_cases hk24 : 24 < k
            · go_wp2_with (go_at_call 14; refine (hN _).mono ?_; rintro e w' ⟨rfl, rfl⟩)
              go_ret
              exact ⟨rfl, hbw⟩
            · obtain ⟨g, rfl, hgw, hgl⟩ := own_some ho (by omega)
              have hby := ho.bytes
              have hcv := fun C => Bytes.string (P := Tryd.prog) hby (fun h => by cases h) C 48 9 5 Tryd.underlying48 Tryd.underlying5 Tryd.underlying9
              have hN2 := fun W' => name_any ⟨(s.data.toList.map Vr.alpha).toArray⟩ W' (by show (s.data.toList.map Vr.alpha).toArray.size ≤ _; rw [List.size_toArray, List.length_map, ← HK.out]; omega)
              have hnm : Vr.name (⟨(s.data.toList.map Vr.alpha).toArray⟩ : ByteArray).data.toList = true := Vr.name_map (by rw [← HK.out]; omega) (by rw [← HK.out]; omega)
              rw [hnm] at hN2
              clear hnm
              obtain ⟨bs, hbs⟩ : ∃ bs, bs = s.data.toList.map Vr.alpha := ⟨_, rfl⟩
              rw [← hbs] at hcv hN2 ho
              have HBS := Lib.hid hbs
              clear hbs hby
              go_upto_if 88 with (first
                | (go_at_call_of 14 (Value.string s); refine (hN _).mono ?_; rintro e w' ⟨rfl, rfl⟩)
                | (go_at_call 14; refine (hN2 _).mono ?_; rintro e w' ⟨rfl, rfl⟩))
              go_cut [1] from 87 to 110 (fun s1 wx => (∃ a : Nat, a ≤ 9223372036854775807 ∧ s1 = .int .i64 a) ∧ wx = wr)
              case first =>
                by_cases hneg : at_ < 0
                · go_wp2_with fail
                  go_meet
                  exact ⟨⟨(-(at_ + 1)).toNat, by omega, by congr 1; omega⟩, rfl⟩
                · go_wp2_with fail
                  go_meet
                  exact ⟨⟨at_.toNat, by omega, by congr 1; omega⟩, rfl⟩
              case rest =>
                obtain ⟨⟨a, ha, rfl⟩, rfl⟩ := hcut
                clear hcv hN2 hN
                obtain ⟨q, hq, hqk⟩ : ∃ q : Nat, (a : Int) % (k : Int) = (q : Int) ∧ q < k := ⟨a % k, by omega, Nat.mod_lt _ (by omega)⟩
                obtain ⟨b', o', he', _, hcq⟩ := ho.bytes.at_ hqk
                injection he' with he'
                injection he' with e1 e2
                subst e1; subst e2
                rw [Nat.zero_add] at hcq
                have hfz := own_frozen ho q
                have ho2 := own_set (q := q) ho c
                go_upto_region 23 with (fail)
                have hbw2 : Below w.heap.size w (wc.setCell ⟨g, q, none⟩ (.int .u8 (c.toNat : Int))) := hbw.setCell (p := ⟨g, q, none⟩) hgw _
                have hns : Vr.name ((⟨(bs.set q c).toArray⟩ : ByteArray).data.toList) = Vr.sign c := by
                  show Vr.name ((bs.set q c).toArray.toList) = _
                  rw [List.toList_toArray, HBS.out]
                  exact Vr.name_set (by rw [← HK.out]; omega) (by rw [← HK.out]; omega) (by rw [← HK.out]; exact hqk) c
                have hn1 : Vr.name ((⟨#[c]⟩ : ByteArray).data.toList) = Vr.sign c := Vr.name_one c
                have hNA := fun W' => name_any ⟨(bs.set q c).toArray⟩ W' (by show (bs.set q c).toArray.size ≤ _; rw [List.size_toArray, List.length_set, HBS.out, List.length_map, ← HK.out]; omega)
                have hNB := fun W' => refName_any ⟨#[c]⟩ W' (by show 1 ≤ _; omega)
                rw [hns] at hNA
                rw [hn1] at hNB
                clear hns hn1 hcq hfz
                generalize wc.setCell ⟨g, q, none⟩ (.int .u8 (c.toNat : Int)) = W2 at *
                have hb2 := ho2.bytes
                have hb3 : Below W2.heap.size W2 (W2.alloc (.cells #[.int .u8 (c.toNat : Int)] 5)) := (Below.refl _ _).alloc (Nat.le_refl _) _
                have hrl : Bytes (W2.alloc (.cells #[.int .u8 (c.toNat : Int)] 5)) (W2.heap.size + 1) (some ⟨W2.heap.size, 0, none⟩) 1 [c] := Row.lit W2 #[.int .u8 (c.toNat : Int)] 5
                have hcv1 := Bytes.string (P := Tryd.prog) hb2.drew (fun h => by cases h) cp 48 9 5 Tryd.underlying48 Tryd.underlying5 Tryd.underlying9
                have hcv2 := Bytes.string (P := Tryd.prog) (hb2.below hb3 (Nat.le_refl _)).drew (fun h => by cases h) cp 48 9 5 Tryd.underlying48 Tryd.underlying5 Tryd.underlying9
                have hcv3 := Bytes.string (P := Tryd.prog) hrl.drew (fun h => by cases h) 1 48 9 5 Tryd.underlying48 Tryd.underlying5 Tryd.underlying9
                have hend : Below w.heap.size w (W2.alloc (.cells #[.int .u8 (c.toNat : Int)] 5)).drew := (hbw2.alloc hbw2.size _).drew
                clear hb2 hb3 hrl
                have hss : (Vr.sign c == Vr.sign c) = true := by simp
                generalize Vr.sign c = sc at *
                go_region_with (first
                  | (go_at_call 14; refine (hNA _).mono ?_; rintro e w' ⟨rfl, rfl⟩)
                  | (go_at_call 15; refine (hNB _).mono ?_; rintro e w' ⟨rfl, rfl⟩))
                all_goals
                  go_wp2
                  go_ret
                  exact ⟨by first | (simp [Act.put]; done) | rfl, hend⟩
end Go.Proofs.YthkgjdhbibialaaDoor
