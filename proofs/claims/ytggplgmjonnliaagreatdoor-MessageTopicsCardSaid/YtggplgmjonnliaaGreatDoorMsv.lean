/- MessageTopics: the walk. -/
import Derived.Test.YtggplgmjonnliaaGreatDoorMso
import Derived.Test.YtggplgmjonnliaaGreatDoorMst
import Derived.Test.YtggplgmjonnliaaGreatDoorMsu
import Derived.Test.YtggplgmjonnliaaGreatDoorOpen
namespace Go.Proofs.YtggplgmjonnliaaGreatDoor
open Go.RowKit
def ErrTy (w : World) : Prop := w.cell? ⟨16, 0, none⟩ = some (.iface 173 (.agg #[.pointer (some ⟨26, 36, none⟩)]))
namespace Ms
theorem and7 (y : Int) : ∃ k : Nat, k ≤ 7 ∧ Go.bits .and .i64 y 7 = (k : Int) := by
  have h : ((BitVec.ofInt 64 y) &&& BitVec.ofInt 64 7).toNat ≤ 7 := by
    rw [BitVec.toNat_and]
    exact Nat.le_trans Nat.and_le_right (by decide)
  refine ⟨((BitVec.ofInt 64 y) &&& BitVec.ofInt 64 7).toNat, h, ?_⟩
  show IntKind.i64.wrap ((BitVec.ofInt 64 y &&& BitVec.ofInt 64 7).toNat : Int) = _
  rw [IntKind.wrap_i64]
  generalize ((BitVec.ofInt 64 y) &&& BitVec.ofInt 64 7).toNat = n at *
  omega
theorem one_str (xb : UInt8) (W : World) (B : Nat) (h : W.cell? ⟨B, 0, none⟩ = some (.int .u8 (xb.toNat : Int))) : (convert 34 9 (.slice (some ⟨B, 0, none⟩) 1 1)).run Tryz.prog W = .ok (.string ⟨#[xb]⟩) W := by
  have hb : Bytes W W.heap.size (some ⟨B, 0, none⟩) 1 [xb] := ⟨rfl, fun _ => ⟨B, 0, rfl, cell_lt h, fun k v hv => by
    have hk : k < 1 := by simpa using (List.getElem?_eq_some_iff.1 hv).1
    obtain rfl : k = 0 := by omega
    simp at hv
    rw [← hv]
    exact h⟩⟩
  exact Bytes.string (P := Tryz.prog) hb (fun h => by cases h) 1 34 9 5 Tryz.underlying34 Tryz.underlying5 Tryz.underlying9
/-- The topic of a number: t and one of 0 to 7. -/
def tn7 (k : Nat) : ByteArray := ⟨#[116, UInt8.ofNat (48 + k)]⟩
def tx (y : Int) : ByteArray := tn7 (Go.bits .and .i64 y 7).toNat
theorem tn7_cat (k : Nat) : (⟨#[116]⟩ : ByteArray) ++ ⟨#[UInt8.ofNat (48 + k)]⟩ = tn7 k := by
  apply ByteArray.ext
  simp [tn7]
theorem tn7_name {k : Nat} (hk : k ≤ 7) : nameB (tn7 k) = true := by
  have h : ∀ i : Fin 8, Vr.name [116, UInt8.ofNat (48 + i.val)] = true := by decide
  exact h ⟨k, by omega⟩
theorem tx_of {y : Int} {k : Nat} (h : Go.bits .and .i64 y 7 = (k : Int)) : tx y = tn7 k := by
  unfold tx
  rw [h]
  rfl
theorem tx_name (y : Int) : nameB (tx y) = true := by
  obtain ⟨k, h1, h2⟩ := and7 y
  rw [tx_of h2]
  exact tn7_name h1
theorem tx_size (y : Int) : (tx y).size ≤ 9223372036854775807 := by
  show 2 ≤ _
  decide
theorem all_names (os : List Int) : (os.map tx).all nameB = true := by
  rw [List.all_eq_true]
  intro s hs
  obtain ⟨y, _, rfl⟩ := List.mem_map.1 hs
  exact tx_name y
theorem dup_succ (l : List ByteArray) (j : Nat) : (List.range (j + 1)).any (dupAt l) = ((List.range j).any (dupAt l) || has (l.take j) l[j]!) := by
  rw [List.range_succ, List.any_append]
  simp [dupAt, has]
theorem check3_w (l : List ByteArray) (most time : Int) : checkNo3 ⟨#[119]⟩ ⟨#[]⟩ ⟨#[]⟩ ⟨#[]⟩ 1 1 0 0 0 l most time 0 0 0 = fetchNo l most time := by
  unfold checkNo3
  rw [if_neg (by decide +kernel), if_neg (by decide +kernel), if_neg (by decide +kernel)]
theorem fetch_many {l : List ByteArray} {n : Nat} (hn : l.length = n) (h : n < 1 ∨ 6 < n) (most time : Int) : fetchNo l most time = 104 := by
  unfold fetchNo
  rw [if_pos]
  unfold wi
  rw [hn]
  rcases h with h | h
  · rw [decide_eq_false (by omega)]
    rfl
  · rw [decide_eq_false (show ¬ (n : Int) ≤ 6 by omega), Bool.and_false]
theorem fetch_few {l : List ByteArray} {n : Nat} (hn : l.length = n) (h1 : ¬ n < 1) (h2 : ¬ 6 < n) (ha : l.all nameB = true) (most time : Int) : fetchNo l most time = if (List.range n).any (dupAt l) = true then 109 else if (wi 1 5 most && wi 1 1000 time) = true then 0 else 107 := by
  unfold fetchNo
  rw [if_neg, ha, if_neg (by decide), hn]
  unfold wi
  rw [hn, decide_eq_true (show (1 : Int) ≤ n by omega), decide_eq_true (show (n : Int) ≤ 6 by omega)]
  decide
end Ms
open Ms
set_option maxRecDepth 10000 in
set_option maxHeartbeats 1600000 in
theorem messageTopics_walk (A : Option Addr) (n c : Nat) (os : List Int) (most time : Int) (ads : List Addr) (w : World) (hin : InRow w 1 A n c (os.map (Value.int .i64))) (_hob : ∀ y ∈ os, -9223372036854775808 ≤ y ∧ y ≤ 9223372036854775807)
    (_ : -9223372036854775808 ≤ most) (_ : most ≤ 9223372036854775807) (_ : -9223372036854775808 ≤ time) (_ : time ≤ 9223372036854775807) (hE0 : Errs w 224 sents ads) (_ : ErrTy w) :
    Calls Tryz.prog 4 #[.slice A n c, .int .i64 most, .int .i64 time] w fun e w' => e = .returned (.bool true) ∧ Below w.heap.size w w' := by
  obtain ⟨i0, hi0, hz0, hz1, hz2⟩ := info_parts info_str
  have HF := Lib.hid (first_any ads w hE0)
  have HE := Lib.hid hE0
  have r0 : Row w w.heap.size A n (os.map (Value.int .i64)) := hin.row
  have hlen : os.length = n := by simpa using r0.len
  have HRO := Lib.hid r0
  have HLN := Lib.hid hlen
  clear hE0 hin r0 hlen
  go_enter Tryz.func4, Tryz.ntmps4
  go_wp2_with fail
  refine HF.out.mono ?_
  rintro e w1 ⟨rfl, hb1⟩
  have HB1 := Lib.hid hb1
  clear HF hb1
  by_cases h9 : 9 < n
  · have hI : (9 : Int) < (n : Int) := by omega
    go_wp2
    go_ret
    exact ⟨rfl, HB1.out⟩
  have hI : ¬ (9 : Int) < (n : Int) := by omega
  have hIn : (n : Int) ≤ 9 := by omega
  go_wp2_with fail
  go_loopw [8, 9, 10] (fun s8 s9 s10 wr => ∃ (j : Nat) (B : Option Addr) (m : Nat), j ≤ n ∧ s10 = .int .i64 j ∧ s8 = .slice B j m ∧ s9 = .bool ((List.range j).any (dupAt (os.map tx))) ∧ OwnK xκ wr w.heap.size 9 B j m ((os.map tx).take j) ∧ Below w.heap.size w wr) (fun _ _ s10 _ => n - (intOf s10).toNat)
  case atStart => exact ⟨0, none, 0, Nat.zero_le _, rfl, rfl, rfl, own_x _ _ _, HB1.out⟩
  case round =>
    obtain ⟨j, B, m, hj, rfl, rfl, rfl, hown, hbr⟩ := hrel
    have hj0 : (0 : Int) ≤ (j : Int) := by omega
    have HOW := Lib.hid hown
    have HBR := Lib.hid hbr
    clear hown hbr
    by_cases hlt : j < n
    · have hjI : (j : Int) < (n : Int) := by omega
      obtain ⟨b, off, rfl, hbb, hc0⟩ := (Row.below HRO.out HBR.out (Nat.le_refl _)).at_ hlt
      have hjl : j < os.length := by rw [HLN.out]; exact hlt
      rw [List.getElem_map] at hc0
      have HTK : Hid ((os.map tx).take (j + 1) = (os.map tx).take j ++ [tx (os[j]'hjl)]) := by
        have := List.take_succ_eq_append_getElem (l := os.map tx) (i := j) (by simpa using hjl)
        rw [List.getElem_map] at this
        exact this
      have hat : (os.map tx)[j]! = tx (os[j]'hjl) := by
        rw [getElem!_pos _ j (by simpa using hjl), List.getElem_map]
      have hds := dup_succ (os.map tx) j
      rw [hat] at hds
      have HDS := Lib.hid hds
      clear hds hat
      generalize os[j]'hjl = y at *
      obtain ⟨k, hk7, hkk⟩ := and7 y
      have htx := tx_of hkk
      rw [htx] at HTK HDS
      obtain ⟨xb, hxb⟩ : ∃ xb : UInt8, xb = UInt8.ofNat (48 + k) := ⟨_, rfl⟩
      have hxn : ((48 : Int) + (k : Int)) = (xb.toNat : Int) := by rw [hxb, UInt8.toNat_ofNat']; omega
      have hxl := xb.toNat_lt
      have hcat := tn7_cat k
      rw [← hxb] at hcat
      have hw1 : IntKind.i64.wrap (xb.toNat : Int) = (xb.toNat : Int) := by rw [IntKind.wrap_i64]; omega
      have hw2 : IntKind.u8.wrap (xb.toNat : Int) = (xb.toNat : Int) := by rw [IntKind.wrap_u8]; omega
      clear hxb htx
      generalize tn7 k = s at *
      have hcv := one_str xb
      have hba : Below wr.heap.size wr (wr.alloc (.cells #[.int .u8 (xb.toNat : Int)] 5)) := (Below.refl _ _).alloc (Nat.le_refl _) _
      have HO2 := Lib.hid (HOW.out.below hba (Nat.le_refl _))
      have HB2 := Lib.hid (HBR.out.trans (hba.mono HBR.out.size))
      clear hba
      have HAN := Lib.hid HO2.out.row
      have hRx := KRow.lit (κ := xκ) (wr.alloc (.cells #[.int .u8 (xb.toNat : Int)] 5)) 9 [s] #[.string s] rfl
      have hxx : Below (wr.alloc (.cells #[.int .u8 (xb.toNat : Int)] 5)).heap.size (wr.alloc (.cells #[.int .u8 (xb.toNat : Int)] 5)) ((wr.alloc (.cells #[.int .u8 (xb.toNat : Int)] 5)).alloc (.cells #[.string s] 9)) := (Below.refl _ _).alloc (Nat.le_refl _) _
      have HR3 := Lib.hid hRx
      have HO3 := Lib.hid (HO2.out.below hxx (Nat.le_refl _))
      have HB3 := Lib.hid (HB2.out.trans (hxx.mono HB2.out.size))
      have HBS := Lib.hid HB3.out.size
      have HHT := Lib.hid (hastext_any B j m ((os.map tx).take j) _ s _ HAN.out (by omega))
      clear hRx hxx HOW HO2 HB2 HAN
      generalize htw : (List.range j).any (dupAt (os.map tx)) = tw at *
      generalize hhs : has ((os.map tx).take j) s = hs at *
      go_upto_region 12 with (fail)
      generalize wr.alloc _ = wa at *
      clear hcv
      cases tw with
      | true =>
        go_wp2_with (at_builtin; refine append_k (κ := xκ) rfl (.tmp 43) (.tmp 45) 31 9 i0 _ 16 Tryz.underlying31 hi0 hz0 hz1 hz2 rfl rfl _ w.heap.size _ B j m _ ⟨wa.heap.size, 0, none⟩ s rfl HO3.out rfl HR3.out (by omega) (by decide) HBS.out ?_; intro B2 m2 w2 ho2 hg2)
        go_roundw
        case rel => exact ⟨j + 1, B2, m2, by omega, by go_num, rfl, by rw [HDS.out]; rfl, by rw [HTK.out]; exact ho2, HB3.out.grown hg2.grown HBS.out (fun k hk => by obtain ⟨a, ha, hb⟩ := blkof hk; have := (HO3.out.block ha).1; omega)⟩
        case measure =>
          simp only [intOf]
          omega
      | false =>
        go_wp2_with (first
          | (go_at_call 12; refine HHT.out.mono ?_; rintro e w3 ⟨rfl, hw⟩; subst hw)
          | (at_builtin; refine append_k (κ := xκ) rfl (.tmp 43) (.tmp 45) 31 9 i0 _ 16 Tryz.underlying31 hi0 hz0 hz1 hz2 rfl rfl _ w.heap.size _ B j m _ ⟨wa.heap.size, 0, none⟩ s rfl HO3.out rfl HR3.out (by omega) (by decide) HBS.out ?_; intro B2 m2 w2 ho2 hg2))
        go_roundw
        case rel => exact ⟨j + 1, B2, m2, by omega, by go_num, rfl, by rw [HDS.out]; rfl, by rw [HTK.out]; exact ho2, HB3.out.grown hg2.grown HBS.out (fun k hk => by obtain ⟨a, ha, hb⟩ := blkof hk; have := (HO3.out.block ha).1; omega)⟩
        case measure =>
          simp only [intOf]
          omega
    · obtain rfl : j = n := by omega
      have hjI : ¬ (j : Int) < (j : Int) := by omega
      have hjm : j ≤ m := by
        rcases HOW.out.2.2 with ⟨_, h0⟩ | ⟨g, cap, cur, hv, _, _, hc, _⟩
        · omega
        · injection hv with _ _ h3
          omega
      have hrow := HOW.out.row
      rw [show (os.map tx).take j = os.map tx from List.take_of_length_le (by rw [List.length_map]; exact Nat.le_of_eq HLN.out)] at hrow
      have hr1 : RowS wr wr.heap.size 1 B j ((os.map tx).map Value.string) := by
        have h := hrow
        unfold KRow at h
        rw [x_flat] at h
        exact h
      have hlen2 : (os.map tx).length = j := by rw [List.length_map]; exact HLN.out
      have hall := all_names os
      have HC := Lib.hid (check_3 (W := w) (w := wr) ⟨#[119]⟩ ⟨#[]⟩ ⟨#[]⟩ ⟨#[]⟩ 1 1 most time 0 0 0 none none none B 0 0 0 0 0 0 j m (os.map tx) (msErrs16 HE.out) HBR.out hr1 (fun y hy => by obtain ⟨z, _, rfl⟩ := List.mem_map.1 hy; exact tx_size z) hjm (by omega) (by decide))
      rw [check3_w] at HC
      have HM := Lib.hid (fun h => fetch_many hlen2 h most time)
      have HFW := Lib.hid (fun h1 h2 => fetch_few hlen2 h1 h2 hall most time)
      clear hlen2 hall hr1 hrow hjm HOW
      generalize (List.range j).any (dupAt (os.map tx)) = tw at *
      have H109 := Lib.hid (fun h1 h2 (ht : tw = true) => (HFW.out h1 h2).trans (if_pos ht))
      have H0 := Lib.hid (fun h1 h2 (ht : tw = false) (hm : 1 ≤ most ∧ most ≤ 5 ∧ 1 ≤ time ∧ time ≤ 1000) => (HFW.out h1 h2).trans ((if_neg (by rw [ht]; decide)).trans (if_pos (by unfold wi; rw [decide_eq_true hm.1, decide_eq_true hm.2.1, decide_eq_true hm.2.2.1, decide_eq_true hm.2.2.2]; rfl))))
      have H107 := Lib.hid (fun h1 h2 (ht : tw = false) (hm : most < 1 ∨ 5 < most ∨ time < 1 ∨ 1000 < time) => (HFW.out h1 h2).trans ((if_neg (by rw [ht]; decide)).trans (if_neg (by unfold wi; simp only [Bool.and_eq_true, decide_eq_true_iff]; omega))))
      clear HFW
      generalize fetchNo (os.map tx) most time = C at *
      go_wp2_with (go_at_call 13; (with_reducible refine HC.out.mono ?_); rintro e w7 ⟨⟨ev, rfl, hev⟩, hb7⟩; have HB7 := Lib.hid (HBR.out.trans (hb7.mono HBR.out.size)); have HIS := Lib.hid (fun k => is_any ads ev C w7 (HE.out.below HB7.out (Nat.le_refl _)) (seenAs_of hev) k); clear hev hb7)
      all_goals
        refine (HIS.out _).mono ?_
        rintro e w8 ⟨rfl, hb8⟩
        go_wp2
        go_ret
        refine ⟨?_, HB7.out.trans (hb8.mono HB7.out.size)⟩
        first
          | (have hk := HM.out (by omega); subst hk; rfl)
          | (have hk := H109.out (by omega) (by omega) (by first | assumption | rfl); subst hk; rfl)
          | (have hk := H0.out (by omega) (by omega) (by first | assumption | rfl) (by omega); subst hk; rfl)
          | (have hk := H107.out (by omega) (by omega) (by first | assumption | rfl) (by omega); subst hk; rfl)
end Go.Proofs.YtggplgmjonnliaaGreatDoor
