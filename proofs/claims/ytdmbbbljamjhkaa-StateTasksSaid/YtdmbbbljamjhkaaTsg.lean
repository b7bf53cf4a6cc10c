/- StateTasks: the walk. -/
import Derived.Test.YtdmbbbljamjhkaaTsf
import Derived.Test.YtdmbbbljamjhkaaOpen
import Derived.Deep.RegionHeld3
import Derived.BigQuiet
namespace Go.Proofs.Ytdmbbbljamjhkaa
open Go.RowKit
open St
open Ls (T)
theorem KRow.mono1 {α : Type} {κ : Cs α} {w : World} {B n : Nat} {A : Option Addr} {l : List α} (h : KRow κ w B A n l) : KRow κ w B A n l := h
theorem below_drewN' (w : World) {b : Nat} : ∀ n, Below b w (w.drewN n) := fun n => by
  exact ⟨rfl, rfl, rfl, Nat.le_refl _, fun _ _ => rfl⟩
set_option maxRecDepth 10000 in
set_option maxHeartbeats 1600000 in
theorem stateTasks_walk (A : Option Addr) (n c : Nat) (os : List Int) (k0 : Int) (w : World) (hin : InRow w 1 A n c (os.map (Value.int .i64))) (_hob : ∀ y ∈ os, -9223372036854775808 ≤ y ∧ y ≤ 9223372036854775807)
    (_ : -9223372036854775808 ≤ k0) (_ : k0 ≤ 9223372036854775807) :
    Calls Try.prog 3 #[.slice A n c, .int .i64 k0] w fun e w' => e = .returned (.bool true) ∧ Below w.heap.size w w' := by
  obtain ⟨i0, hi0, hz0, hz1, hz2⟩ := info_parts info_int
  have HF := Lib.hid (first_any w)
  have r0 : Row w w.heap.size A n (os.map (Value.int .i64)) := hin.row
  have hlen : os.length = n := by simpa using r0.len
  have HRO := Lib.hid r0
  have HLN := Lib.hid hlen
  clear hin r0 hlen
  go_enter Try.func3, Try.ntmps3
  go_wp2_with fail
  refine HF.out.mono ?_
  rintro e w1 ⟨rfl, hb1⟩
  have HB1 := Lib.hid hb1
  clear HF hb1
  by_cases h20 : 20 < n
  · have hI : (20 : Int) < (n : Int) := by omega
    go_wp2
    go_ret
    exact ⟨rfl, HB1.out⟩
  have hI : ¬ (20 : Int) < (n : Int) := by omega
  have hIn : (n : Int) ≤ 20 := by omega
  go_wp2_with fail
  refine (new_any w1).mono ?_
  rintro e w2 ⟨rfl, hw2⟩
  have hc2 : Cel w2 w1.heap.size newCells := by rw [hw2]; exact Cel.lit w1 #[.map none, .map none, .slice none 0 0, .slice none 0 0, .int .i64 1, .int .i64 1] 37
  have hb2 : Below w1.heap.size w1 w2 := by rw [hw2]; exact (Below.refl _ _).alloc (Nat.le_refl _) _
  have HQ : Hid (w.heap.size ≤ w1.heap.size) := HB1.out.size
  have HI2 : Hid (Inv w2 w1.heap.size [] none 0 0 []) := ⟨⟨by decide, by simp, .inl ⟨rfl, rfl⟩⟩, none, new_quC hc2, fun _ h => by cases h⟩
  have HB2 := Lib.hid (HB1.out.trans (hb2.mono HB1.out.size))
  clear hw2 hc2 hb2 HB1
  generalize w1.heap.size = q at *
  go_wp2_with fail
  refine (Qu.num_fn k0 4 w2 (by decide) (by decide)).mono ?_
  rintro e w2' ⟨rfl, rfl⟩
  obtain ⟨K, hK⟩ : ∃ K, k0 % 4 + 1 = K := ⟨_, rfl⟩
  have hKb : 1 ≤ K ∧ K ≤ 4 := by omega
  have hwK : IntKind.i64.wrap (k0 % 4 + 1) = K := by rw [IntKind.wrap_i64]; omega
  go_wp2_with fail
  clear hwK
  go_loopw [7, 8] (fun s7 s8 wr => ∃ (j : Nat) (B : Option Addr) (m b : Nat), j ≤ n ∧ s8 = .int .i64 j ∧ s7 = .slice B m b ∧ Inv wr q (tks os j) B m b (idsOf os K j) ∧ Below w.heap.size w wr) (fun _ s8 _ => n - (intOf s8).toNat)
  case atStart => exact ⟨0, none, 0, 0, Nat.zero_le _, rfl, rfl, HI2.out, HB2.out⟩
  case round =>
    obtain ⟨j, B, m, b, hj, rfl, rfl, hinv, hbr⟩ := hrel
    have hj0 : (0 : Int) ≤ (j : Int) := by omega
    have HIN := Lib.hid hinv
    have HBR := Lib.hid hbr
    have hm20 : m ≤ 20 := by have h1 := hinv.own.len; have h2 := ids_le (os := os) (j := j) (k := K); omega
    clear hinv hbr
    by_cases hlt : j < n
    · have hjI : (j : Int) < (n : Int) := by omega
      obtain ⟨bb, off, rfl, hbb, hc0⟩ := (Row.below HRO.out HBR.out (Nat.le_refl _)).at_ hlt
      have hjl : j < os.length := by rw [HLN.out]; exact hlt
      rw [List.getElem_map] at hc0
      have hat : os[j]! = os[j]'hjl := getElem!_pos os j hjl
      have hins := ins_tks (os := os) (j := j)
      have hids := ids_same (os := os) (j := j) (k := K)
      have hido := ids_other (os := os) (j := j) (k := K)
      have hput := HIN.out.put (tk os j) (by show -9223372036854775808 ≤ (j : Int) + 1; omega) (by show (j : Int) + 1 ≤ 9223372036854775807; omega) (by show 1 ≤ 1000; omega) (by rw [tks_len]; omega)
      rw [hins] at hput
      unfold tk at hput
      unfold T.cells at hput
      rw [hat] at hput hids hido
      have HPT := Lib.hid hput
      have HIS := Lib.hid hids
      have HIO := Lib.hid hido
      clear hput hids hido hins hat
      generalize os[j]'hjl = y at *
      obtain ⟨v, hv⟩ : ∃ v, y % 4 + 1 = v := ⟨_, rfl⟩
      have hvb : 1 ≤ v ∧ v ≤ 4 := by omega
      have hwv : IntKind.i64.wrap (y % 4 + 1) = v := by rw [IntKind.wrap_i64]; omega
      have hwj : IntKind.i64.wrap ((j : Int) + 1) = (j : Int) + 1 := by rw [IntKind.wrap_i64]; omega
      rw [hv] at HPT HIS HIO
      have HNU := Lib.hid (Qu.num_fn y 4 wr (by decide) (by decide))
      clear hv
      by_cases hvK : v = K
      · have hvt : (v == K) = true := by simpa using hvK
        have HISo := Lib.hid (HIS.out hvK)
        clear hvK HIO HIS
        go_wp2_with (first
          | (go_at_call 6; refine HNU.out.mono ?_; rintro e wn ⟨rfl, hwn⟩; subst hwn)
          | (go_at_call 7; refine HPT.out.mono ?_; rintro e w3 ⟨rfl, hin3, hb3⟩; have hb4 : Below w3.heap.size w3 (w3.alloc (.cells #[.int .i64 ((j : Int) + 1)] 3)) := (Below.refl _ _).alloc (Nat.le_refl _) _; have HI4 := Lib.hid (hin3.below hb4); have hb5 := hb3.mono HQ.out; have hb6 := HBR.out.trans hb5; have HB4 := Lib.hid (hb6.trans (hb4.mono hb6.size)); have hR := KRow.lit (κ := Qu.nκ) w3 3 [(j : Int) + 1] #[.int .i64 ((j : Int) + 1)] rfl; have HR := Lib.hid (KRow.mono1 hR); have HLE : Hid (q + 1 ≤ (w3.alloc (.cells #[.int .i64 ((j : Int) + 1)] 3)).heap.size) := (by obtain ⟨mm, hqc, _⟩ := HI4.out.qu; exact hqc.cel.lt); clear hin3 hb3 hb4 hb5 hb6 hR)
          | (at_builtin; refine append_k (κ := Qu.nκ) rfl (.tmp 49) (.tmp 52) 22 3 i0 _ 8 Try.underlying22 hi0 hz0 hz1 hz2 rfl rfl _ (q + 1) _ B m b (idsOf os K j) ⟨w3.heap.size, 0, none⟩ ((j : Int) + 1) rfl HI4.out.own rfl HR.out (by omega) (by decide) HLE.out ?_; intro B5 c5 w5 ho5 hg5; have HI5 := Lib.hid (HI4.out.grew ho5 hg5); clear ho5 hg5))
        go_roundw
        case rel => exact ⟨j + 1, B5, m + 1, c5, by omega, by go_num, rfl, by rw [HISo.out]; exact HI5.out.1, HB4.out.trans (HI5.out.2.mono HQ.out)⟩
        case measure =>
          simp only [intOf]
          omega
      · have hvt : (v == K) = false := by simpa using hvK
        have HIOo := Lib.hid (HIO.out hvK)
        clear hvK HIO HIS
        go_wp2_with (first
          | (go_at_call 6; refine HNU.out.mono ?_; rintro e wn ⟨rfl, hwn⟩; subst hwn)
          | (go_at_call 7; refine HPT.out.mono ?_; rintro e w3 ⟨rfl, hin3, hb3⟩; have HI3 := Lib.hid hin3; have HB3 := Lib.hid (HBR.out.trans (hb3.mono HQ.out)); clear hin3 hb3))
        go_roundw
        case rel => exact ⟨j + 1, B, m, b, by omega, by go_num, rfl, by rw [HIOo.out]; exact HI3.out, HB3.out⟩
        case measure =>
          simp only [intOf]
          omega
    · obtain rfl : j = n := by omega
      have hjI : ¬ (j : Int) < (j : Int) := by omega
      obtain ⟨mm, hqu, hmm⟩ := HIN.out.qu
      have HQU := Lib.hid hqu
      have hown := HIN.out.own
      have hml : (idsOf os K j).length = m := hown.len
      have hol : (ofL (tks os j) K).length = m := by rw [← ids_len]; exact hml
      have hOF := Qu.Kp.refl (fun _ => False) wr
      have hof := of_any q mm (tks os j) K wr hqu (by rw [tks_len]; omega)
      rw [hol] at hof
      have HOF := Lib.hid hof
      have HOW := Lib.hid hown
      clear hqu hown hof hOF
      go_wp2_with (go_at_call 8; refine HOF.out.mono ?_; rintro e w4 ⟨⟨A4, c4, rfl, hr4⟩, hb4⟩; have HR4 := Lib.hid hr4; have HB4 := Lib.hid (HBR.out.trans (hb4.mono HBR.out.size)); have HQ4 := Lib.hid (HQU.out.below hb4); have HO4 := Lib.hid (HOW.out.below hb4 (Nat.le_refl _)); have HLE4 := Lib.hid (Qu.len_any q mm (tks os j) w4 (HQU.out.below hb4)); rw [tks_len] at HLE4; clear hr4 hb4)
      go_wp2_with (go_at_call 9; refine HLE4.out.mono ?_; rintro e w4' ⟨rfl, hw⟩; subst hw)
      go_loopw [11] (fun s11 wr => ∃ i : Nat, i ≤ m ∧ s11 = .int .i64 i ∧ Below w4.heap.size w4 wr) (fun s11 _ => m - (intOf s11).toNat)
      case atStart => exact ⟨0, Nat.zero_le _, rfl, Below.refl _ _⟩
      case round =>
        obtain ⟨i, hi, rfl, hbw⟩ := hrel
        have HR4 := Lib.hid (KRow.mono1 (RowS.mono (RowS.below HR4.out hbw (Nat.le_refl _)) hbw.size) : Hid (KRow Qu.tκ wr wr.heap.size A4 m (ofL (tks os j) K)))
        have HO4 := Lib.hid (HO4.out.below hbw (Nat.le_refl _))
        have HQ4 := Lib.hid (HQ4.out.below hbw)
        have HBX := Lib.hid (HB4.out.trans (hbw.mono HB4.out.size))
        have HBW := Lib.hid hbw
        clear hbw HB4
        have HB4 := HBX
        clear HBX
        have hi0 : (0 : Int) ≤ (i : Int) := by omega
        by_cases hit : i < m
        · have hitI : (i : Int) < (m : Int) := by omega
          obtain ⟨bx, ox, rfl, _, _⟩ := HR4.out.2 (by omega)
          obtain ⟨by', oy, rfl, _, _⟩ := HO4.out.row.2 (by omega)
          obtain ⟨c0, c1, _⟩ := Qu.t_at HR4.out hit
          have c2 := Qu.n_at HO4.out.row hit
          obtain ⟨e1, e2⟩ := at_of (L := tks os j) (k := K) (i := i) (by rw [hol]; exact hit)
          have e3 : (idsOf os K j)[i]! = ((ofL (tks os j) K).map T.id)[i]! := rfl
          rw [e1, ← e3] at c0
          rw [e2] at c1
          generalize (idsOf os K j)[i]! = z at *
          have hzz : (z != z) = false := by simp
          have hkk : (K != K) = false := by simp
          go_upto_region 24 with (fail)
          go_quiet (fail)
          go_wp2
          go_roundw
          case rel => exact ⟨i + 1, by omega, by go_num, HBW.out.trans (below_drewN' _ _)⟩
          case measure =>
            simp only [intOf]
            omega
        · obtain rfl : i = m := by omega
          have hitI : ¬ (i : Int) < (i : Int) := by omega
          have hab : ∀ a, B = some a → ¬ Qu.QS q mm a.block := fun a ha hs => by
            have hbl := (HO4.out.block ha).1
            rcases hs with hs | hs
            · omega
            · rcases HQ4.out.own with ⟨h5, _⟩ | ⟨b', h5, ho⟩
              · rw [h5] at hs
                cases hs
              · rw [h5] at hs
                exact own_ne_map HO4.out ho ha (Option.some.inj hs)
          have hd := Qu.drop_any q mm (tks os j) B i b (idsOf os K j) wr HQ4.out HO4.out.row (ids_wf (by omega)) (by omega) (by rw [tks_len]; omega) hab
          have hou : Qu.outs (tks os j) (idsOf os K j) = (tks os j).filter (fun x => !ofI x K) := outs_of HQ4.out.asc K
          have hsp := len_split (ofI · K) (tks os j)
          have hre := of_rest (tks os j) K
          rw [tks_len] at hsp hd
          rw [hou] at hd
          rw [show ((tks os j).filter (ofI · K)).length = i from hol] at hsp
          generalize (tks os j).filter (fun x => !ofI x K) = M at *
          rw [show (j : Int) - (M.length : Int) = (i : Int) by omega] at hd
          have HD := Lib.hid hd
          have HME := Lib.hid hre
          have HML : Hid ((M.length : Int) = (j : Int) - (i : Int)) := by unfold Hid; omega
          have HMS : Hid (M.length ≤ 100000) := by unfold Hid; omega
          have HMM := Lib.hid hmm
          have hsub : IntKind.i64.wrap ((j : Int) - (i : Int)) = (j : Int) - (i : Int) := by rw [IntKind.wrap_i64]; omega
          clear hd hre hab hou hsp hmm
          go_wp2_with (first
            | (go_at_call 10; refine HD.out.mono ?_; rintro e w5 ⟨rfl, hq5, hk5⟩; have HQ5 := Lib.hid hq5; have HB5 := Lib.hid (HB4.out.trans (hk5.below HB4.out.size (fun i hi hs => (by have h1 := HMM.out i hs; have h2 := HQ.out; omega)))); have hof := of_any q mm M K w5 hq5 HMS.out; rw [HME.out] at hof; have HOF5 := Lib.hid hof; clear hq5 hk5 hof)
            | (go_at_call 8; refine HOF5.out.mono ?_; rintro e w6 ⟨⟨A6, c6, rfl, _⟩, hb6⟩; have HB6 := Lib.hid (HB5.out.trans (hb6.mono HB5.out.size)); have hle := Qu.len_any q mm M w6 (HQ5.out.below hb6); rw [HML.out] at hle; have HLE6 := Lib.hid hle; clear hb6 hle)
            | (go_at_call 9; refine HLE6.out.mono ?_; rintro e w7 ⟨rfl, hw7⟩; subst hw7))
          go_ret
          exact ⟨by simp, HB6.out⟩
end Go.Proofs.Ytdmbbbljamjhkaa
