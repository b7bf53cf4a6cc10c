/- QueueKeeps: the walk. -/
import Derived.Test.YtlcchjpelfjheaaLy
import Derived.Laws.MakeOwn
import Derived.Test.YtlcchjpelfjheaaRegion
namespace Go.Proofs.Ytlcchjpelfjheaa
open Go.RowKit

namespace Qu
open Ls (T)
theorem info_nt : (Try.prog.info? 3).map (fun i => (i.zero, i.size, i.bytes)) = some (some (.int .i64 0), 1, 8) := by kernel_rfl
theorem make10 (W : World) : (Instr.makeSlice 57 (.int .i64 10) (.int .i64 10)).run Try.prog W = .ok (.slice (some ⟨W.heap.size, 0, none⟩) 10 10) (W.alloc (.cells #[.int .i64 0, .int .i64 0, .int .i64 0, .int .i64 0, .int .i64 0, .int .i64 0, .int .i64 0, .int .i64 0, .int .i64 0, .int .i64 0] 3)) := by
  obtain ⟨i0, hi0, hz0, hz1, hz2⟩ := info_parts info_nt
  have h := run_makeSlice (P := Try.prog) (w := W) 57 3 i0 (.int .i64 0) Try.underlying57 hi0 hz0 .i64 .i64 10 10 (by decide) (by decide) (by rw [hz1]; decide) (by rw [hz2]; decide) (by decide)
  rw [hz1] at h
  have hm : madeCells (Value.int .i64 0).cells ((10 : Int).toNat * 1) = #[.int .i64 0, .int .i64 0, .int .i64 0, .int .i64 0, .int .i64 0, .int .i64 0, .int .i64 0, .int .i64 0, .int .i64 0, .int .i64 0] := by kernel_rfl
  rw [hm] at h
  exact h
theorem s_at {w : World} {p : Nat} {S : List Int} (h : Cel w p (S.map (Value.int .i64))) {k : Nat} (hk : k < S.length) : w.cell? ⟨p, k, none⟩ = some (.int .i64 S[k]!) ∧ w.frozen? ⟨p, k, none⟩ = false := by
  refine ⟨h.cell k _ ?_, h.froz k (by simpa using hk)⟩
  rw [List.getElem?_map, List.getElem?_eq_getElem hk, getElem!_pos S k hk]
  rfl
theorem s_keep {w w' : World} {p : Nat} {S : List Int} (h : Cel w p (S.map (Value.int .i64))) (hl : S.length = 10) (hk : ∀ v cs, Cel w p (v :: cs) → Cel w' p (v :: cs)) : Cel w' p (S.map (Value.int .i64)) := by
  cases S with
  | nil => cases hl
  | cons s r => exact hk _ _ h
theorem qget_at {B q : Nat} {l : List T} (n : Int) (w : World) (hq : QAt B w q l) (hn : (Lit.int .i64 n).wf = true) :
    Calls Try.prog 17 #[.pointer (some ⟨q, 0, none⟩), .int .i64 n] w fun e w' => e = .returned (.tuple #[(getT n l).val, .bool (has n l)]) ∧ Below w.heap.size w w' := by
  obtain ⟨_, m, hc, _⟩ := hq
  exact get_any q m l n w hc hn
theorem qlen_at {B q : Nat} {l : List T} (w : World) (hq : QAt B w q l) : Calls Try.prog 10 #[.pointer (some ⟨q, 0, none⟩)] w fun e w' => e = .returned (.int .i64 l.length) ∧ w = w' := by
  obtain ⟨_, m, hc, _⟩ := hq
  exact len_any q m l w hc
theorem sorted_prio {s : List T} (h : s.Pairwise fun a b => ¬ Ahead b a) {j : Nat} (h1 : 0 < j) (h2 : j < s.length) : ¬ (s[j - 1]!).prio < (s[j]!).prio := by
  have := List.pairwise_iff_getElem.1 h (j - 1) j (by omega) h2 (by omega)
  rw [getElem!_pos s j h2, getElem!_pos s (j - 1) (by omega)]
  unfold Ahead at this
  omega
end Qu
open Qu
open Ls (T)
set_option maxRecDepth 100000 in
set_option maxHeartbeats 12800000 in
theorem queueKeeps_walk (A1 : Option Addr) (n1 c1 : Nat) (l1 : List Int) (A2 : Option Addr) (n2 c2 : Nat) (l2 : List Int) (w : World) (hin1 : InRow w 1 A1 n1 c1 (l1.map (Value.int .i64))) (_ : ∀ y ∈ l1, -9223372036854775808 ≤ y ∧ y ≤ 9223372036854775807)
    (hin2 : InRow w 1 A2 n2 c2 (l2.map (Value.int .i64))) (_ : ∀ y ∈ l2, -9223372036854775808 ≤ y ∧ y ≤ 9223372036854775807) :
    Calls Try.prog 6 #[.slice A1 n1 c1, .slice A2 n2 c2] w fun e w' => e = .returned (.bool true) ∧ Below w.heap.size w w' := by
  have r1 : KRow nκ w w.heap.size A1 n1 l1 := nrow hin1.row
  have r2 : KRow nκ w w.heap.size A2 n2 l2 := nrow hin2.row
  have hmost1 := hin1.most
  have hcap1 := hin1.cap
  have hmost2 := hin2.most
  have hcap2 := hin2.cap
  unfold maxLen at hmost1 hmost2
  have HF := Lib.hid (first_any w)
  have HR1 := Lib.hid r1
  have HR2 := Lib.hid r2
  have hnb1 : (n1 : Int) ≤ 9223372036854775807 := by omega
  have hnb2 : (n2 : Int) ≤ 9223372036854775807 := by omega
  have HN := Lib.hid (fun n w => num_fn n 9 w (by decide) (by decide))
  have hmk := make10
  clear hin1 hin2 r1 r2 hmost1 hcap1 hmost2 hcap2
  by_cases hok : n1 ≤ 20 ∧ n1 ≤ n2
  · obtain ⟨h20, h12⟩ := hok
    have hI : ¬ (20 : Int) < (n1 : Int) := by omega
    have hI2 : ¬ (n2 : Int) < (n1 : Int) := by omega
    have hd1 : decide ((20 : Int) < (n1 : Int)) = false := decide_eq_false hI
    have hd2 : decide (n2 < n1) = false := decide_eq_false (by omega)
    go_enter Try.func6, Try.ntmps6
    go_wp2_with fail
    refine HF.out.mono ?_
    rintro e w1 ⟨rfl, hb1⟩
    have hs1 := hb1.size
    have hbm : Below w1.heap.size w1 (w1.alloc (.cells #[.map none] 26)) := (Below.refl _ _).alloc (Nat.le_refl _) _
    have hbn : Below w1.heap.size w1 ((w1.alloc (.cells #[.map none] 26)).alloc (.cells #[.int .i64 0, .int .i64 0, .int .i64 0, .int .i64 0, .int .i64 0, .int .i64 0, .int .i64 0, .int .i64 0, .int .i64 0, .int .i64 0] 3)) := hbm.alloc hbm.size _
    have hwn : (w1.alloc (.cells #[.map none] 26)).heap.size = w1.heap.size + 1 := by simp
    have HQ := Lib.hid ((QAt.start hs1 26).below ((Below.refl _ _).alloc (Nat.le_refl _) (.cells #[.int .i64 0, .int .i64 0, .int .i64 0, .int .i64 0, .int .i64 0, .int .i64 0, .int .i64 0, .int .i64 0, .int .i64 0, .int .i64 0] 3)))
    have hcs := Cel.lit (w1.alloc (.cells #[.map none] 26)) #[.int .i64 0, .int .i64 0, .int .i64 0, .int .i64 0, .int .i64 0, .int .i64 0, .int .i64 0, .int .i64 0, .int .i64 0, .int .i64 0] 3
    rw [hwn] at hcs
    have HC := Lib.hid hcs
    have HBQ := Lib.hid (hb1.trans (hbn.mono hs1))
    clear hb1 HF hbm hbn hwn hcs
    go_wp2_with fail
    go_loopw [8, 9] (fun s8 s9 wr => ∃ (j many : Nat) (L : List T) (S : List Int), s8 = .int .i64 many ∧ s9 = .int .i64 j ∧ j ≤ n1 ∧ KInv L S many ∧ QAt w.heap.size wr w1.heap.size L ∧ Cel wr (w1.heap.size + 1) (S.map (Value.int .i64)) ∧ Below w.heap.size w wr) (fun _ s9 _ => n1 - (intOf s9).toNat)
    case atStart => exact ⟨0, 0, [], List.replicate 10 0, rfl, rfl, Nat.zero_le _, KInv.start, HQ.out, HC.out, HBQ.out⟩
    case round =>
      obtain ⟨j, many, L, S, rfl, rfl, hj, hinv, hq, hcel, hb⟩ := hrel
      have HINV := Lib.hid hinv
      have HQR := Lib.hid hq
      have HCR := Lib.hid hcel
      have HBR := Lib.hid hb
      have hj0 : (0 : Int) ≤ (j : Int) := by omega
      have hLl : L.length ≤ 1000 := by have := hinv.few; omega
      have hmany : many ≤ 9 := by rw [← hinv.cnt]; exact hinv.few
      have hsr := hb.size
      have hSl := hinv.len
      clear hinv hq hcel hb HQ HC HBQ
      by_cases hlt : j < n1
      · have hlI : (j : Int) < (n1 : Int) := by omega
        have hlI2 : (j : Int) < (n2 : Int) := by omega
        obtain ⟨bz, oz, rfl, hbz, _⟩ := (HR1.out.below HBR.out (Nat.le_refl _)).2 (by omega)
        obtain ⟨by_, oy, rfl, hby, _⟩ := (HR2.out.below HBR.out (Nat.le_refl _)).2 (by omega)
        have u1 := n_at (HR1.out.below HBR.out (Nat.le_refl _)) hlt
        have u2 := n_at (HR2.out.below HBR.out (Nat.le_refl _)) (j := j) (by omega)
        generalize l1[j]! = v1 at *
        generalize l2[j]! = v2 at *
        obtain ⟨k0, hk0, hk9⟩ : ∃ k0 : Nat, v1 % 9 = (k0 : Int) ∧ k0 < 9 := ⟨(v1 % 9).toNat, by have := Int.emod_nonneg v1 (show (9 : Int) ≠ 0 by decide); omega, by have := Int.emod_nonneg v1 (show (9 : Int) ≠ 0 by decide); have := Int.emod_lt_of_pos v1 (show (0 : Int) < 9 by decide); omega⟩
        obtain ⟨p0, hp0, hp9⟩ : ∃ p0 : Nat, v2 % 9 = (p0 : Int) ∧ p0 < 9 := ⟨(v2 % 9).toNat, by have := Int.emod_nonneg v2 (show (9 : Int) ≠ 0 by decide); omega, by have := Int.emod_nonneg v2 (show (9 : Int) ≠ 0 by decide); have := Int.emod_lt_of_pos v2 (show (0 : Int) < 9 by decide); omega⟩
        have N1 := Lib.hid (fun w => HN.out v1 w)
        have N2 := Lib.hid (fun w => HN.out v2 w)
        rw [hk0] at N1
        rw [hp0] at N2
        clear hk0 hp0
        have hkt : ((k0 : Int) + 1).toNat = k0 + 1 := by omega
        have hk1 : (0 : Int) ≤ (k0 : Int) + 1 := by omega
        have hk2 : (k0 : Int) + 1 < 10 := by omega
        have hk3 : k0 + 1 < 10 := by omega
        obtain ⟨s1, sf⟩ := s_at HCR.out (k := k0 + 1) (by omega)
        have hST := HINV.out.step (k := k0 + 1) (p := 1 + (p0 : Int)) (by omega) (by omega) (by omega) (by omega)
        have HST := Lib.hid hST
        have hLl2 : (ins (tk (k0 + 1) (1 + (p0 : Int))) L).length ≤ 9 := hST.few
        have HGT := Lib.hid (getT_of hST.asc ((mem_ins (x := tk (k0 + 1) (1 + (p0 : Int))) HINV.out.asc).2 (.inl rfl)))
        have HHS : Hid (has (((k0 + 1 : Nat) : Int)) (ins (tk (k0 + 1) (1 + (p0 : Int))) L) = true) := has_iff.2 ⟨tk (k0 + 1) (1 + (p0 : Int)), (mem_ins HINV.out.asc).2 (.inl rfl), rfl⟩
        have hgs : Below w.heap.size w (wr.setCell ⟨w1.heap.size + 1, k0 + 1, none⟩ (.int .i64 (1 + (p0 : Int)))) := HBR.out.setCell (p := ⟨w1.heap.size + 1, k0 + 1, none⟩) (by show w.heap.size ≤ w1.heap.size + 1; omega) _
        have hqs : QAt w.heap.size (wr.setCell ⟨w1.heap.size + 1, k0 + 1, none⟩ (.int .i64 (1 + (p0 : Int)))) w1.heap.size L := by
          obtain ⟨h1, m, h2, h3⟩ := HQR.out
          refine ⟨h1, m, (Kp.of_grown (S := fun i => i = w1.heap.size + 1) (grown_setCell wr ⟨w1.heap.size + 1, k0 + 1, none⟩ (.int .i64 (1 + (p0 : Int)))) (fun _ _ e => (Option.some.inj e).symm)).quC h2 (by omega) (fun b hb e => ?_), h3⟩
          rcases h2.own with ⟨h5, _⟩ | ⟨b', h5, ho⟩
          · rw [h5] at hb
            cases hb
          · rw [h5] at hb
            obtain rfl := Option.some.inj hb
            have hcc := HCR.out
            cases S with
            | nil => cases hSl
            | cons s r => exact ho.ne hcc e
        have hcs : Cel (wr.setCell ⟨w1.heap.size + 1, k0 + 1, none⟩ (.int .i64 (1 + (p0 : Int)))) (w1.heap.size + 1) ((S.set (k0 + 1) (1 + (p0 : Int))).map (Value.int .i64)) := by
          rw [List.map_set]
          exact HCR.out.set (i := k0 + 1) (by simp; omega) _
        have HP := Lib.hid (put1k_at (tk (k0 + 1) (1 + (p0 : Int))) (wr.setCell ⟨w1.heap.size + 1, k0 + 1, none⟩ (.int .i64 (1 + (p0 : Int)))) hqs hgs.size (by show -9223372036854775808 ≤ ((k0 + 1 : Nat) : Int); omega) (by show ((k0 + 1 : Nat) : Int) ≤ 9223372036854775807; omega) (by show st.size ≤ 1000; decide) hLl)
        have hws : (wr.setCell ⟨w1.heap.size + 1, k0 + 1, none⟩ (.int .i64 (1 + (p0 : Int)))).heap.size = wr.heap.size := by simp
        rw [hws] at HP
        have HGS := Lib.hid hgs
        have HCS := Lib.hid hcs
        have hcast : ((k0 + 1 : Nat) : Int) = (k0 : Int) + 1 := by omega
        have hwfk : (Lit.int .i64 (((k0 + 1 : Nat) : Int))).wf = true := wf_of (by omega) (by omega)
        have hSl2 : (S.set (k0 + 1) (1 + (p0 : Int))).length = 10 := by rw [List.length_set]; exact hSl
        have s2 := (s_at hcs (k := k0 + 1) (by omega)).1
        rw [set_at (by omega) _ (by omega), if_pos rfl] at s2
        have HS2 : Hid ((S.set (k0 + 1) (1 + (p0 : Int)))[k0 + 1]! = 1 + (p0 : Int)) := by
          show _ = _
          rw [set_at (by omega) _ (by omega), if_pos rfl]
        generalize ins (tk (k0 + 1) (1 + (p0 : Int))) L = L2 at *
        generalize S.set (k0 + 1) (1 + (p0 : Int)) = S2 at *
        have HGET := Lib.hid (fun (W : World) (h : QAt w.heap.size W w1.heap.size L2) => qget_at (((k0 + 1 : Nat) : Int)) W h hwfk)
        rw [show getT (((k0 + 1 : Nat) : Int)) L2 = tk (k0 + 1) (1 + (p0 : Int)) from HGT.out, HHS.out] at HGET
        unfold tk st T.cells at HP
        unfold tk st T.val at HGET
        dsimp only at HP HGET
        rw [hcast] at HP HGET
        clear hST hgs hqs hcs hws HGT HHS hcast hwfk HINV HQR HCR
        generalize hSk : S[k0 + 1]! = sk at *
        by_cases hz : sk = 0
        · skip
          subst hz
          rw [if_pos rfl] at HST
          go_wp2_with fail
          refine (N1.out _).mono ?_
          rintro e wa ⟨rfl, rfl⟩
          go_wp2_with fail
          refine (N2.out _).mono ?_
          rintro e wa ⟨rfl, rfl⟩
          go_wp2_with fail
          refine HP.out.mono ?_
          rintro e w2 ⟨rfl, hq2, hb2, hkp2⟩
          have HQ2 := Lib.hid hq2
          have HB2 := Lib.hid (HGS.out.trans hb2)
          have HC2 := Lib.hid (s_keep HCS.out hSl2 (fun v cs h => hkp2 _ v cs (by omega) h))
          clear hq2 hb2 hkp2 HP
          go_wp2_with fail
          refine (HGET.out _ HQ2.out).mono ?_
          rintro e w3 ⟨rfl, hb3⟩
          have hba : Below w3.heap.size w3 (w3.alloc (.cells (tk (k0 + 1) (1 + (p0 : Int))).cells.toArray 38)) := (Below.refl _ _).alloc (Nat.le_refl _) _
          have hta : Cel (w3.alloc (.cells (tk (k0 + 1) (1 + (p0 : Int))).cells.toArray 38)) w3.heap.size (tk (k0 + 1) (1 + (p0 : Int))).cells := Cel.lit w3 (tk (k0 + 1) (1 + (p0 : Int))).cells.toArray 38
          have h34 := hb3.trans (hba.mono hb3.size)
          have HQ4 := Lib.hid (HQ2.out.below h34)
          have HB4 := Lib.hid (HB2.out.trans (h34.mono HB2.out.size))
          have HC4 := Lib.hid (HC2.out.below h34 (Nat.le_refl _))
          unfold tk st T.cells at hta HQ4 HB4 HC4
          dsimp only at hta HQ4 HB4 HC4
          rw [show ((k0 + 1 : Nat) : Int) = (k0 : Int) + 1 by omega] at hta HQ4 HB4 HC4
          clear hb3 hba h34 HQ2 HB2 HC2 s1 sf s2 u1 u2
          go_upto_region 18 with (fail)
          generalize w3.alloc _ = w4 at *
          obtain ⟨⟨a0, a1, a2, a3, a4, a5, a6, a7, a8, a9, a10, a11⟩, _⟩ := Ls.dz_facts hta
          have b1 := (s_at HC4.out (k := k0 + 1) (by omega)).1
          have hS2k : S2[k0 + 1]! = 1 + (p0 : Int) := HS2.out
          rw [hS2k] at b1
          clear hS2k hta a0 a1 a2 a3 a4 a6 a7 a8 a9 a10 a11
          have hcnt := HST.out.cnt
          have HLEN : Hid (∀ nn : Nat, Calls Try.prog 10 #[.pointer (some ⟨w1.heap.size, 0, none⟩)] (w4.drewN nn) fun e w' => e = .returned (.int .i64 ((many + 1) : Nat)) ∧ w' = w4.drewN nn) := fun nn => (qlen_at (w4.drewN nn) (HQ4.out.below (below_drewN (Below.refl _ _) nn))).mono (fun e w' ⟨he, hw⟩ => ⟨by rw [he, hcnt], hw.symm⟩)
          clear hcnt
          go_quiet (first | (go_at_call 10; exact Calls.quiet_of_same (HLEN.out _)))
          go_wp2
          go_roundw
          case rel => exact ⟨j + 1, (many + 1), L2, S2, by first | rfl | go_num, by go_num, by omega, HST.out, HQ4.out.below (below_drewN (Below.refl _ _) _), HC4.out.drewN _, below_drewN HB4.out _⟩
          case measure =>
            simp only [intOf]
            omega
        · skip
          have hzb : (sk == 0) = false := beq_eq_false_iff_ne.2 hz
          rw [if_neg hz] at HST
          go_wp2_with fail
          refine (N1.out _).mono ?_
          rintro e wa ⟨rfl, rfl⟩
          go_wp2_with fail
          refine (N2.out _).mono ?_
          rintro e wa ⟨rfl, rfl⟩
          go_wp2_with fail
          refine HP.out.mono ?_
          rintro e w2 ⟨rfl, hq2, hb2, hkp2⟩
          have HQ2 := Lib.hid hq2
          have HB2 := Lib.hid (HGS.out.trans hb2)
          have HC2 := Lib.hid (s_keep HCS.out hSl2 (fun v cs h => hkp2 _ v cs (by omega) h))
          clear hq2 hb2 hkp2 HP
          go_wp2_with fail
          refine (HGET.out _ HQ2.out).mono ?_
          rintro e w3 ⟨rfl, hb3⟩
          have hba : Below w3.heap.size w3 (w3.alloc (.cells (tk (k0 + 1) (1 + (p0 : Int))).cells.toArray 38)) := (Below.refl _ _).alloc (Nat.le_refl _) _
          have hta : Cel (w3.alloc (.cells (tk (k0 + 1) (1 + (p0 : Int))).cells.toArray 38)) w3.heap.size (tk (k0 + 1) (1 + (p0 : Int))).cells := Cel.lit w3 (tk (k0 + 1) (1 + (p0 : Int))).cells.toArray 38
          have h34 := hb3.trans (hba.mono hb3.size)
          have HQ4 := Lib.hid (HQ2.out.below h34)
          have HB4 := Lib.hid (HB2.out.trans (h34.mono HB2.out.size))
          have HC4 := Lib.hid (HC2.out.below h34 (Nat.le_refl _))
          unfold tk st T.cells at hta HQ4 HB4 HC4
          dsimp only at hta HQ4 HB4 HC4
          rw [show ((k0 + 1 : Nat) : Int) = (k0 : Int) + 1 by omega] at hta HQ4 HB4 HC4
          clear hb3 hba h34 HQ2 HB2 HC2 s1 sf s2 u1 u2
          go_upto_region 18 with (fail)
          generalize w3.alloc _ = w4 at *
          obtain ⟨⟨a0, a1, a2, a3, a4, a5, a6, a7, a8, a9, a10, a11⟩, _⟩ := Ls.dz_facts hta
          have b1 := (s_at HC4.out (k := k0 + 1) (by omega)).1
          have hS2k : S2[k0 + 1]! = 1 + (p0 : Int) := HS2.out
          rw [hS2k] at b1
          clear hS2k hta a0 a1 a2 a3 a4 a6 a7 a8 a9 a10 a11
          have hcnt := HST.out.cnt
          have HLEN : Hid (∀ nn : Nat, Calls Try.prog 10 #[.pointer (some ⟨w1.heap.size, 0, none⟩)] (w4.drewN nn) fun e w' => e = .returned (.int .i64 (many : Nat)) ∧ w' = w4.drewN nn) := fun nn => (qlen_at (w4.drewN nn) (HQ4.out.below (below_drewN (Below.refl _ _) nn))).mono (fun e w' ⟨he, hw⟩ => ⟨by rw [he, hcnt], hw.symm⟩)
          clear hcnt
          go_quiet (first | (go_at_call 10; exact Calls.quiet_of_same (HLEN.out _)))
          go_wp2
          go_roundw
          case rel => exact ⟨j + 1, many, L2, S2, by first | rfl | go_num, by go_num, by omega, HST.out, HQ4.out.below (below_drewN (Below.refl _ _) _), HC4.out.drewN _, below_drewN HB4.out _⟩
          case measure =>
            simp only [intOf]
            omega
      · obtain rfl : j = n1 := by omega
        have hlI : ¬ (j : Int) < (j : Int) := by omega
        have hcnt := HINV.out.cnt
        have hfew := HINV.out.few
        have P1 := Lib.hid (pickn_any 0 100 [st, st] wr HQR.out (by decide) (by decide) hLl #[.string ⟨#[116]⟩, .string ⟨#[116]⟩] rfl 2)
        clear HR1 HR2 HN
        go_wp2_with fail
        refine P1.out.mono ?_
        rintro e w2 ⟨⟨A, k, c, r, rfl, hpk, hrow, _⟩, hb2⟩
        have hrl : r.length = L.length := by
          have := hpk.len
          rw [HINV.out.cand] at this
          rw [this]
          show min 100 _ = _
          omega
        obtain ⟨ss, hss1, hss2, hss3⟩ := hpk
        rw [HINV.out.cand] at hss1
        have hrs : r = ss := by
          rw [hss3]
          refine List.take_of_length_le ?_
          rw [hss1.length_eq]
          show L.length ≤ 100
          omega
        subst hrs
        have hk : k = many := by rw [← hcnt, ← hrl, hrow.len (by decide)]
        subst hk
        have HROW := Lib.hid hrow
        have HPERM := Lib.hid hss1
        have HSORT := Lib.hid hss2
        have HQ2 := Lib.hid (HQR.out.below hb2)
        have HC2 := Lib.hid (HCR.out.below hb2 (Nat.le_refl _))
        have HB2 := Lib.hid (HBR.out.trans (hb2.mono hsr))
        have hrk : r.length = k := by rw [hrl, hcnt]
        clear hrow hss1 hss2 hss3 hb2 P1 HQR HCR HBR hcnt hrl
        go_wp2_with fail
        go_loopw [14] (fun s14 wx => ∃ (ii : Nat), s14 = .int .i64 ii ∧ ii ≤ k ∧ Below w2.heap.size w2 wx) (fun s14 _ => k - (intOf s14).toNat)
        case atStart => exact ⟨0, rfl, Nat.zero_le _, Below.refl _ _⟩
        case round =>
          obtain ⟨ii, rfl, hi, hbx⟩ := hrel
          have HBX := Lib.hid hbx
          have hi0 : (0 : Int) ≤ (ii : Int) := by omega
          clear hbx
          by_cases hlt2 : ii < k
          · have hiI : (ii : Int) < (k : Int) := by omega
            have hZ := (HROW.out.below HBX.out (Nat.le_refl _)).mono HBX.out.size
            obtain ⟨ba, oa, rfl, hbz2, _⟩ := hZ.2 (by omega)
            obtain ⟨t0, _, _, _, _, t5, _⟩ := t_at hZ hlt2
            obtain ⟨kk, hk1, hk2, hkx, hk3⟩ := HINV.out.mem (r[ii]!) (HPERM.out.mem_iff.1 (by rw [getElem!_pos r ii (by omega)]; exact List.getElem_mem _))
            have hgp := HINV.out.pos kk (by omega)
            have z1 := (s_at (HC2.out.below HBX.out (Nat.le_refl _)) (k := kk) (by omega)).1
            have hid : r[ii]!.id = (kk : Int) := by rw [hkx]; rfl
            have hpr : r[ii]!.prio = S[kk]! := by rw [hkx]; rfl
            rw [hid] at t0
            rw [hpr] at t5
            have hkk1 : ¬ (kk : Int) < 1 := by omega
            have hkk2 : ¬ (9 : Int) < (kk : Int) := by omega
            have hkk3 : (kk : Int) < 10 := by omega
            have hkk0 : (0 : Int) ≤ (kk : Int) := by omega
            have hsort := fun h0 => sorted_prio HSORT.out (j := ii) h0 (by omega)
            have hprev : 0 < ii → w2.heap.size = w2.heap.size ∧ wr.cell? ⟨ba, oa + (ii - 1) * 12 + 5, none⟩ = some (.int .i64 r[ii - 1]!.prio) := fun h0 => ⟨rfl, (t_at hZ (j := ii - 1) (by omega)).2.2.2.2.2.1⟩
            rw [hpr] at hsort
            generalize S[kk]! = s at *
            clear hkx hid hpr hZ hgp hk3
            have hbaw : ba < wr.heap.size := hbz2
            have hpw : w1.heap.size + 1 < wr.heap.size := (HC2.out.below HBX.out (Nat.le_refl _)).lt
            go_wp2_with fail
            by_cases hi1 : ii = 0
            · have hz0 : ¬ (0 : Int) < (ii : Int) := by omega
              have HZ0 := Lib.hid hz0
              clear hsort hprev hi1 hz0
              refine Rg.region_each (by kernel_rfl) (fun i => ([
                  (fun v _ => v = .slice (some ⟨ba, oa, none⟩) k c),
                  (fun v _ => v = .int .i64 (ii : Int)),
                  (fun v _ => v = .pointer (some ⟨ba, oa + ii * 12, none⟩)),
                  (fun v _ => v = .pointer (some ⟨ba, oa + ii * 12, none⟩)),
                  (fun v _ => v = .int .i64 (kk : Int)),
                  (fun v _ => v = .bool false),
                  (fun v _ => v = .bool false),
                  (fun v _ => v = .slice (some ⟨ba, oa, none⟩) k c),
                  (fun v _ => v = .int .i64 (ii : Int)),
                  (fun v _ => v = .pointer (some ⟨ba, oa + ii * 12, none⟩)),
                  (fun v _ => v = .pointer (some ⟨ba, oa + ii * 12, none⟩)),
                  (fun v _ => v = .int .i64 (kk : Int)),
                  (fun v _ => v = .bool false),
                  (fun v _ => v = .bool false),
                  (fun v _ => v = .bool false),
                  (fun v _ => v = .slice (some ⟨ba, oa, none⟩) k c),
                  (fun v _ => v = .int .i64 (ii : Int)),
                  (fun v _ => v = .pointer (some ⟨ba, oa + ii * 12, none⟩)),
                  (fun v _ => v = .pointer (some ⟨ba, oa + ii * 12 + 5, none⟩)),
                  (fun v _ => v = .int .i64 s),
                  (fun v _ => v = .slice (some ⟨w1.heap.size + 1, 0, none⟩) 10 10),
                  (fun v _ => v = .slice (some ⟨ba, oa, none⟩) k c),
                  (fun v _ => v = .int .i64 (ii : Int)),
                  (fun v _ => v = .pointer (some ⟨ba, oa + ii * 12, none⟩)),
                  (fun v _ => v = .pointer (some ⟨ba, oa + ii * 12, none⟩)),
                  (fun v _ => v = .int .i64 (kk : Int)),
                  (fun v _ => v = .pointer (some ⟨w1.heap.size + 1, kk, none⟩)),
                  (fun v _ => v = .int .i64 s),
                  (fun v _ => v = .bool false),
                  (fun v _ => v = .bool false),
                  (fun v _ => v = .bool false),
                  (fun v _ => v = .int .i64 (ii : Int)),
                  (fun v _ => v = .bool false),
                  (fun v _ => v = .bool false),
                  (fun v _ => v = undef),
                  (fun v _ => v = undef),
                  (fun v _ => v = undef),
                  (fun v _ => v = undef),
                  (fun v _ => v = undef),
                  (fun v _ => v = undef),
                  (fun v _ => v = undef),
                  (fun v _ => v = undef),
                  (fun v _ => v = undef),
                  (fun v _ => v = undef),
                  (fun v _ => v = undef),
                  (fun v _ => v = undef),
                  (fun v _ => v = .bool false),
                  (fun v _ => v = .bool false)
                  ] : List (Value → World → Prop)).getD i (fun _ _ => True)) (by kernel_rfl) ?mono (Rg.by_each _ ⟨?s0, ?s1, ?s2, ?s3, ?s4, ?s5, ?s6, ?s7, ?s8, ?s9, ?s10, ?s11, ?s12, ?s13, ?s14, ?s15, ?s16, ?s17, ?s18, ?s19, ?s20, ?s21, ?s22, ?s23, ?s24, ?s25, ?s26, ?s27, ?s28, ?s29, ?s30, ?s31, ?s32, ?s33, ?s34, ?s35, ?s36, ?s37, ?s38, ?s39, ?s40, ?s41, ?s42, ?s43, ?s44, ?s45, ?s46, ?s47, trivial⟩) ?fin
              case s0 =>
                intro a w' hp
                have e13 : a.eval (.tmp 13) = .slice (some ⟨ba, oa, none⟩) k c := hp.rest 13 (by rfl)
                exact Rg.step_run (v := a.eval (.tmp 13)) (w' := w') rfl (Rg.wanted_none rfl) (by simp) rfl e13 (Below.refl _ _)
              case s1 =>
                intro a w' hp
                have e14 : a.eval (.tmp 14) = .int .i64 (ii : Int) := hp.rest 14 (by rfl)
                exact Rg.step_run (v := a.eval (.tmp 14)) (w' := w') rfl (Rg.wanted_none rfl) (by simp) rfl e14 (Below.refl _ _)
              case s2 =>
                intro a w' hp
                have e101 : a.eval (.tmp 101) = .slice (some ⟨ba, oa, none⟩) k c := hp.at_ 0 (by rfl)
                have e102 : a.eval (.tmp 102) = .int .i64 (ii : Int) := hp.at_ 1 (by rfl)
                refine Rg.step_run (v := .pointer (some ⟨ba, oa + ii * 12, none⟩)) (w' := w') rfl (Rg.wanted_none rfl) (by simp) ?_ rfl (Below.refl _ _)
                clear hp
                obtain ⟨ec, eg, ef⟩ := Rg.eval_at a
                generalize a.eval = ρ at *
                go_simp
              case s3 =>
                intro a w' hp
                have e103 : a.eval (.tmp 103) = .pointer (some ⟨ba, oa + ii * 12, none⟩) := hp.at_ 2 (by rfl)
                refine Rg.step_run (v := .pointer (some ⟨ba, oa + ii * 12, none⟩)) (w' := w') rfl (Rg.wanted_none rfl) (by simp) ?_ rfl (Below.refl _ _)
                clear hp
                obtain ⟨ec, eg, ef⟩ := Rg.eval_at a
                generalize a.eval = ρ at *
                go_simp
              case s4 =>
                intro a w' hp
                have e104 : a.eval (.tmp 104) = .pointer (some ⟨ba, oa + ii * 12, none⟩) := hp.at_ 3 (by rfl)
                have tq := (hp.grew.cell (p := ⟨ba, oa + ii * 12, none⟩) hbaw).trans t0
                refine Rg.step_run (v := .int .i64 (kk : Int)) (w' := w') rfl (Rg.wanted_none rfl) (by simp) ?_ rfl (Below.refl _ _)
                clear hp
                obtain ⟨ec, eg, ef⟩ := Rg.eval_at a
                generalize a.eval = ρ at *
                go_simp
              case s5 =>
                intro a w' hp
                have e105 : a.eval (.tmp 105) = .int .i64 (kk : Int) := hp.at_ 4 (by rfl)
                refine Rg.step_run (v := .bool false) (w' := w') rfl (Rg.wanted_none rfl) (by simp) ?_ rfl (Below.refl _ _)
                clear hp
                obtain ⟨ec, eg, ef⟩ := Rg.eval_at a
                generalize a.eval = ρ at *
                go_simp
              case s6 =>
                intro a w' hp
                have e106 : a.eval (.tmp 106) = .bool false := hp.at_ 5 (by rfl)
                exact Rg.step_run (v := a.eval (.tmp 106)) (w' := w') rfl (Rg.wanted_none rfl) (by simp) rfl e106 (Below.refl _ _)
              case s7 =>
                intro a w' hp
                have e13 : a.eval (.tmp 13) = .slice (some ⟨ba, oa, none⟩) k c := hp.rest 13 (by rfl)
                exact Rg.step_run (v := a.eval (.tmp 13)) (w' := w') rfl (Rg.wanted_some (g := 6) (b := false) (d := 107) rfl (by rfl) (hp.at_ 6 (by rfl))) (by simp) rfl e13 (Below.refl _ _)
              case s8 =>
                intro a w' hp
                have e14 : a.eval (.tmp 14) = .int .i64 (ii : Int) := hp.rest 14 (by rfl)
                exact Rg.step_run (v := a.eval (.tmp 14)) (w' := w') rfl (Rg.wanted_some (g := 6) (b := false) (d := 107) rfl (by rfl) (hp.at_ 6 (by rfl))) (by simp) rfl e14 (Below.refl _ _)
              case s9 =>
                intro a w' hp
                have e108 : a.eval (.tmp 108) = .slice (some ⟨ba, oa, none⟩) k c := hp.at_ 7 (by rfl)
                have e109 : a.eval (.tmp 109) = .int .i64 (ii : Int) := hp.at_ 8 (by rfl)
                refine Rg.step_run (v := .pointer (some ⟨ba, oa + ii * 12, none⟩)) (w' := w') rfl (Rg.wanted_some (g := 6) (b := false) (d := 107) rfl (by rfl) (hp.at_ 6 (by rfl))) (by simp) ?_ rfl (Below.refl _ _)
                clear hp
                obtain ⟨ec, eg, ef⟩ := Rg.eval_at a
                generalize a.eval = ρ at *
                go_simp
              case s10 =>
                intro a w' hp
                have e110 : a.eval (.tmp 110) = .pointer (some ⟨ba, oa + ii * 12, none⟩) := hp.at_ 9 (by rfl)
                refine Rg.step_run (v := .pointer (some ⟨ba, oa + ii * 12, none⟩)) (w' := w') rfl (Rg.wanted_some (g := 6) (b := false) (d := 107) rfl (by rfl) (hp.at_ 6 (by rfl))) (by simp) ?_ rfl (Below.refl _ _)
                clear hp
                obtain ⟨ec, eg, ef⟩ := Rg.eval_at a
                generalize a.eval = ρ at *
                go_simp
              case s11 =>
                intro a w' hp
                have e111 : a.eval (.tmp 111) = .pointer (some ⟨ba, oa + ii * 12, none⟩) := hp.at_ 10 (by rfl)
                have tq := (hp.grew.cell (p := ⟨ba, oa + ii * 12, none⟩) hbaw).trans t0
                refine Rg.step_run (v := .int .i64 (kk : Int)) (w' := w') rfl (Rg.wanted_some (g := 6) (b := false) (d := 107) rfl (by rfl) (hp.at_ 6 (by rfl))) (by simp) ?_ rfl (Below.refl _ _)
                clear hp
                obtain ⟨ec, eg, ef⟩ := Rg.eval_at a
                generalize a.eval = ρ at *
                go_simp
              case s12 =>
                intro a w' hp
                have e112 : a.eval (.tmp 112) = .int .i64 (kk : Int) := hp.at_ 11 (by rfl)
                refine Rg.step_run (v := .bool false) (w' := w') rfl (Rg.wanted_some (g := 6) (b := false) (d := 107) rfl (by rfl) (hp.at_ 6 (by rfl))) (by simp) ?_ rfl (Below.refl _ _)
                clear hp
                obtain ⟨ec, eg, ef⟩ := Rg.eval_at a
                generalize a.eval = ρ at *
                go_simp
              case s13 =>
                intro a w' hp
                have e107 : a.eval (.tmp 107) = .bool false := hp.at_ 6 (by rfl)
                have e113 : a.eval (.tmp 113) = .bool false := hp.at_ 12 (by rfl)
                refine Rg.step_run (v := .bool false) (w' := w') rfl (Rg.wanted_none rfl) (by simp) ?_ rfl (Below.refl _ _)
                clear hp
                obtain ⟨ec, eg, ef⟩ := Rg.eval_at a
                generalize a.eval = ρ at *
                go_simp
              case s14 =>
                intro a w' hp
                have e114 : a.eval (.tmp 114) = .bool false := hp.at_ 13 (by rfl)
                exact Rg.step_run (v := a.eval (.tmp 114)) (w' := w') rfl (Rg.wanted_none rfl) (by simp) rfl e114 (Below.refl _ _)
              case s15 =>
                intro a w' hp
                have e13 : a.eval (.tmp 13) = .slice (some ⟨ba, oa, none⟩) k c := hp.rest 13 (by rfl)
                exact Rg.step_run (v := a.eval (.tmp 13)) (w' := w') rfl (Rg.wanted_some (g := 14) (b := false) (d := 115) rfl (by rfl) (hp.at_ 14 (by rfl))) (by simp) rfl e13 (Below.refl _ _)
              case s16 =>
                intro a w' hp
                have e14 : a.eval (.tmp 14) = .int .i64 (ii : Int) := hp.rest 14 (by rfl)
                exact Rg.step_run (v := a.eval (.tmp 14)) (w' := w') rfl (Rg.wanted_some (g := 14) (b := false) (d := 115) rfl (by rfl) (hp.at_ 14 (by rfl))) (by simp) rfl e14 (Below.refl _ _)
              case s17 =>
                intro a w' hp
                have e116 : a.eval (.tmp 116) = .slice (some ⟨ba, oa, none⟩) k c := hp.at_ 15 (by rfl)
                have e117 : a.eval (.tmp 117) = .int .i64 (ii : Int) := hp.at_ 16 (by rfl)
                refine Rg.step_run (v := .pointer (some ⟨ba, oa + ii * 12, none⟩)) (w' := w') rfl (Rg.wanted_some (g := 14) (b := false) (d := 115) rfl (by rfl) (hp.at_ 14 (by rfl))) (by simp) ?_ rfl (Below.refl _ _)
                clear hp
                obtain ⟨ec, eg, ef⟩ := Rg.eval_at a
                generalize a.eval = ρ at *
                go_simp
              case s18 =>
                intro a w' hp
                have e118 : a.eval (.tmp 118) = .pointer (some ⟨ba, oa + ii * 12, none⟩) := hp.at_ 17 (by rfl)
                refine Rg.step_run (v := .pointer (some ⟨ba, oa + ii * 12 + 5, none⟩)) (w' := w') rfl (Rg.wanted_some (g := 14) (b := false) (d := 115) rfl (by rfl) (hp.at_ 14 (by rfl))) (by simp) ?_ rfl (Below.refl _ _)
                clear hp
                obtain ⟨ec, eg, ef⟩ := Rg.eval_at a
                generalize a.eval = ρ at *
                go_simp
              case s19 =>
                intro a w' hp
                have e119 : a.eval (.tmp 119) = .pointer (some ⟨ba, oa + ii * 12 + 5, none⟩) := hp.at_ 18 (by rfl)
                have tq := (hp.grew.cell (p := ⟨ba, oa + ii * 12 + 5, none⟩) hbaw).trans t5
                refine Rg.step_run (v := .int .i64 s) (w' := w') rfl (Rg.wanted_some (g := 14) (b := false) (d := 115) rfl (by rfl) (hp.at_ 14 (by rfl))) (by simp) ?_ rfl (Below.refl _ _)
                clear hp
                obtain ⟨ec, eg, ef⟩ := Rg.eval_at a
                generalize a.eval = ρ at *
                go_simp
              case s20 =>
                intro a w' hp
                have e7 : a.eval (.tmp 7) = .slice (some ⟨w1.heap.size + 1, 0, none⟩) 10 10 := hp.rest 7 (by rfl)
                exact Rg.step_run (v := a.eval (.tmp 7)) (w' := w') rfl (Rg.wanted_some (g := 14) (b := false) (d := 115) rfl (by rfl) (hp.at_ 14 (by rfl))) (by simp) rfl e7 (Below.refl _ _)
              case s21 =>
                intro a w' hp
                have e13 : a.eval (.tmp 13) = .slice (some ⟨ba, oa, none⟩) k c := hp.rest 13 (by rfl)
                exact Rg.step_run (v := a.eval (.tmp 13)) (w' := w') rfl (Rg.wanted_some (g := 14) (b := false) (d := 115) rfl (by rfl) (hp.at_ 14 (by rfl))) (by simp) rfl e13 (Below.refl _ _)
              case s22 =>
                intro a w' hp
                have e14 : a.eval (.tmp 14) = .int .i64 (ii : Int) := hp.rest 14 (by rfl)
                exact Rg.step_run (v := a.eval (.tmp 14)) (w' := w') rfl (Rg.wanted_some (g := 14) (b := false) (d := 115) rfl (by rfl) (hp.at_ 14 (by rfl))) (by simp) rfl e14 (Below.refl _ _)
              case s23 =>
                intro a w' hp
                have e122 : a.eval (.tmp 122) = .slice (some ⟨ba, oa, none⟩) k c := hp.at_ 21 (by rfl)
                have e123 : a.eval (.tmp 123) = .int .i64 (ii : Int) := hp.at_ 22 (by rfl)
                refine Rg.step_run (v := .pointer (some ⟨ba, oa + ii * 12, none⟩)) (w' := w') rfl (Rg.wanted_some (g := 14) (b := false) (d := 115) rfl (by rfl) (hp.at_ 14 (by rfl))) (by simp) ?_ rfl (Below.refl _ _)
                clear hp
                obtain ⟨ec, eg, ef⟩ := Rg.eval_at a
                generalize a.eval = ρ at *
                go_simp
              case s24 =>
                intro a w' hp
                have e124 : a.eval (.tmp 124) = .pointer (some ⟨ba, oa + ii * 12, none⟩) := hp.at_ 23 (by rfl)
                refine Rg.step_run (v := .pointer (some ⟨ba, oa + ii * 12, none⟩)) (w' := w') rfl (Rg.wanted_some (g := 14) (b := false) (d := 115) rfl (by rfl) (hp.at_ 14 (by rfl))) (by simp) ?_ rfl (Below.refl _ _)
                clear hp
                obtain ⟨ec, eg, ef⟩ := Rg.eval_at a
                generalize a.eval = ρ at *
                go_simp
              case s25 =>
                intro a w' hp
                have e125 : a.eval (.tmp 125) = .pointer (some ⟨ba, oa + ii * 12, none⟩) := hp.at_ 24 (by rfl)
                have tq := (hp.grew.cell (p := ⟨ba, oa + ii * 12, none⟩) hbaw).trans t0
                refine Rg.step_run (v := .int .i64 (kk : Int)) (w' := w') rfl (Rg.wanted_some (g := 14) (b := false) (d := 115) rfl (by rfl) (hp.at_ 14 (by rfl))) (by simp) ?_ rfl (Below.refl _ _)
                clear hp
                obtain ⟨ec, eg, ef⟩ := Rg.eval_at a
                generalize a.eval = ρ at *
                go_simp
              case s26 =>
                intro a w' hp
                have e121 : a.eval (.tmp 121) = .slice (some ⟨w1.heap.size + 1, 0, none⟩) 10 10 := hp.at_ 20 (by rfl)
                have e126 : a.eval (.tmp 126) = .int .i64 (kk : Int) := hp.at_ 25 (by rfl)
                refine Rg.step_run (v := .pointer (some ⟨w1.heap.size + 1, kk, none⟩)) (w' := w') rfl (Rg.wanted_some (g := 14) (b := false) (d := 115) rfl (by rfl) (hp.at_ 14 (by rfl))) (by simp) ?_ rfl (Below.refl _ _)
                clear hp
                obtain ⟨ec, eg, ef⟩ := Rg.eval_at a
                generalize a.eval = ρ at *
                go_simp
              case s27 =>
                intro a w' hp
                have e127 : a.eval (.tmp 127) = .pointer (some ⟨w1.heap.size + 1, kk, none⟩) := hp.at_ 26 (by rfl)
                have tq := (hp.grew.cell (p := ⟨w1.heap.size + 1, kk, none⟩) hpw).trans z1
                refine Rg.step_run (v := .int .i64 s) (w' := w') rfl (Rg.wanted_some (g := 14) (b := false) (d := 115) rfl (by rfl) (hp.at_ 14 (by rfl))) (by simp) ?_ rfl (Below.refl _ _)
                clear hp
                obtain ⟨ec, eg, ef⟩ := Rg.eval_at a
                generalize a.eval = ρ at *
                go_simp
              case s28 =>
                intro a w' hp
                have e120 : a.eval (.tmp 120) = .int .i64 s := hp.at_ 19 (by rfl)
                have e128 : a.eval (.tmp 128) = .int .i64 s := hp.at_ 27 (by rfl)
                refine Rg.step_run (v := .bool false) (w' := w') rfl (Rg.wanted_some (g := 14) (b := false) (d := 115) rfl (by rfl) (hp.at_ 14 (by rfl))) (by simp) ?_ rfl (Below.refl _ _)
                clear hp
                obtain ⟨ec, eg, ef⟩ := Rg.eval_at a
                generalize a.eval = ρ at *
                go_simp
              case s29 =>
                intro a w' hp
                have e115 : a.eval (.tmp 115) = .bool false := hp.at_ 14 (by rfl)
                have e129 : a.eval (.tmp 129) = .bool false := hp.at_ 28 (by rfl)
                refine Rg.step_run (v := .bool false) (w' := w') rfl (Rg.wanted_none rfl) (by simp) ?_ rfl (Below.refl _ _)
                clear hp
                obtain ⟨ec, eg, ef⟩ := Rg.eval_at a
                generalize a.eval = ρ at *
                go_simp
              case s30 =>
                intro a w' hp
                have e130 : a.eval (.tmp 130) = .bool false := hp.at_ 29 (by rfl)
                exact Rg.step_run (v := a.eval (.tmp 130)) (w' := w') rfl (Rg.wanted_none rfl) (by simp) rfl e130 (Below.refl _ _)
              case s31 =>
                intro a w' hp
                have e14 : a.eval (.tmp 14) = .int .i64 (ii : Int) := hp.rest 14 (by rfl)
                exact Rg.step_run (v := a.eval (.tmp 14)) (w' := w') rfl (Rg.wanted_some (g := 30) (b := false) (d := 131) rfl (by rfl) (hp.at_ 30 (by rfl))) (by simp) rfl e14 (Below.refl _ _)
              case s32 =>
                intro a w' hp
                have e132 : a.eval (.tmp 132) = .int .i64 (ii : Int) := hp.at_ 31 (by rfl)
                have hz0 := HZ0.out
                refine Rg.step_run (v := .bool false) (w' := w') rfl (Rg.wanted_some (g := 30) (b := false) (d := 131) rfl (by rfl) (hp.at_ 30 (by rfl))) (by simp) ?_ rfl (Below.refl _ _)
                clear hp
                obtain ⟨ec, eg, ef⟩ := Rg.eval_at a
                generalize a.eval = ρ at *
                go_simp
                omega
              case s33 =>
                intro a w' hp
                have e133 : a.eval (.tmp 133) = .bool false := hp.at_ 32 (by rfl)
                exact Rg.step_run (v := a.eval (.tmp 133)) (w' := w') rfl (Rg.wanted_some (g := 30) (b := false) (d := 131) rfl (by rfl) (hp.at_ 30 (by rfl))) (by simp) rfl e133 (Below.refl _ _)
              case s34 =>
                intro a w' hp
                have e13 : a.eval (.tmp 13) = .slice (some ⟨ba, oa, none⟩) k c := hp.rest 13 (by rfl)
                exact Rg.step_skip rfl (Rg.wanted_not rfl (by rfl) (hp.at_ 33 (by rfl))) rfl
              case s35 =>
                intro a w' hp
                have e14 : a.eval (.tmp 14) = .int .i64 (ii : Int) := hp.rest 14 (by rfl)
                exact Rg.step_skip rfl (Rg.wanted_not rfl (by rfl) (hp.at_ 33 (by rfl))) rfl
              case s36 =>
                intro a w' hp
                have e135 : a.eval (.tmp 135) = undef := hp.at_ 34 (by rfl)
                have e136 : a.eval (.tmp 136) = undef := hp.at_ 35 (by rfl)
                exact Rg.step_skip rfl (Rg.wanted_not rfl (by rfl) (hp.at_ 33 (by rfl))) rfl
              case s37 =>
                intro a w' hp
                have e137 : a.eval (.tmp 137) = undef := hp.at_ 36 (by rfl)
                exact Rg.step_skip rfl (Rg.wanted_not rfl (by rfl) (hp.at_ 33 (by rfl))) rfl
              case s38 =>
                intro a w' hp
                have e138 : a.eval (.tmp 138) = undef := hp.at_ 37 (by rfl)
                exact Rg.step_skip rfl (Rg.wanted_not rfl (by rfl) (hp.at_ 33 (by rfl))) rfl
              case s39 =>
                intro a w' hp
                have e13 : a.eval (.tmp 13) = .slice (some ⟨ba, oa, none⟩) k c := hp.rest 13 (by rfl)
                exact Rg.step_skip rfl (Rg.wanted_not rfl (by rfl) (hp.at_ 33 (by rfl))) rfl
              case s40 =>
                intro a w' hp
                have e14 : a.eval (.tmp 14) = .int .i64 (ii : Int) := hp.rest 14 (by rfl)
                exact Rg.step_skip rfl (Rg.wanted_not rfl (by rfl) (hp.at_ 33 (by rfl))) rfl
              case s41 =>
                intro a w' hp
                have e141 : a.eval (.tmp 141) = undef := hp.at_ 40 (by rfl)
                exact Rg.step_skip rfl (Rg.wanted_not rfl (by rfl) (hp.at_ 33 (by rfl))) rfl
              case s42 =>
                intro a w' hp
                have e140 : a.eval (.tmp 140) = undef := hp.at_ 39 (by rfl)
                have e142 : a.eval (.tmp 142) = undef := hp.at_ 41 (by rfl)
                exact Rg.step_skip rfl (Rg.wanted_not rfl (by rfl) (hp.at_ 33 (by rfl))) rfl
              case s43 =>
                intro a w' hp
                have e143 : a.eval (.tmp 143) = undef := hp.at_ 42 (by rfl)
                exact Rg.step_skip rfl (Rg.wanted_not rfl (by rfl) (hp.at_ 33 (by rfl))) rfl
              case s44 =>
                intro a w' hp
                have e144 : a.eval (.tmp 144) = undef := hp.at_ 43 (by rfl)
                exact Rg.step_skip rfl (Rg.wanted_not rfl (by rfl) (hp.at_ 33 (by rfl))) rfl
              case s45 =>
                intro a w' hp
                have e139 : a.eval (.tmp 139) = undef := hp.at_ 38 (by rfl)
                have e145 : a.eval (.tmp 145) = undef := hp.at_ 44 (by rfl)
                exact Rg.step_skip rfl (Rg.wanted_not rfl (by rfl) (hp.at_ 33 (by rfl))) rfl
              case s46 =>
                intro a w' hp
                have e134 : a.eval (.tmp 134) = .bool false := hp.at_ 33 (by rfl)
                have e146 : a.eval (.tmp 146) = undef := hp.at_ 45 (by rfl)
                refine Rg.step_run (v := .bool false) (w' := w') rfl (Rg.wanted_some (g := 30) (b := false) (d := 131) rfl (by rfl) (hp.at_ 30 (by rfl))) (by simp) ?_ rfl (Below.refl _ _)
                clear hp
                obtain ⟨ec, eg, ef⟩ := Rg.eval_at a
                generalize a.eval = ρ at *
                go_simp
              case s47 =>
                intro a w' hp
                have e131 : a.eval (.tmp 131) = .bool false := hp.at_ 30 (by rfl)
                have e147 : a.eval (.tmp 147) = .bool false := hp.at_ 46 (by rfl)
                refine Rg.step_run (v := .bool false) (w' := w') rfl (Rg.wanted_none rfl) (by simp) ?_ rfl (Below.refl _ _)
                clear hp
                obtain ⟨ec, eg, ef⟩ := Rg.eval_at a
                generalize a.eval = ρ at *
                go_simp
              case mono =>
                refine Rg.mono_getD _ ?_
                intro p hp
                repeat (rcases List.mem_cons.1 hp with rfl | hp; exact Rg.mono_eq _)
                cases hp
              case fin =>
                intro a w' hsz hdf hrest hdone hbf
                have hv : a.tmps.getD 148 undef = .bool false := hdone 47 (by decide)
                have ha := Rg.act_puts hsz hdf hrest [101, 102, 103, 104, 105, 106, 107, 108, 109, 110, 111, 112, 113, 114, 115, 116, 117, 118, 119, 120, 121, 122, 123, 124, 125, 126, 127, 128, 129, 130, 131, 132, 133, 134, 135, 136, 137, 138, 139, 140, 141, 142, 143, 144, 145, 146, 147, 148] (by kernel_rfl)
                simp only [List.foldl_cons, List.foldl_nil, Act.put, List.setIfInBounds_toArray, List.set_cons_zero, List.set_cons_succ] at ha
                rw [hv] at ha
                clear hsz hdf hrest hdone hv
                rw [ha]
                clear ha
                go_wp2
                go_roundw
                case rel => exact ⟨ii + 1, by first | rfl | go_num, by omega, HBX.out.trans (hbf.mono HBX.out.size)⟩
                case measure =>
                  simp only [intOf]
                  omega
            · have hz0 : (0 : Int) < (ii : Int) := by omega
              obtain ⟨_, t5p⟩ := hprev (by omega)
              have hs2 := hsort (by omega)
              have hi3 : ((ii : Int) - 1).toNat = ii - 1 := by omega
              have hi4 : (0 : Int) ≤ (ii : Int) - 1 := by omega
              have hi5 : (ii : Int) - 1 < (k : Int) := by omega
              have h0n : 0 < ii := by omega
              generalize r[ii - 1]!.prio = pp at *
              clear hsort hprev
              refine Rg.region_each (by kernel_rfl) (fun i => ([
                  (fun v _ => v = .slice (some ⟨ba, oa, none⟩) k c),
                  (fun v _ => v = .int .i64 (ii : Int)),
                  (fun v _ => v = .pointer (some ⟨ba, oa + ii * 12, none⟩)),
                  (fun v _ => v = .pointer (some ⟨ba, oa + ii * 12, none⟩)),
                  (fun v _ => v = .int .i64 (kk : Int)),
                  (fun v _ => v = .bool false),
                  (fun v _ => v = .bool false),
                  (fun v _ => v = .slice (some ⟨ba, oa, none⟩) k c),
                  (fun v _ => v = .int .i64 (ii : Int)),
                  (fun v _ => v = .pointer (some ⟨ba, oa + ii * 12, none⟩)),
                  (fun v _ => v = .pointer (some ⟨ba, oa + ii * 12, none⟩)),
                  (fun v _ => v = .int .i64 (kk : Int)),
                  (fun v _ => v = .bool false),
                  (fun v _ => v = .bool false),
                  (fun v _ => v = .bool false),
                  (fun v _ => v = .slice (some ⟨ba, oa, none⟩) k c),
                  (fun v _ => v = .int .i64 (ii : Int)),
                  (fun v _ => v = .pointer (some ⟨ba, oa + ii * 12, none⟩)),
                  (fun v _ => v = .pointer (some ⟨ba, oa + ii * 12 + 5, none⟩)),
                  (fun v _ => v = .int .i64 s),
                  (fun v _ => v = .slice (some ⟨w1.heap.size + 1, 0, none⟩) 10 10),
                  (fun v _ => v = .slice (some ⟨ba, oa, none⟩) k c),
                  (fun v _ => v = .int .i64 (ii : Int)),
                  (fun v _ => v = .pointer (some ⟨ba, oa + ii * 12, none⟩)),
                  (fun v _ => v = .pointer (some ⟨ba, oa + ii * 12, none⟩)),
                  (fun v _ => v = .int .i64 (kk : Int)),
                  (fun v _ => v = .pointer (some ⟨w1.heap.size + 1, kk, none⟩)),
                  (fun v _ => v = .int .i64 s),
                  (fun v _ => v = .bool false),
                  (fun v _ => v = .bool false),
                  (fun v _ => v = .bool false),
                  (fun v _ => v = .int .i64 (ii : Int)),
                  (fun v _ => v = .bool true),
                  (fun v _ => v = .bool true),
                  (fun v _ => v = .slice (some ⟨ba, oa, none⟩) k c),
                  (fun v _ => v = .int .i64 (ii : Int)),
                  (fun v _ => v = .pointer (some ⟨ba, oa + ii * 12, none⟩)),
                  (fun v _ => v = .pointer (some ⟨ba, oa + ii * 12 + 5, none⟩)),
                  (fun v _ => v = .int .i64 s),
                  (fun v _ => v = .slice (some ⟨ba, oa, none⟩) k c),
                  (fun v _ => v = .int .i64 (ii : Int)),
                  (fun v _ => v = .int .i64 ((ii : Int) - 1)),
                  (fun v _ => v = .pointer (some ⟨ba, oa + (ii - 1) * 12, none⟩)),
                  (fun v _ => v = .pointer (some ⟨ba, oa + (ii - 1) * 12 + 5, none⟩)),
                  (fun v _ => v = .int .i64 pp),
                  (fun v _ => v = .bool false),
                  (fun v _ => v = .bool false),
                  (fun v _ => v = .bool false)
                  ] : List (Value → World → Prop)).getD i (fun _ _ => True)) (by kernel_rfl) ?mono (Rg.by_each _ ⟨?s0, ?s1, ?s2, ?s3, ?s4, ?s5, ?s6, ?s7, ?s8, ?s9, ?s10, ?s11, ?s12, ?s13, ?s14, ?s15, ?s16, ?s17, ?s18, ?s19, ?s20, ?s21, ?s22, ?s23, ?s24, ?s25, ?s26, ?s27, ?s28, ?s29, ?s30, ?s31, ?s32, ?s33, ?s34, ?s35, ?s36, ?s37, ?s38, ?s39, ?s40, ?s41, ?s42, ?s43, ?s44, ?s45, ?s46, ?s47, trivial⟩) ?fin
              case s0 =>
                intro a w' hp
                have e13 : a.eval (.tmp 13) = .slice (some ⟨ba, oa, none⟩) k c := hp.rest 13 (by rfl)
                exact Rg.step_run (v := a.eval (.tmp 13)) (w' := w') rfl (Rg.wanted_none rfl) (by simp) rfl e13 (Below.refl _ _)
              case s1 =>
                intro a w' hp
                have e14 : a.eval (.tmp 14) = .int .i64 (ii : Int) := hp.rest 14 (by rfl)
                exact Rg.step_run (v := a.eval (.tmp 14)) (w' := w') rfl (Rg.wanted_none rfl) (by simp) rfl e14 (Below.refl _ _)
              case s2 =>
                intro a w' hp
                have e101 : a.eval (.tmp 101) = .slice (some ⟨ba, oa, none⟩) k c := hp.at_ 0 (by rfl)
                have e102 : a.eval (.tmp 102) = .int .i64 (ii : Int) := hp.at_ 1 (by rfl)
                refine Rg.step_run (v := .pointer (some ⟨ba, oa + ii * 12, none⟩)) (w' := w') rfl (Rg.wanted_none rfl) (by simp) ?_ rfl (Below.refl _ _)
                clear hp
                obtain ⟨ec, eg, ef⟩ := Rg.eval_at a
                generalize a.eval = ρ at *
                go_simp
              case s3 =>
                intro a w' hp
                have e103 : a.eval (.tmp 103) = .pointer (some ⟨ba, oa + ii * 12, none⟩) := hp.at_ 2 (by rfl)
                refine Rg.step_run (v := .pointer (some ⟨ba, oa + ii * 12, none⟩)) (w' := w') rfl (Rg.wanted_none rfl) (by simp) ?_ rfl (Below.refl _ _)
                clear hp
                obtain ⟨ec, eg, ef⟩ := Rg.eval_at a
                generalize a.eval = ρ at *
                go_simp
              case s4 =>
                intro a w' hp
                have e104 : a.eval (.tmp 104) = .pointer (some ⟨ba, oa + ii * 12, none⟩) := hp.at_ 3 (by rfl)
                have tq := (hp.grew.cell (p := ⟨ba, oa + ii * 12, none⟩) hbaw).trans t0
                refine Rg.step_run (v := .int .i64 (kk : Int)) (w' := w') rfl (Rg.wanted_none rfl) (by simp) ?_ rfl (Below.refl _ _)
                clear hp
                obtain ⟨ec, eg, ef⟩ := Rg.eval_at a
                generalize a.eval = ρ at *
                go_simp
              case s5 =>
                intro a w' hp
                have e105 : a.eval (.tmp 105) = .int .i64 (kk : Int) := hp.at_ 4 (by rfl)
                refine Rg.step_run (v := .bool false) (w' := w') rfl (Rg.wanted_none rfl) (by simp) ?_ rfl (Below.refl _ _)
                clear hp
                obtain ⟨ec, eg, ef⟩ := Rg.eval_at a
                generalize a.eval = ρ at *
                go_simp
              case s6 =>
                intro a w' hp
                have e106 : a.eval (.tmp 106) = .bool false := hp.at_ 5 (by rfl)
                exact Rg.step_run (v := a.eval (.tmp 106)) (w' := w') rfl (Rg.wanted_none rfl) (by simp) rfl e106 (Below.refl _ _)
              case s7 =>
                intro a w' hp
                have e13 : a.eval (.tmp 13) = .slice (some ⟨ba, oa, none⟩) k c := hp.rest 13 (by rfl)
                exact Rg.step_run (v := a.eval (.tmp 13)) (w' := w') rfl (Rg.wanted_some (g := 6) (b := false) (d := 107) rfl (by rfl) (hp.at_ 6 (by rfl))) (by simp) rfl e13 (Below.refl _ _)
              case s8 =>
                intro a w' hp
                have e14 : a.eval (.tmp 14) = .int .i64 (ii : Int) := hp.rest 14 (by rfl)
                exact Rg.step_run (v := a.eval (.tmp 14)) (w' := w') rfl (Rg.wanted_some (g := 6) (b := false) (d := 107) rfl (by rfl) (hp.at_ 6 (by rfl))) (by simp) rfl e14 (Below.refl _ _)
              case s9 =>
                intro a w' hp
                have e108 : a.eval (.tmp 108) = .slice (some ⟨ba, oa, none⟩) k c := hp.at_ 7 (by rfl)
                have e109 : a.eval (.tmp 109) = .int .i64 (ii : Int) := hp.at_ 8 (by rfl)
                refine Rg.step_run (v := .pointer (some ⟨ba, oa + ii * 12, none⟩)) (w' := w') rfl (Rg.wanted_some (g := 6) (b := false) (d := 107) rfl (by rfl) (hp.at_ 6 (by rfl))) (by simp) ?_ rfl (Below.refl _ _)
                clear hp
                obtain ⟨ec, eg, ef⟩ := Rg.eval_at a
                generalize a.eval = ρ at *
                go_simp
              case s10 =>
                intro a w' hp
                have e110 : a.eval (.tmp 110) = .pointer (some ⟨ba, oa + ii * 12, none⟩) := hp.at_ 9 (by rfl)
                refine Rg.step_run (v := .pointer (some ⟨ba, oa + ii * 12, none⟩)) (w' := w') rfl (Rg.wanted_some (g := 6) (b := false) (d := 107) rfl (by rfl) (hp.at_ 6 (by rfl))) (by simp) ?_ rfl (Below.refl _ _)
                clear hp
                obtain ⟨ec, eg, ef⟩ := Rg.eval_at a
                generalize a.eval = ρ at *
                go_simp
              case s11 =>
                intro a w' hp
                have e111 : a.eval (.tmp 111) = .pointer (some ⟨ba, oa + ii * 12, none⟩) := hp.at_ 10 (by rfl)
                have tq := (hp.grew.cell (p := ⟨ba, oa + ii * 12, none⟩) hbaw).trans t0
                refine Rg.step_run (v := .int .i64 (kk : Int)) (w' := w') rfl (Rg.wanted_some (g := 6) (b := false) (d := 107) rfl (by rfl) (hp.at_ 6 (by rfl))) (by simp) ?_ rfl (Below.refl _ _)
                clear hp
                obtain ⟨ec, eg, ef⟩ := Rg.eval_at a
                generalize a.eval = ρ at *
                go_simp
              case s12 =>
                intro a w' hp
                have e112 : a.eval (.tmp 112) = .int .i64 (kk : Int) := hp.at_ 11 (by rfl)
                refine Rg.step_run (v := .bool false) (w' := w') rfl (Rg.wanted_some (g := 6) (b := false) (d := 107) rfl (by rfl) (hp.at_ 6 (by rfl))) (by simp) ?_ rfl (Below.refl _ _)
                clear hp
                obtain ⟨ec, eg, ef⟩ := Rg.eval_at a
                generalize a.eval = ρ at *
                go_simp
              case s13 =>
                intro a w' hp
                have e107 : a.eval (.tmp 107) = .bool false := hp.at_ 6 (by rfl)
                have e113 : a.eval (.tmp 113) = .bool false := hp.at_ 12 (by rfl)
                refine Rg.step_run (v := .bool false) (w' := w') rfl (Rg.wanted_none rfl) (by simp) ?_ rfl (Below.refl _ _)
                clear hp
                obtain ⟨ec, eg, ef⟩ := Rg.eval_at a
                generalize a.eval = ρ at *
                go_simp
              case s14 =>
                intro a w' hp
                have e114 : a.eval (.tmp 114) = .bool false := hp.at_ 13 (by rfl)
                exact Rg.step_run (v := a.eval (.tmp 114)) (w' := w') rfl (Rg.wanted_none rfl) (by simp) rfl e114 (Below.refl _ _)
              case s15 =>
                intro a w' hp
                have e13 : a.eval (.tmp 13) = .slice (some ⟨ba, oa, none⟩) k c := hp.rest 13 (by rfl)
                exact Rg.step_run (v := a.eval (.tmp 13)) (w' := w') rfl (Rg.wanted_some (g := 14) (b := false) (d := 115) rfl (by rfl) (hp.at_ 14 (by rfl))) (by simp) rfl e13 (Below.refl _ _)
              case s16 =>
                intro a w' hp
                have e14 : a.eval (.tmp 14) = .int .i64 (ii : Int) := hp.rest 14 (by rfl)
                exact Rg.step_run (v := a.eval (.tmp 14)) (w' := w') rfl (Rg.wanted_some (g := 14) (b := false) (d := 115) rfl (by rfl) (hp.at_ 14 (by rfl))) (by simp) rfl e14 (Below.refl _ _)
              case s17 =>
                intro a w' hp
                have e116 : a.eval (.tmp 116) = .slice (some ⟨ba, oa, none⟩) k c := hp.at_ 15 (by rfl)
                have e117 : a.eval (.tmp 117) = .int .i64 (ii : Int) := hp.at_ 16 (by rfl)
                refine Rg.step_run (v := .pointer (some ⟨ba, oa + ii * 12, none⟩)) (w' := w') rfl (Rg.wanted_some (g := 14) (b := false) (d := 115) rfl (by rfl) (hp.at_ 14 (by rfl))) (by simp) ?_ rfl (Below.refl _ _)
                clear hp
                obtain ⟨ec, eg, ef⟩ := Rg.eval_at a
                generalize a.eval = ρ at *
                go_simp
              case s18 =>
                intro a w' hp
                have e118 : a.eval (.tmp 118) = .pointer (some ⟨ba, oa + ii * 12, none⟩) := hp.at_ 17 (by rfl)
                refine Rg.step_run (v := .pointer (some ⟨ba, oa + ii * 12 + 5, none⟩)) (w' := w') rfl (Rg.wanted_some (g := 14) (b := false) (d := 115) rfl (by rfl) (hp.at_ 14 (by rfl))) (by simp) ?_ rfl (Below.refl _ _)
                clear hp
                obtain ⟨ec, eg, ef⟩ := Rg.eval_at a
                generalize a.eval = ρ at *
                go_simp
              case s19 =>
                intro a w' hp
                have e119 : a.eval (.tmp 119) = .pointer (some ⟨ba, oa + ii * 12 + 5, none⟩) := hp.at_ 18 (by rfl)
                have tq := (hp.grew.cell (p := ⟨ba, oa + ii * 12 + 5, none⟩) hbaw).trans t5
                refine Rg.step_run (v := .int .i64 s) (w' := w') rfl (Rg.wanted_some (g := 14) (b := false) (d := 115) rfl (by rfl) (hp.at_ 14 (by rfl))) (by simp) ?_ rfl (Below.refl _ _)
                clear hp
                obtain ⟨ec, eg, ef⟩ := Rg.eval_at a
                generalize a.eval = ρ at *
                go_simp
              case s20 =>
                intro a w' hp
                have e7 : a.eval (.tmp 7) = .slice (some ⟨w1.heap.size + 1, 0, none⟩) 10 10 := hp.rest 7 (by rfl)
                exact Rg.step_run (v := a.eval (.tmp 7)) (w' := w') rfl (Rg.wanted_some (g := 14) (b := false) (d := 115) rfl (by rfl) (hp.at_ 14 (by rfl))) (by simp) rfl e7 (Below.refl _ _)
              case s21 =>
                intro a w' hp
                have e13 : a.eval (.tmp 13) = .slice (some ⟨ba, oa, none⟩) k c := hp.rest 13 (by rfl)
                exact Rg.step_run (v := a.eval (.tmp 13)) (w' := w') rfl (Rg.wanted_some (g := 14) (b := false) (d := 115) rfl (by rfl) (hp.at_ 14 (by rfl))) (by simp) rfl e13 (Below.refl _ _)
              case s22 =>
                intro a w' hp
                have e14 : a.eval (.tmp 14) = .int .i64 (ii : Int) := hp.rest 14 (by rfl)
                exact Rg.step_run (v := a.eval (.tmp 14)) (w' := w') rfl (Rg.wanted_some (g := 14) (b := false) (d := 115) rfl (by rfl) (hp.at_ 14 (by rfl))) (by simp) rfl e14 (Below.refl _ _)
              case s23 =>
                intro a w' hp
                have e122 : a.eval (.tmp 122) = .slice (some ⟨ba, oa, none⟩) k c := hp.at_ 21 (by rfl)
                have e123 : a.eval (.tmp 123) = .int .i64 (ii : Int) := hp.at_ 22 (by rfl)
                refine Rg.step_run (v := .pointer (some ⟨ba, oa + ii * 12, none⟩)) (w' := w') rfl (Rg.wanted_some (g := 14) (b := false) (d := 115) rfl (by rfl) (hp.at_ 14 (by rfl))) (by simp) ?_ rfl (Below.refl _ _)
                clear hp
                obtain ⟨ec, eg, ef⟩ := Rg.eval_at a
                generalize a.eval = ρ at *
                go_simp
              case s24 =>
                intro a w' hp
                have e124 : a.eval (.tmp 124) = .pointer (some ⟨ba, oa + ii * 12, none⟩) := hp.at_ 23 (by rfl)
                refine Rg.step_run (v := .pointer (some ⟨ba, oa + ii * 12, none⟩)) (w' := w') rfl (Rg.wanted_some (g := 14) (b := false) (d := 115) rfl (by rfl) (hp.at_ 14 (by rfl))) (by simp) ?_ rfl (Below.refl _ _)
                clear hp
                obtain ⟨ec, eg, ef⟩ := Rg.eval_at a
                generalize a.eval = ρ at *
                go_simp
              case s25 =>
                intro a w' hp
                have e125 : a.eval (.tmp 125) = .pointer (some ⟨ba, oa + ii * 12, none⟩) := hp.at_ 24 (by rfl)
                have tq := (hp.grew.cell (p := ⟨ba, oa + ii * 12, none⟩) hbaw).trans t0
                refine Rg.step_run (v := .int .i64 (kk : Int)) (w' := w') rfl (Rg.wanted_some (g := 14) (b := false) (d := 115) rfl (by rfl) (hp.at_ 14 (by rfl))) (by simp) ?_ rfl (Below.refl _ _)
                clear hp
                obtain ⟨ec, eg, ef⟩ := Rg.eval_at a
                generalize a.eval = ρ at *
                go_simp
              case s26 =>
                intro a w' hp
                have e121 : a.eval (.tmp 121) = .slice (some ⟨w1.heap.size + 1, 0, none⟩) 10 10 := hp.at_ 20 (by rfl)
                have e126 : a.eval (.tmp 126) = .int .i64 (kk : Int) := hp.at_ 25 (by rfl)
                refine Rg.step_run (v := .pointer (some ⟨w1.heap.size + 1, kk, none⟩)) (w' := w') rfl (Rg.wanted_some (g := 14) (b := false) (d := 115) rfl (by rfl) (hp.at_ 14 (by rfl))) (by simp) ?_ rfl (Below.refl _ _)
                clear hp
                obtain ⟨ec, eg, ef⟩ := Rg.eval_at a
                generalize a.eval = ρ at *
                go_simp
              case s27 =>
                intro a w' hp
                have e127 : a.eval (.tmp 127) = .pointer (some ⟨w1.heap.size + 1, kk, none⟩) := hp.at_ 26 (by rfl)
                have tq := (hp.grew.cell (p := ⟨w1.heap.size + 1, kk, none⟩) hpw).trans z1
                refine Rg.step_run (v := .int .i64 s) (w' := w') rfl (Rg.wanted_some (g := 14) (b := false) (d := 115) rfl (by rfl) (hp.at_ 14 (by rfl))) (by simp) ?_ rfl (Below.refl _ _)
                clear hp
                obtain ⟨ec, eg, ef⟩ := Rg.eval_at a
                generalize a.eval = ρ at *
                go_simp
              case s28 =>
                intro a w' hp
                have e120 : a.eval (.tmp 120) = .int .i64 s := hp.at_ 19 (by rfl)
                have e128 : a.eval (.tmp 128) = .int .i64 s := hp.at_ 27 (by rfl)
                refine Rg.step_run (v := .bool false) (w' := w') rfl (Rg.wanted_some (g := 14) (b := false) (d := 115) rfl (by rfl) (hp.at_ 14 (by rfl))) (by simp) ?_ rfl (Below.refl _ _)
                clear hp
                obtain ⟨ec, eg, ef⟩ := Rg.eval_at a
                generalize a.eval = ρ at *
                go_simp
              case s29 =>
                intro a w' hp
                have e115 : a.eval (.tmp 115) = .bool false := hp.at_ 14 (by rfl)
                have e129 : a.eval (.tmp 129) = .bool false := hp.at_ 28 (by rfl)
                refine Rg.step_run (v := .bool false) (w' := w') rfl (Rg.wanted_none rfl) (by simp) ?_ rfl (Below.refl _ _)
                clear hp
                obtain ⟨ec, eg, ef⟩ := Rg.eval_at a
                generalize a.eval = ρ at *
                go_simp
              case s30 =>
                intro a w' hp
                have e130 : a.eval (.tmp 130) = .bool false := hp.at_ 29 (by rfl)
                exact Rg.step_run (v := a.eval (.tmp 130)) (w' := w') rfl (Rg.wanted_none rfl) (by simp) rfl e130 (Below.refl _ _)
              case s31 =>
                intro a w' hp
                have e14 : a.eval (.tmp 14) = .int .i64 (ii : Int) := hp.rest 14 (by rfl)
                exact Rg.step_run (v := a.eval (.tmp 14)) (w' := w') rfl (Rg.wanted_some (g := 30) (b := false) (d := 131) rfl (by rfl) (hp.at_ 30 (by rfl))) (by simp) rfl e14 (Below.refl _ _)
              case s32 =>
                intro a w' hp
                have e132 : a.eval (.tmp 132) = .int .i64 (ii : Int) := hp.at_ 31 (by rfl)
                refine Rg.step_run (v := .bool true) (w' := w') rfl (Rg.wanted_some (g := 30) (b := false) (d := 131) rfl (by rfl) (hp.at_ 30 (by rfl))) (by simp) ?_ rfl (Below.refl _ _)
                clear hp
                obtain ⟨ec, eg, ef⟩ := Rg.eval_at a
                generalize a.eval = ρ at *
                go_simp
              case s33 =>
                intro a w' hp
                have e133 : a.eval (.tmp 133) = .bool true := hp.at_ 32 (by rfl)
                exact Rg.step_run (v := a.eval (.tmp 133)) (w' := w') rfl (Rg.wanted_some (g := 30) (b := false) (d := 131) rfl (by rfl) (hp.at_ 30 (by rfl))) (by simp) rfl e133 (Below.refl _ _)
              case s34 =>
                intro a w' hp
                have e13 : a.eval (.tmp 13) = .slice (some ⟨ba, oa, none⟩) k c := hp.rest 13 (by rfl)
                exact Rg.step_run (v := a.eval (.tmp 13)) (w' := w') rfl (Rg.wanted_some (g := 33) (b := true) (d := 134) rfl (by rfl) (hp.at_ 33 (by rfl))) (by simp) rfl e13 (Below.refl _ _)
              case s35 =>
                intro a w' hp
                have e14 : a.eval (.tmp 14) = .int .i64 (ii : Int) := hp.rest 14 (by rfl)
                exact Rg.step_run (v := a.eval (.tmp 14)) (w' := w') rfl (Rg.wanted_some (g := 33) (b := true) (d := 134) rfl (by rfl) (hp.at_ 33 (by rfl))) (by simp) rfl e14 (Below.refl _ _)
              case s36 =>
                intro a w' hp
                have e135 : a.eval (.tmp 135) = .slice (some ⟨ba, oa, none⟩) k c := hp.at_ 34 (by rfl)
                have e136 : a.eval (.tmp 136) = .int .i64 (ii : Int) := hp.at_ 35 (by rfl)
                refine Rg.step_run (v := .pointer (some ⟨ba, oa + ii * 12, none⟩)) (w' := w') rfl (Rg.wanted_some (g := 33) (b := true) (d := 134) rfl (by rfl) (hp.at_ 33 (by rfl))) (by simp) ?_ rfl (Below.refl _ _)
                clear hp
                obtain ⟨ec, eg, ef⟩ := Rg.eval_at a
                generalize a.eval = ρ at *
                go_simp
              case s37 =>
                intro a w' hp
                have e137 : a.eval (.tmp 137) = .pointer (some ⟨ba, oa + ii * 12, none⟩) := hp.at_ 36 (by rfl)
                refine Rg.step_run (v := .pointer (some ⟨ba, oa + ii * 12 + 5, none⟩)) (w' := w') rfl (Rg.wanted_some (g := 33) (b := true) (d := 134) rfl (by rfl) (hp.at_ 33 (by rfl))) (by simp) ?_ rfl (Below.refl _ _)
                clear hp
                obtain ⟨ec, eg, ef⟩ := Rg.eval_at a
                generalize a.eval = ρ at *
                go_simp
              case s38 =>
                intro a w' hp
                have e138 : a.eval (.tmp 138) = .pointer (some ⟨ba, oa + ii * 12 + 5, none⟩) := hp.at_ 37 (by rfl)
                have tq := (hp.grew.cell (p := ⟨ba, oa + ii * 12 + 5, none⟩) hbaw).trans t5
                refine Rg.step_run (v := .int .i64 s) (w' := w') rfl (Rg.wanted_some (g := 33) (b := true) (d := 134) rfl (by rfl) (hp.at_ 33 (by rfl))) (by simp) ?_ rfl (Below.refl _ _)
                clear hp
                obtain ⟨ec, eg, ef⟩ := Rg.eval_at a
                generalize a.eval = ρ at *
                go_simp
              case s39 =>
                intro a w' hp
                have e13 : a.eval (.tmp 13) = .slice (some ⟨ba, oa, none⟩) k c := hp.rest 13 (by rfl)
                exact Rg.step_run (v := a.eval (.tmp 13)) (w' := w') rfl (Rg.wanted_some (g := 33) (b := true) (d := 134) rfl (by rfl) (hp.at_ 33 (by rfl))) (by simp) rfl e13 (Below.refl _ _)
              case s40 =>
                intro a w' hp
                have e14 : a.eval (.tmp 14) = .int .i64 (ii : Int) := hp.rest 14 (by rfl)
                exact Rg.step_run (v := a.eval (.tmp 14)) (w' := w') rfl (Rg.wanted_some (g := 33) (b := true) (d := 134) rfl (by rfl) (hp.at_ 33 (by rfl))) (by simp) rfl e14 (Below.refl _ _)
              case s41 =>
                intro a w' hp
                have e141 : a.eval (.tmp 141) = .int .i64 (ii : Int) := hp.at_ 40 (by rfl)
                have hwi : IntKind.i64.wrap ((ii : Int) - 1) = (ii : Int) - 1 := wrapQ (by omega) (by omega)
                refine Rg.step_run (v := .int .i64 ((ii : Int) - 1)) (w' := w') rfl (Rg.wanted_some (g := 33) (b := true) (d := 134) rfl (by rfl) (hp.at_ 33 (by rfl))) (by simp) ?_ rfl (Below.refl _ _)
                clear hp
                obtain ⟨ec, eg, ef⟩ := Rg.eval_at a
                generalize a.eval = ρ at *
                go_simp
              case s42 =>
                intro a w' hp
                have e140 : a.eval (.tmp 140) = .slice (some ⟨ba, oa, none⟩) k c := hp.at_ 39 (by rfl)
                have e142 : a.eval (.tmp 142) = .int .i64 ((ii : Int) - 1) := hp.at_ 41 (by rfl)
                have hge : ¬ (ii : Int) < 1 := by omega
                refine Rg.step_run (v := .pointer (some ⟨ba, oa + (ii - 1) * 12, none⟩)) (w' := w') rfl (Rg.wanted_some (g := 33) (b := true) (d := 134) rfl (by rfl) (hp.at_ 33 (by rfl))) (by simp) ?_ rfl (Below.refl _ _)
                clear hp
                obtain ⟨ec, eg, ef⟩ := Rg.eval_at a
                generalize a.eval = ρ at *
                go_simp
              case s43 =>
                intro a w' hp
                have e143 : a.eval (.tmp 143) = .pointer (some ⟨ba, oa + (ii - 1) * 12, none⟩) := hp.at_ 42 (by rfl)
                refine Rg.step_run (v := .pointer (some ⟨ba, oa + (ii - 1) * 12 + 5, none⟩)) (w' := w') rfl (Rg.wanted_some (g := 33) (b := true) (d := 134) rfl (by rfl) (hp.at_ 33 (by rfl))) (by simp) ?_ rfl (Below.refl _ _)
                clear hp
                obtain ⟨ec, eg, ef⟩ := Rg.eval_at a
                generalize a.eval = ρ at *
                go_simp
              case s44 =>
                intro a w' hp
                have e144 : a.eval (.tmp 144) = .pointer (some ⟨ba, oa + (ii - 1) * 12 + 5, none⟩) := hp.at_ 43 (by rfl)
                have tq := (hp.grew.cell (p := ⟨ba, oa + (ii - 1) * 12 + 5, none⟩) hbaw).trans t5p
                refine Rg.step_run (v := .int .i64 pp) (w' := w') rfl (Rg.wanted_some (g := 33) (b := true) (d := 134) rfl (by rfl) (hp.at_ 33 (by rfl))) (by simp) ?_ rfl (Below.refl _ _)
                clear hp
                obtain ⟨ec, eg, ef⟩ := Rg.eval_at a
                generalize a.eval = ρ at *
                go_simp
              case s45 =>
                intro a w' hp
                have e139 : a.eval (.tmp 139) = .int .i64 s := hp.at_ 38 (by rfl)
                have e145 : a.eval (.tmp 145) = .int .i64 pp := hp.at_ 44 (by rfl)
                refine Rg.step_run (v := .bool false) (w' := w') rfl (Rg.wanted_some (g := 33) (b := true) (d := 134) rfl (by rfl) (hp.at_ 33 (by rfl))) (by simp) ?_ rfl (Below.refl _ _)
                clear hp
                obtain ⟨ec, eg, ef⟩ := Rg.eval_at a
                generalize a.eval = ρ at *
                go_simp
              case s46 =>
                intro a w' hp
                have e134 : a.eval (.tmp 134) = .bool true := hp.at_ 33 (by rfl)
                have e146 : a.eval (.tmp 146) = .bool false := hp.at_ 45 (by rfl)
                refine Rg.step_run (v := .bool false) (w' := w') rfl (Rg.wanted_some (g := 30) (b := false) (d := 131) rfl (by rfl) (hp.at_ 30 (by rfl))) (by simp) ?_ rfl (Below.refl _ _)
                clear hp
                obtain ⟨ec, eg, ef⟩ := Rg.eval_at a
                generalize a.eval = ρ at *
                go_simp
              case s47 =>
                intro a w' hp
                have e131 : a.eval (.tmp 131) = .bool false := hp.at_ 30 (by rfl)
                have e147 : a.eval (.tmp 147) = .bool false := hp.at_ 46 (by rfl)
                refine Rg.step_run (v := .bool false) (w' := w') rfl (Rg.wanted_none rfl) (by simp) ?_ rfl (Below.refl _ _)
                clear hp
                obtain ⟨ec, eg, ef⟩ := Rg.eval_at a
                generalize a.eval = ρ at *
                go_simp
              case mono =>
                refine Rg.mono_getD _ ?_
                intro p hp
                repeat (rcases List.mem_cons.1 hp with rfl | hp; exact Rg.mono_eq _)
                cases hp
              case fin =>
                intro a w' hsz hdf hrest hdone hbf
                have hv : a.tmps.getD 148 undef = .bool false := hdone 47 (by decide)
                have ha := Rg.act_puts hsz hdf hrest [101, 102, 103, 104, 105, 106, 107, 108, 109, 110, 111, 112, 113, 114, 115, 116, 117, 118, 119, 120, 121, 122, 123, 124, 125, 126, 127, 128, 129, 130, 131, 132, 133, 134, 135, 136, 137, 138, 139, 140, 141, 142, 143, 144, 145, 146, 147, 148] (by kernel_rfl)
                simp only [List.foldl_cons, List.foldl_nil, Act.put, List.setIfInBounds_toArray, List.set_cons_zero, List.set_cons_succ] at ha
                rw [hv] at ha
                clear hsz hdf hrest hdone hv
                rw [ha]
                clear ha
                go_wp2
                go_roundw
                case rel => exact ⟨ii + 1, by first | rfl | go_num, by omega, HBX.out.trans (hbf.mono HBX.out.size)⟩
                case measure =>
                  simp only [intOf]
                  omega
          · obtain rfl : ii = k := by omega
            have hiI : ¬ (ii : Int) < (ii : Int) := by omega
            have HQ3 := Lib.hid (HQ2.out.below HBX.out)
            have HC3 := Lib.hid (HC2.out.below HBX.out (Nat.le_refl _))
            have HB3 := Lib.hid (HB2.out.trans (HBX.out.mono HB2.out.size))
            clear HQ2 HC2 HB2 HBX HROW HPERM HSORT
            go_wp2_with fail
            go_loopw [15] (fun s15 wz => ∃ (d : Nat) (M : List T), s15 = .int .i64 d ∧ 1 ≤ d ∧ d ≤ 10 ∧ DInv L M d ∧ M.length ≤ 9 ∧ QAt w.heap.size wz w1.heap.size M ∧ Cel wz (w1.heap.size + 1) (S.map (Value.int .i64)) ∧ Below w.heap.size w wz) (fun s15 _ => 10 - (intOf s15).toNat)
            case atStart => exact ⟨1, L, rfl, Nat.le_refl _, by decide, DInv.start HINV.out, hfew, HQ3.out, HC3.out, HB3.out⟩
            case round =>
              obtain ⟨d, M, rfl, hd1, hd2, hdi, hM9, hqm, hcm, hbm⟩ := hrel
              have HDI := Lib.hid hdi
              have HQM := Lib.hid hqm
              have HCM := Lib.hid hcm
              have HBM := Lib.hid hbm
              have hd0 : (0 : Int) ≤ (d : Int) := by omega
              clear hdi hqm hcm hbm
              by_cases hlt3 : d < 10
              · have hdI : (d : Int) < 10 := by omega
                have z1 := (s_at HCM.out (k := d) (by omega)).1
                have hwd : (Lit.int .i64 (d : Int)).wf = true := wf_of (by omega) (by omega)
                have HDD := Lib.hid (drop2_at (d : Int) (d : Int) wr HQM.out HBM.out.size hwd hwd (by omega))
                have HNX := Lib.hid HDI.out.step
                have HN9 := Lib.hid (Nat.le_trans (outs_ok (ns := [(d : Int), (d : Int)]) HQM.out.asc HQM.out.wf).2.2 hM9)
                rw [HDI.out.drop HINV.out hd1 (by omega)] at HDD
                generalize outs M [(d : Int), (d : Int)] = M2 at *
                generalize S[d]! = s at *
                by_cases hsp : 0 < s
                · rw [if_pos hsp] at HDD
                  go_wp2_with fail
                  refine HDD.out.mono ?_
                  rintro e w5 ⟨rfl, hq5, hb5, hk5⟩
                  have HC5 := Lib.hid (s_keep HCM.out hSl (fun v cs h => hk5 _ v cs h))
                  have HB5 := Lib.hid (HBM.out.trans hb5)
                  clear hk5 hb5
                  go_wp2
                  go_roundw
                  case rel => exact ⟨d + 1, M2, by first | rfl | go_num, by omega, by omega, HNX.out, HN9.out, hq5, HC5.out, HB5.out⟩
                  case measure =>
                    simp only [intOf]
                    omega
                · rw [if_neg hsp] at HDD
                  go_wp2_with fail
                  refine HDD.out.mono ?_
                  rintro e w5 ⟨rfl, hq5, hb5, hk5⟩
                  have HC5 := Lib.hid (s_keep HCM.out hSl (fun v cs h => hk5 _ v cs h))
                  have HB5 := Lib.hid (HBM.out.trans hb5)
                  clear hk5 hb5
                  go_wp2
                  go_roundw
                  case rel => exact ⟨d + 1, M2, by first | rfl | go_num, by omega, by omega, HNX.out, HN9.out, hq5, HC5.out, HB5.out⟩
                  case measure =>
                    simp only [intOf]
                    omega
              · obtain rfl : d = 10 := by omega
                have hdI : ¬ ((10 : Nat) : Int) < 10 := by decide
                obtain rfl : M = [] := HDI.out.none HINV.out
                have HLN := Lib.hid (qlen_at wr HQM.out)
                go_wp2_with fail
                refine HLN.out.mono ?_
                rintro e w6 ⟨rfl, rfl⟩
                have P2 := Lib.hid (pickn_any 0 5 [st] wr HQM.out (by decide) (by decide) (by decide) #[.string ⟨#[116]⟩] rfl 1)
                go_wp2_with fail
                refine P2.out.mono ?_
                rintro e w7 ⟨⟨A7, k7, c7, r7, rfl, hp7, hr7, _⟩, hb7⟩
                obtain rfl : 0 = k7 := by
                  rw [← hr7.len (by decide), hp7.len]
                  rfl
                have HB7 := Lib.hid (HBM.out.trans (hb7.mono HBM.out.size))
                go_wp2
                go_ret
                exact ⟨rfl, HB7.out⟩
  · by_cases h20 : 20 < n1
    · have hI : (20 : Int) < (n1 : Int) := by omega
      go_enter Try.func6, Try.ntmps6
      go_wp2_with fail
      refine HF.out.mono ?_
      rintro e w1 ⟨rfl, hb1⟩
      go_wp2
      go_ret
      exact ⟨rfl, hb1⟩
    · have hI : ¬ (20 : Int) < (n1 : Int) := by omega
      have hI2 : (n2 : Int) < (n1 : Int) := by omega
      go_enter Try.func6, Try.ntmps6
      go_wp2_with fail
      refine HF.out.mono ?_
      rintro e w1 ⟨rfl, hb1⟩
      go_wp2
      go_ret
      exact ⟨rfl, hb1⟩
end Go.Proofs.Ytlcchjpelfjheaa
