/- Package state: slices.Concat of bytes; numbers; lists of nothing. -/
import Derived.Test.YtdmbbbljamjhkaaNb
import Derived.Test.YtdmbbbljamjhkaaPart
import Derived.Test.YtdmbbbljamjhkaaGq
import Derived.Lib.AppendZeros
namespace Go.Proofs.Ytdmbbbljamjhkaa
open Go.RowKit

namespace St
/-- A slice of bytes as an element of a row. -/
def pκ : Cs Part := ⟨1, fun x => [x.val], fun _ => rfl, fun x u hu => by
  rw [List.mem_singleton] at hu
  subst hu
  rfl⟩
def noPart : Part := ⟨none, 0, 0, []⟩
instance : Inhabited Part := ⟨noPart⟩
theorem p_at {w : World} {b off n B : Nat} {l : List Part} (h : KRow pκ w B (some ⟨b, off, none⟩) n l) {j : Nat} (hj : j < n) : w.cell? ⟨b, off + j, none⟩ = some l[j]!.val := by
  have := KRow.of (κ := pκ) h (by decide) hj 0 l[j]!.val rfl
  rwa [show off + j * pκ.k + 0 = off + j from by show off + j * 1 + 0 = off + j; omega] at this
theorem all_take {ps : List Part} {j : Nat} (hj : j < ps.length) : allOf (ps.take (j + 1)) = allOf (ps.take j) ++ ps[j]!.l := by
  unfold allOf
  rw [List.take_succ_eq_append_getElem hj, List.flatMap_append, getElem!_pos ps j hj]
  simp
theorem all_few {ps : List Part} {j k : Nat} (h : j ≤ k) : (allOf (ps.take j)).length ≤ (allOf (ps.take k)).length := by
  have e : ps.take j = (ps.take k).take j := by rw [List.take_take, Nat.min_eq_left h]
  have e2 : ps.take k = (ps.take k).take j ++ (ps.take k).drop j := (List.take_append_drop _ _).symm
  rw [e, e2]
  unfold allOf
  rw [List.flatMap_append, List.length_append, List.take_append_drop]
  exact Nat.le_add_right _ _
set_option maxHeartbeats 1600000 in
theorem grow_any (n : Nat) (w : World) (hn : n ≤ 1000000000) : Calls Try.prog 30 #[.slice none 0 0, .int .i64 n] w fun e w' => ∃ A c, e = .returned (.slice A 0 c) ∧ OwnBytes w' w.heap.size 5 A 0 c [] ∧ Below w.heap.size w w' := by
  obtain ⟨i0, hi0, hz0, hz1, hz2⟩ := info_parts info_u8
  have hneg : ¬ (n : Int) < 0 := by omega
  rcases Nat.eq_zero_or_pos n with rfl | h0
  · go_enter Try.func30, Try.ntmps30
    go_wp2
    go_ret
    exact ⟨none, 0, rfl, World.ownsRow_nil _ _ _ _, Below.refl _ _⟩
  · have hI : (0 : Int) < (n : Int) := by omega
    have hw1 : wrap64 ((n : Int) - 0) = (n : Int) := by unfold wrap64; omega
    have hr := fun ty => Lib.run_append_nil_zeros (P := Try.prog) w 45 3 ty 5 i0 _ .i64 .i64 Try.underlying45 Try.underlying3 hi0 hz0 n h0 (by rw [hz1]; decide) (by omega) (by rw [hz2]; omega)
    obtain ⟨cap, hcap⟩ : ∃ cap, grownCap w n 0 5 = cap := ⟨_, rfl⟩
    rw [hcap] at hr
    have hcl : n ≤ cap ∧ cap ≤ maxLen := by
      rw [← hcap]
      exact ⟨grownCap_ge w n 0 5, grownCap_le_maxLen w n 0 5 (by unfold maxLen; omega)⟩
    go_enter Try.func30, Try.ntmps30
    go_wp2_with (at_builtin; refine Lib.wpList_append_run _ rfl _ _ _ _ rfl _ _ rfl rfl _ _ (hr _) ?_)
    go_ret
    refine ⟨_, cap, rfl, ⟨rfl, .inr ⟨w.drew.heap.size, cap, _, rfl, Nat.le_refl _, heap_alloc_new w.drew _, Nat.zero_le _, hcl.2, ?_, rfl⟩⟩, ?_⟩
    · rw [Array.size_append, size_zeroCells, size_zeroCells]
      simp
      omega
    · exact (Below.refl _ _).drew.alloc (Nat.le_refl _) _
set_option maxRecDepth 10000 in
set_option maxHeartbeats 300000 in
theorem concat_any (A : Option Addr) (n c : Nat) (ps : List Part) (w : World) (hr : KRow pκ w w.heap.size A n ps) (hp : ∀ p ∈ ps, Part.ok w w.heap.size p) (hpn : ∀ p ∈ ps, p.a = none → p.n = 0 ∧ p.c = 0) (hn : n ≤ 1000000) (hs : (allOf ps).length ≤ 1000000000) :
    Calls Try.prog 15 #[.slice A n c] w fun e w' => ∃ A' m' c', e = .returned (.slice A' m' c') ∧ OwnBytes w' w.heap.size 5 A' m' c' (allOf ps) ∧ Below w.heap.size w w' := by
  obtain ⟨i0, hi0, hz0, hz1, hz2⟩ := info_parts info_u8
  have hlen := hr.len (by decide)
  have HR := Lib.hid hr
  have HP := Lib.hid hp
  have HPN := Lib.hid hpn
  have HS := Lib.hid hs
  clear hr hp hpn hs
  go_enter Try.func15, Try.ntmps15
  go_wp2_with fail
  go_loopw [3, 11] (fun s3 s11 wr => ∃ j : Nat, j ≤ n ∧ s11 = .int .i64 j ∧ s3 = .int .i64 ((allOf (ps.take j)).length : Int) ∧ w = wr) (fun _ s11 _ => n - (intOf s11).toNat)
  case atStart => exact ⟨0, Nat.zero_le _, rfl, rfl, rfl⟩
  case round =>
    obtain ⟨j, hj, rfl, rfl, rfl⟩ := hrel
    have hj0 : (0 : Int) ≤ (j : Int) := by omega
    by_cases hlt : j < n
    · have hI : (j : Int) < (n : Int) := by omega
      obtain ⟨b, off, rfl, _, _⟩ := HR.out.2 (by omega)
      have c1 := p_at HR.out hlt
      have hmem : ps[j]! ∈ ps := by rw [getElem!_pos ps j (by omega)]; exact List.getElem_mem _
      have hb := (HP.out _ hmem).1
      have hbl : ps[j]!.l.length = ps[j]!.n := hb.len
      have ht := all_take (ps := ps) (j := j) (by omega)
      have hall : (allOf (ps.take (j + 1))).length ≤ 1000000000 := by
        have h1 := all_few (ps := ps) (show j + 1 ≤ n by omega)
        rw [show ps.take n = ps from by rw [← hlen, List.take_length]] at h1
        exact Nat.le_trans h1 HS.out
      rw [ht, List.length_append, hbl] at hall
      have HT := Lib.hid (show (allOf (ps.take (j + 1))).length = (allOf (ps.take j)).length + ps[j]!.n by rw [ht, List.length_append, hbl])
      clear ht hb hmem hbl
      generalize (allOf (ps.take j)).length = u at *
      generalize ps[j]! = p at *
      obtain ⟨pa, pn, pc, pl⟩ := p
      unfold Part.val at c1
      dsimp only at *
      have hw1 : IntKind.i64.wrap ((u : Int) + (pn : Int)) = (u : Int) + (pn : Int) := by rw [IntKind.wrap_i64]; omega
      have hneg : ¬ (u : Int) + (pn : Int) < 0 := by omega
      go_wp2
      go_roundw
      case measure => simp [intOf]; omega
      case rel => exact ⟨j + 1, by omega, by go_num, by rw [HT.out]; go_num, by first | trivial | rfl⟩
    · obtain rfl : j = n := by omega
      have hI : ¬ (j : Int) < (j : Int) := by omega
      have he : ps.take j = ps := by rw [← hlen, List.take_length]
      rw [he]
      have HG := Lib.hid (grow_any (allOf ps).length w HS.out)
      go_wp2_with fail
      refine HG.out.mono ?_
      rintro e w1 ⟨A1, c1, rfl, ho1, hb1⟩
      have HB1 := Lib.hid hb1
      clear hb1
      go_wp2_with fail
      go_loopw [6, 27] (fun s6 s27 wr => ∃ (k : Nat) (A2 : Option Addr) (m2 c2 : Nat), k ≤ j ∧ s27 = .int .i64 k ∧ s6 = .slice A2 m2 c2 ∧ OwnBytes wr w.heap.size 5 A2 m2 c2 (allOf (ps.take k)) ∧ Below w.heap.size w wr) (fun _ s27 _ => j - (intOf s27).toNat)
      case atStart => exact ⟨0, A1, 0, c1, Nat.zero_le _, rfl, rfl, ho1, HB1.out⟩
      case round =>
        obtain ⟨k, A2, m2, c2, hk, rfl, rfl, ho2, hb2⟩ := hrel
        have hk0 : (0 : Int) ≤ (k : Int) := by omega
        by_cases hkt : k < j
        · have hI2 : (k : Int) < (j : Int) := by omega
          obtain ⟨b, off, rfl, hbl, _⟩ := HR.out.2 (by omega)
          have hrk : KRow pκ wr w.heap.size (some ⟨b, off, none⟩) j ps := RowS.below HR.out hb2 (Nat.le_refl _)
          have c1 := p_at hrk hkt
          have hmem : ps[k]! ∈ ps := by rw [getElem!_pos ps k (by omega)]; exact List.getElem_mem _
          have hb := (HP.out _ hmem).1.below hb2 (Nat.le_refl _)
          have hpn := HPN.out _ hmem
          have HT := Lib.hid (all_take (ps := ps) (j := k) (by omega))
          have hm2 : (allOf (ps.take k)).length = m2 := ho2.len
          have hall : (allOf (ps.take (k + 1))).length ≤ 1000000000 := by
            have h1 := all_few (ps := ps) (show k + 1 ≤ j by omega)
            rw [he] at h1
            exact Nat.le_trans h1 HS.out
          have hbl2 : ps[k]!.l.length = ps[k]!.n := hb.len
          rw [HT.out, List.length_append, hbl2, hm2] at hall
          have HO2 := Lib.hid ho2
          have HB2 := Lib.hid hb2
          have HBS := Lib.hid hb2.size
          have HBY := Lib.hid hb
          clear ho2 hb2 hrk hmem hb hbl2
          generalize allOf (ps.take k) = u at *
          generalize ps[k]! = p at *
          obtain ⟨pa, pn, pc, pl⟩ := p
          unfold Part.val at c1
          dsimp only at *
          go_wp2_with (at_builtin; refine append_row rfl (.tmp 31) (.tmp 32) 45 rfl 5 i0 _ 1 1 Try.underlying45 hi0 hz0 hz1 hz2 rfl (by decide) w.heap.size _ m2 (u.map bv) rfl HO2.out w.heap.size pa pn pc (pl.map bv) rfl hpn HBY.out (bv_one _) (by unfold maxLen; omega) (by omega) HBS.out ?_; intro v3 w3 ho3 hg3 hat3; obtain ⟨A3, c3, rfl, _⟩ := own_form ho3)
          go_roundw
          case measure => simp [intOf]; omega
          case rel => exact ⟨k + 1, A3, m2 + pn, c3, by omega, by go_num, rfl, by rw [HT.out]; unfold OwnBytes; rw [List.map_append]; exact ho3, HB2.out.grown hg3 HBS.out (fun i hi => ((show w.heap.size ≤ i from (World.ownsRow.lt HO2.out i hi).1)))⟩
        · obtain rfl : k = j := by omega
          have hI2 : ¬ (k : Int) < (k : Int) := by omega
          rw [he] at ho2
          go_wp2
          go_ret
          exact ⟨A2, m2, c2, rfl, ho2, hb2⟩
end St
end Go.Proofs.Ytdmbbbljamjhkaa
