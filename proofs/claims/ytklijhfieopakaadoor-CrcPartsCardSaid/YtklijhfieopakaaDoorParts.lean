/- The walk of the statement CrcParts. -/
import Derived.Test.YtklijhfieopakaaDoorWe
import Derived.Test.YtklijhfieopakaaDoorRegion
import Derived.Laws.BitsAllLaws
namespace Go.Proofs.YtklijhfieopakaaDoor
open Go.RowKit

/-- Where a piece of a slice begins. -/
def cutA (A : Option Addr) (c lo : Nat) : Option Addr := if c = lo then A else A.map (·.add lo)
theorem Bytes.cut {w : World} {B n c : Nat} {A : Option Addr} {l : List UInt8} (h : Bytes w B A n l) (hc : n ≤ c) {lo k : Nat} (hk : lo + k ≤ n) : Bytes w B (cutA A c lo) k ((l.drop lo).take k) := by
  unfold cutA
  split
  · have : k = 0 := by omega
    subst this
    rw [List.take_zero]
    exact Bytes.nil _ _ _
  · exact h.part hk
theorem size_u8 : Tryd.prog.elem 22 = 5 := by kernel_rfl
theorem sized_u8 (w : World) : (sizeOf 5).run Tryd.prog w = .ok 1 w := by kernel_rfl
theorem run_cut_lh (w : World) (A : Option Addr) (n c lo hi : Nat) (h1 : lo ≤ hi) (h2 : hi ≤ c) :
    (Instr.sliceAt 22 (.slice A n c) (some (.int .i64 lo)) (some (.int .i64 hi)) none).run Tryd.prog w = .ok (.slice (cutA A c lo) (hi - lo) (c - lo)) w := by
  have hu : Tryd.prog.underlying 22 = some (.slice (Tryd.prog.elem 22)) := by rw [size_u8]; exact Tryd.underlying22
  rw [run_sliceAt_slice w _ _ _ _ _ hu, run_slice_lh w _ A n c hu .i64 .i64 lo hi (by omega) (by omega) (by omega), size_u8, sized_u8]
  simp [Result.andThen, sliced, cutA]
theorem run_cut_h (w : World) (A : Option Addr) (n c hi : Nat) (h2 : hi ≤ c) :
    (Instr.sliceAt 22 (.slice A n c) none (some (.int .i64 hi)) none).run Tryd.prog w = .ok (.slice A hi c) w := by
  have hu : Tryd.prog.underlying 22 = some (.slice (Tryd.prog.elem 22)) := by rw [size_u8]; exact Tryd.underlying22
  rw [run_sliceAt_slice w _ _ _ _ _ hu, run_slice_h w _ A n c hu .i64 hi (by omega) (by omega), size_u8, sized_u8]
  cases A <;> simp [Result.andThen, sliced, Addr.add]
theorem run_cut_l (w : World) (A : Option Addr) (n c lo : Nat) (h1 : lo ≤ n) :
    (Instr.sliceAt 22 (.slice A n c) (some (.int .i64 lo)) none none).run Tryd.prog w = .ok (.slice (cutA A c lo) (n - lo) (c - lo)) w := by
  have hu : Tryd.prog.underlying 22 = some (.slice (Tryd.prog.elem 22)) := by rw [size_u8]; exact Tryd.underlying22
  rw [run_sliceAt_slice w _ _ _ _ _ hu, run_slice_l w _ A n c hu .i64 lo (by omega) (by omega), size_u8, sized_u8]
  simp [Result.andThen, sliced, cutA]

theorem xor_u8 (x y : UInt8) : Go.bits .xor .u8 (x.toNat : Int) (y.toNat : Int) = ((x ^^^ y).toNat : Int) := by
  rw [u8_xor_nat _ _ x.toNat_lt y.toNat_lt, UInt8.toNat_xor]
/-- A slice value over a row of its own. -/
def IsRow (m : Nat) (xs : List Value) (v : Value) (w : World) : Prop := ∃ A c, v = .slice A m c ∧ Row w w.heap.size A m xs
theorem IsRow.mono (m : Nat) (xs : List Value) : Rg.Mono (IsRow m xs) := by
  rintro v w w' ⟨A, c, rfl, hr⟩ hb
  exact ⟨A, c, rfl, (hr.below hb (Nat.le_refl _)).mono hb.size⟩
theorem IsRow.lit (w : World) (cs : Array Value) (t : TypeId) : IsRow cs.size cs.toList (.slice (some ⟨w.heap.size, 0, none⟩) cs.size cs.size) (w.alloc (.cells cs t)) :=
  ⟨_, _, rfl, by rw [size_alloc]; exact Row.lit w cs t⟩
/-- The bytes that have been taken apart, k of them. -/
def mixed (b o : List UInt8) (k : Nat) : List UInt8 := (List.zipWith (· ^^^ ·) b o).take k ++ List.replicate (b.length - k) 0
theorem mixed_zero (b o : List UInt8) : mixed b o 0 = List.replicate b.length 0 := by simp [mixed]
theorem mixed_all (b o : List UInt8) : mixed b o b.length = List.zipWith (· ^^^ ·) b (o.take b.length) := by
  simp only [mixed, Nat.sub_self, List.replicate_zero, List.append_nil]
  rw [List.take_zipWith, List.take_length]
theorem mixed_set (b o : List UInt8) (k : Nat) (h : k < b.length) (h' : k < o.length) : (mixed b o k).set k (b[k] ^^^ o[k]) = mixed b o (k + 1) := by
  unfold mixed
  have hz : k < (List.zipWith (· ^^^ ·) b o).length := by simp; omega
  have hl : ((List.zipWith (· ^^^ ·) b o).take k).length = k := by simp; omega
  rw [List.set_append_right _ _ (by omega), hl, Nat.sub_self, List.take_succ_eq_append_getElem hz, List.append_assoc]
  congr 1
  rw [show b.length - k = (b.length - (k + 1)) + 1 from by omega, List.replicate_succ, List.set_cons_zero, List.getElem_zipWith]
  rfl
theorem made_u8 (n : Nat) : (madeCells #[Value.int .u8 0] n).toList = (List.replicate n (0 : UInt8)).map bv := by
  rw [List.map_replicate]
  refine List.eq_replicate_iff.2 ⟨by simp [madeCells], fun v hv => ?_⟩
  simp only [madeCells, Array.toList_map, List.mem_map] at hv
  obtain ⟨i, _, rfl⟩ := hv
  simp [Nat.mod_one, bv]

attribute [local go_sem] u32_xor in
set_option maxRecDepth 100000 in
set_option maxHeartbeats 8000000 in
theorem parts_walk (A : Option Addr) (n c : Nat) (lb : List UInt8) (i k : Int) (A' : Option Addr) (n' c' : Nat) (lo : List UInt8) (w : World) (h0 : InBytes w A n c lb) (h1 : InBytes w A' n' c' lo)
    (bi : -9223372036854775808 ≤ i) (bi' : i ≤ 9223372036854775807) (bk : -9223372036854775808 ≤ k) (bk' : k ≤ 9223372036854775807) (ht : Steps w) (hn : n ≤ 200) (hnn : n ≤ n') (hn' : n' ≤ 300) :
    Calls Tryd.prog 5 #[.slice A n c, .int .i64 i, .int .i64 k, .slice A' n' c'] w fun e w' => e = .returned (.bool true) ∧ Below w.heap.size w w' := by
  obtain ⟨i0, hi0, hz0, hz1, hz2⟩ := info_parts info_u8
  have d1 : decide ((n : Int) ≤ 200) = true := by simp; omega
  have d2 : decide (200 < (n : Int)) = false := by simp; omega
  have d3 : decide ((n' : Int) < (n : Int)) = false := by simp; omega
  have d4 : decide (300 < (n' : Int)) = false := by simp; omega
  go_enter Tryd.func5, Tryd.ntmps5
  go_wp2_with fail
  refine (first_any _ ht).mono ?_
  rintro e w1 ⟨rfl, hb1⟩
  have hs1 := hb1.size
  go_wp2_with fail
  refine (number_any i _ _ (by omega) bi bi' (by omega)).mono ?_
  rintro e w2 ⟨⟨i', rfl, hi'⟩, rfl⟩
  have hi'2 : (i' : Int) ≤ n := by omega
  go_wp2_with fail
  refine (number_any k _ _ (by omega) bk bk' (by omega)).mono ?_
  rintro e w2 ⟨⟨k', rfl, hk'⟩, rfl⟩
  have hk'2 : (i' : Int) + k' ≤ n := by omega
  go_wp2_with (at_make; refine wpList_make_full _ rfl _ _ 22 rfl w1.heap.size 5 i0 _ 1 Tryd.underlying22 hi0 hz0 hz1 .i64 .i64 _ _ n rfl rfl rfl rfl ?h2 ?h3 ?h4 ?_)
  case h2 => rw [hz2]; omega
  case h3 => unfold maxLen; omega
  case h4 => exact Nat.le_refl _
  intro w2 ho2 hg2
  rw [made_u8] at ho2
  have hb2 : Below w.heap.size w w2 := hb1.grown hg2 hs1 (fun k hk => by cases hk)
  have HO : Hid (OwnBytes w2 w1.heap.size 5 (some ⟨w1.heap.size, 0, none⟩) n n (List.replicate n 0)) := Lib.hid ho2
  clear ho2
  go_wp2
  go_loopw [11] (fun j wr => ∃ m : Nat, m ≤ n ∧ j = .int .i64 m ∧ OwnBytes wr w1.heap.size 5 (some ⟨w1.heap.size, 0, none⟩) n n (mixed lb lo m) ∧ Below w.heap.size w wr) (fun j _ => n - (intOf j).toNat)
  case atStart => exact ⟨0, Nat.zero_le _, rfl, by rw [mixed_zero, h0.bytes.len]; exact HO.out, hb2⟩
  case round =>
    obtain ⟨m, hm, rfl, ho, hbw⟩ := hrel
    have hbl := h0.bytes.len
    have hol := h1.bytes.len
    by_cases hlt : m < n
    · obtain ⟨b, off, rfl, hb, hc⟩ := (h0.bytes.below hbw (Nat.le_refl _)).at_ hlt
      obtain ⟨b', off', rfl, hb', hc'⟩ := (h1.bytes.below hbw (Nat.le_refl _)).at_ (show m < n' by omega)
      have hml : m < lb.length := by omega
      have hmo : m < lo.length := by omega
      have H := Lib.hid (mixed_set lb lo m hml hmo)
      have hfz := World.ownsRow.frozenAt ho m
      have hown := Lib.hid ho
      obtain ⟨y, hy⟩ : ∃ y, wr.cell? ⟨w1.heap.size, m, none⟩ = some y := by
        have := ho.bytes.at_ hlt
        obtain ⟨b2, off2, he, _, hc2⟩ := this
        injection he with he
        injection he with he1 he2
        subst he1; subst he2
        exact ⟨_, by simpa using hc2⟩
      generalize lb[m]'hml = x1 at *
      generalize lo[m]'hmo = x2 at *
      clear ho hml hmo hbl hol
      have hmn : (m : Int) < n := by omega
      have hmn' : (m : Int) < n' := by omega
      have hm0 : (0 : Int) ≤ m := by omega
      have hxor := xor_u8 x1 x2
      go_wp2
      go_region
      go_wp2
      go_roundw
      case measure => simp [intOf]; omega
      case rel =>
        refine ⟨m + 1, by omega, by go_num, ?_, ?_⟩
        · have := (World.ownsRow.stored hown.out m (bv (x1 ^^^ x2))).1
          rw [← List.map_set, H.out] at this
          exact this
        · have hw1 := hb1.size
          exact Below.drew (Below.setCell hbw (p := ⟨w1.heap.size, m, none⟩) hw1 _)
    · have hmn : m = n := by omega
      rw [hmn] at ho ⊢
      have hml : n = lb.length := h0.bytes.len.symm
      have hmix := mixed_all lb lo
      rw [← hml] at hmix
      rw [hmix] at ho
      clear hmix hmn hml hm hlt
      have HO2 := Lib.hid ho
      clear ho
      have hsr := hbw.size
      go_wp2_with (at_make; refine wpList_make_full _ rfl _ _ 22 rfl wr.heap.size 5 i0 _ 1 Tryd.underlying22 hi0 hz0 hz1 .i64 .i64 _ _ n rfl rfl rfl rfl ?h5 ?h6 ?h7 ?_)
      case h5 => rw [hz2]; omega
      case h6 => unfold maxLen; omega
      case h7 => exact Nat.le_refl _
      intro w3 ho3 hg3
      have ho3' : OwnBytes w3 wr.heap.size 5 (some ⟨wr.heap.size, 0, none⟩) n n (List.replicate n 0) := by unfold OwnBytes; rw [← made_u8]; exact ho3
      have hb3r : Below wr.heap.size wr w3 := (Below.refl _ _).grown hg3 (Nat.le_refl _) (fun k hk => by cases hk)
      have hb3 : Below w.heap.size w w3 := hbw.trans (hb3r.mono hsr)
      have hbl := h0.bytes.len
      have hol := h1.bytes.len
      have hcap := h0.cap
      have hcap' := h1.cap
      have kb := (h0.bytes.below hb3 (Nat.le_refl _)).mono hb3.size
      have ko := (h1.bytes.below hb3 (Nat.le_refl _)).mono hb3.size
      have kx := ((HO2.out.below hb3r (Nat.le_refl _))).bytes
      have kz := ho3'.bytes
      have ht3 := ht.below hb3 (Nat.le_refl _)
      have H2 : Hid (lb.take i' ++ (lb.drop i').take (n - i') = lb) := by
        refine Lib.hid ?_
        rw [List.take_of_length_le (l := lb.drop i') (by simp; omega), List.take_append_drop]
      have H3 : Hid (allOf [⟨A, i', c, lb.take i'⟩, ⟨cutA A c i', i' + k' - i', c - i', (lb.drop i').take (i' + k' - i')⟩, ⟨cutA A c (i' + k'), n - (i' + k'), c - (i' + k'), (lb.drop (i' + k')).take (n - (i' + k'))⟩] = lb) := by
        refine Lib.hid ?_
        have e1 : i' + k' - i' = k' := by omega
        have e2 : (lb.drop (i' + k')).take (n - (i' + k')) = (lb.drop i').drop k' := by rw [List.take_of_length_le (by simp; omega), List.drop_drop]
        simp only [allOf, List.flatMap_cons, List.flatMap_nil, List.append_nil, e1, e2, List.take_append_drop]
      have H4 : Hid (Crc.sum (List.zipWith (· ^^^ ·) lb (lo.take n)) = Crc.sum lb ^^^ Crc.sum (lo.take n) ^^^ Crc.sum (List.replicate n 0)) := by
        refine Lib.hid ?_
        exact Crc.sum_xor lb (lo.take n) n hbl (by simp; omega)
      generalize List.zipWith (· ^^^ ·) lb (lo.take n) = xs at *
      clear ho3 hg3 hbw HO HO2 hb1 hg2 hb2 ho3' hb3r hi' hk'
      go_wp2
      refine Rg.region_each (by kernel_rfl) (fun i => ([
          (fun v _ => v = .bool true),
          (fun v _ => v = .bool true),
          (fun v _ => v = .slice A n c),
          (fun v _ => v = .int .i64 (i' : Int)),
          (fun v _ => v = .slice A i' c),
          (fun v _ => v = .slice A n c),
          (fun v _ => v = .int .i64 (i' : Int)),
          (fun v _ => v = .int .i64 (i' : Int)),
          (fun v _ => v = .int .i64 (k' : Int)),
          (fun v _ => v = .int .i64 (((i' + k' : Nat)) : Int)),
          (fun v _ => v = .slice (cutA A c i') (i' + k' - i') (c - i')),
          (fun v _ => v = .slice A n c),
          (fun v _ => v = .int .i64 (i' : Int)),
          (fun v _ => v = .int .i64 (k' : Int)),
          (fun v _ => v = .int .i64 (((i' + k' : Nat)) : Int)),
          (fun v _ => v = .slice (cutA A c (i' + k')) (n - (i' + k')) (c - (i' + k'))),
          (IsRow 3 [.slice A i' c, .slice (cutA A c i') (i' + k' - i') (c - i'), .slice (cutA A c (i' + k')) (n - (i' + k')) (c - (i' + k'))]),
          (fun v _ => v = .int .u32 (u (Crc.sum lb))),
          (fun v _ => v = .slice A n c),
          (IsRow 1 [.slice A n c]),
          (fun v _ => v = .int .u32 (u (Crc.sum lb))),
          (fun v _ => v = .bool true),
          (fun v _ => v = .bool true),
          (fun v _ => v = .bool true),
          (fun v _ => v = .slice A n c),
          (fun v _ => v = .int .i64 (i' : Int)),
          (fun v _ => v = .slice A i' c),
          (IsRow 1 [.slice A i' c]),
          (fun v _ => v = .int .u32 (u (Crc.sum (lb.take i')))),
          (fun v _ => v = .slice A n c),
          (fun v _ => v = .int .i64 (i' : Int)),
          (fun v _ => v = .slice (cutA A c i') (n - i') (c - i')),
          (fun v _ => v = .int .u32 (u (Crc.sum lb))),
          (fun v _ => v = .slice A n c),
          (IsRow 1 [.slice A n c]),
          (fun v _ => v = .int .u32 (u (Crc.sum lb))),
          (fun v _ => v = .bool true),
          (fun v _ => v = .bool true),
          (fun v _ => v = .bool true),
          (fun v _ => v = .slice (some ⟨w1.heap.size, 0, none⟩) n n),
          (IsRow 1 [.slice (some ⟨w1.heap.size, 0, none⟩) n n]),
          (fun v _ => v = .int .u32 (u (Crc.sum lb ^^^ Crc.sum (lo.take n) ^^^ Crc.sum (List.replicate n 0)))),
          (fun v _ => v = .slice A n c),
          (IsRow 1 [.slice A n c]),
          (fun v _ => v = .int .u32 (u (Crc.sum lb))),
          (fun v _ => v = .slice A' n' c'),
          (fun v _ => v = .slice A n c),
          (fun v _ => v = .int .i64 (n : Int)),
          (fun v _ => v = .slice A' n c'),
          (IsRow 1 [.slice A' n c']),
          (fun v _ => v = .int .u32 (u (Crc.sum (lo.take n)))),
          (fun v _ => v = .int .u32 (u (Crc.sum lb ^^^ Crc.sum (lo.take n)))),
          (fun v _ => v = .slice (some ⟨wr.heap.size, 0, none⟩) n n),
          (IsRow 1 [.slice (some ⟨wr.heap.size, 0, none⟩) n n]),
          (fun v _ => v = .int .u32 (u (Crc.sum (List.replicate n 0)))),
          (fun v _ => v = .int .u32 (u (Crc.sum lb ^^^ Crc.sum (lo.take n) ^^^ Crc.sum (List.replicate n 0)))),
          (fun v _ => v = .bool true),
          (fun v _ => v = .bool true),
          (fun v _ => v = .bool true)
          ] : List (Value → World → Prop)).getD i (fun _ _ => True)) (by kernel_rfl) ?mono (Rg.by_each _ ⟨?s0, ?s1, ?s2, ?s3, ?s4, ?s5, ?s6, ?s7, ?s8, ?s9, ?s10, ?s11, ?s12, ?s13, ?s14, ?s15, ?s16, ?s17, ?s18, ?s19, ?s20, ?s21, ?s22, ?s23, ?s24, ?s25, ?s26, ?s27, ?s28, ?s29, ?s30, ?s31, ?s32, ?s33, ?s34, ?s35, ?s36, ?s37, ?s38, ?s39, ?s40, ?s41, ?s42, ?s43, ?s44, ?s45, ?s46, ?s47, ?s48, ?s49, ?s50, ?s51, ?s52, ?s53, ?s54, ?s55, ?s56, ?s57, ?s58, trivial⟩) ?fin
      case s0 =>
        intro a w' hp
        have e9 : a.eval (.tmp 9) = .bool true := hp.rest 9 (by rfl)
        exact Rg.step_run (v := a.eval (.tmp 9)) (w' := w') rfl (Rg.wanted_none rfl) (by simp) rfl e9 (Below.refl _ _)
      case s1 =>
        intro a w' hp
        have e68 : a.eval (.tmp 68) = .bool true := hp.at_ 0 (by rfl)
        exact Rg.step_run (v := a.eval (.tmp 68)) (w' := w') rfl (Rg.wanted_none rfl) (by simp) rfl e68 (Below.refl _ _)
      case s2 =>
        intro a w' hp
        have e0 : a.eval (.tmp 0) = .slice A n c := hp.rest 0 (by rfl)
        exact Rg.step_run (v := a.eval (.tmp 0)) (w' := w') rfl (Rg.wanted_some (g := 1) (b := true) (d := 69) rfl (by rfl) (hp.at_ 1 (by rfl))) (by simp) rfl e0 (Below.refl _ _)
      case s3 =>
        intro a w' hp
        have e1 : a.eval (.tmp 1) = .int .i64 (i' : Int) := hp.rest 1 (by rfl)
        exact Rg.step_run (v := a.eval (.tmp 1)) (w' := w') rfl (Rg.wanted_some (g := 1) (b := true) (d := 69) rfl (by rfl) (hp.at_ 1 (by rfl))) (by simp) rfl e1 (Below.refl _ _)
      case s4 =>
        intro a w' hp
        have e70 : a.eval (.tmp 70) = .slice A n c := hp.at_ 2 (by rfl)
        have e71 : a.eval (.tmp 71) = .int .i64 (i' : Int) := hp.at_ 3 (by rfl)
        refine Rg.step_run (w' := w') rfl (Rg.wanted_some (g := 1) (b := true) (d := 69) rfl (by rfl) (hp.at_ 1 (by rfl))) (by simp) ?_ rfl (Below.refl _ _)
        clear hp
        simp only [execOp, Option.map, e70, e71]
        rw [Sem.run_bind, run_cut_h _ _ _ _ _ (by omega)]
        rfl
      case s5 =>
        intro a w' hp
        have e0 : a.eval (.tmp 0) = .slice A n c := hp.rest 0 (by rfl)
        exact Rg.step_run (v := a.eval (.tmp 0)) (w' := w') rfl (Rg.wanted_some (g := 1) (b := true) (d := 69) rfl (by rfl) (hp.at_ 1 (by rfl))) (by simp) rfl e0 (Below.refl _ _)
      case s6 =>
        intro a w' hp
        have e1 : a.eval (.tmp 1) = .int .i64 (i' : Int) := hp.rest 1 (by rfl)
        exact Rg.step_run (v := a.eval (.tmp 1)) (w' := w') rfl (Rg.wanted_some (g := 1) (b := true) (d := 69) rfl (by rfl) (hp.at_ 1 (by rfl))) (by simp) rfl e1 (Below.refl _ _)
      case s7 =>
        intro a w' hp
        have e1 : a.eval (.tmp 1) = .int .i64 (i' : Int) := hp.rest 1 (by rfl)
        exact Rg.step_run (v := a.eval (.tmp 1)) (w' := w') rfl (Rg.wanted_some (g := 1) (b := true) (d := 69) rfl (by rfl) (hp.at_ 1 (by rfl))) (by simp) rfl e1 (Below.refl _ _)
      case s8 =>
        intro a w' hp
        have e2 : a.eval (.tmp 2) = .int .i64 (k' : Int) := hp.rest 2 (by rfl)
        exact Rg.step_run (v := a.eval (.tmp 2)) (w' := w') rfl (Rg.wanted_some (g := 1) (b := true) (d := 69) rfl (by rfl) (hp.at_ 1 (by rfl))) (by simp) rfl e2 (Below.refl _ _)
      case s9 =>
        intro a w' hp
        have e75 : a.eval (.tmp 75) = .int .i64 (i' : Int) := hp.at_ 7 (by rfl)
        have e76 : a.eval (.tmp 76) = .int .i64 (k' : Int) := hp.at_ 8 (by rfl)
        have hwk : IntKind.i64.wrap ((i' : Int) + (k' : Int)) = (i' : Int) + (k' : Int) := by rw [IntKind.wrap_i64]; omega
        refine Rg.step_run (v := .int .i64 (((i' + k' : Nat)) : Int)) (w' := w') rfl (Rg.wanted_some (g := 1) (b := true) (d := 69) rfl (by rfl) (hp.at_ 1 (by rfl))) (by simp) ?_ rfl (Below.refl _ _)
        clear hp
        generalize a.eval = ρ at *
        go_simp
      case s10 =>
        intro a w' hp
        have e73 : a.eval (.tmp 73) = .slice A n c := hp.at_ 5 (by rfl)
        have e74 : a.eval (.tmp 74) = .int .i64 (i' : Int) := hp.at_ 6 (by rfl)
        have e77 : a.eval (.tmp 77) = .int .i64 (((i' + k' : Nat)) : Int) := hp.at_ 9 (by rfl)
        refine Rg.step_run (w' := w') rfl (Rg.wanted_some (g := 1) (b := true) (d := 69) rfl (by rfl) (hp.at_ 1 (by rfl))) (by simp) ?_ rfl (Below.refl _ _)
        clear hp
        simp only [execOp, Option.map, e73, e74, e77]
        rw [Sem.run_bind, run_cut_lh _ _ _ _ _ _ (by omega) (by omega)]
        rfl
      case s11 =>
        intro a w' hp
        have e0 : a.eval (.tmp 0) = .slice A n c := hp.rest 0 (by rfl)
        exact Rg.step_run (v := a.eval (.tmp 0)) (w' := w') rfl (Rg.wanted_some (g := 1) (b := true) (d := 69) rfl (by rfl) (hp.at_ 1 (by rfl))) (by simp) rfl e0 (Below.refl _ _)
      case s12 =>
        intro a w' hp
        have e1 : a.eval (.tmp 1) = .int .i64 (i' : Int) := hp.rest 1 (by rfl)
        exact Rg.step_run (v := a.eval (.tmp 1)) (w' := w') rfl (Rg.wanted_some (g := 1) (b := true) (d := 69) rfl (by rfl) (hp.at_ 1 (by rfl))) (by simp) rfl e1 (Below.refl _ _)
      case s13 =>
        intro a w' hp
        have e2 : a.eval (.tmp 2) = .int .i64 (k' : Int) := hp.rest 2 (by rfl)
        exact Rg.step_run (v := a.eval (.tmp 2)) (w' := w') rfl (Rg.wanted_some (g := 1) (b := true) (d := 69) rfl (by rfl) (hp.at_ 1 (by rfl))) (by simp) rfl e2 (Below.refl _ _)
      case s14 =>
        intro a w' hp
        have e80 : a.eval (.tmp 80) = .int .i64 (i' : Int) := hp.at_ 12 (by rfl)
        have e81 : a.eval (.tmp 81) = .int .i64 (k' : Int) := hp.at_ 13 (by rfl)
        have hwk : IntKind.i64.wrap ((i' : Int) + (k' : Int)) = (i' : Int) + (k' : Int) := by rw [IntKind.wrap_i64]; omega
        refine Rg.step_run (v := .int .i64 (((i' + k' : Nat)) : Int)) (w' := w') rfl (Rg.wanted_some (g := 1) (b := true) (d := 69) rfl (by rfl) (hp.at_ 1 (by rfl))) (by simp) ?_ rfl (Below.refl _ _)
        clear hp
        generalize a.eval = ρ at *
        go_simp
      case s15 =>
        intro a w' hp
        have e79 : a.eval (.tmp 79) = .slice A n c := hp.at_ 11 (by rfl)
        have e82 : a.eval (.tmp 82) = .int .i64 (((i' + k' : Nat)) : Int) := hp.at_ 14 (by rfl)
        refine Rg.step_run (w' := w') rfl (Rg.wanted_some (g := 1) (b := true) (d := 69) rfl (by rfl) (hp.at_ 1 (by rfl))) (by simp) ?_ rfl (Below.refl _ _)
        clear hp
        simp only [execOp, Option.map, e79, e82]
        rw [Sem.run_bind, run_cut_l _ _ _ _ _ (by omega)]
        rfl
      case s16 =>
        intro a w' hp
        have e72 : a.eval (.tmp 72) = .slice A i' c := hp.at_ 4 (by rfl)
        have e78 : a.eval (.tmp 78) = .slice (cutA A c i') (i' + k' - i') (c - i') := hp.at_ 10 (by rfl)
        have e83 : a.eval (.tmp 83) = .slice (cutA A c (i' + k')) (n - (i' + k')) (c - (i' + k')) := hp.at_ 15 (by rfl)
        refine Rg.step_run (v := .slice (some ⟨w'.heap.size, 0, none⟩) 3 3) (w' := w'.alloc (.cells #[.slice A i' c, .slice (cutA A c i') (i' + k' - i') (c - i'), .slice (cutA A c (i' + k')) (n - (i' + k')) (c - (i' + k'))] 22)) rfl (Rg.wanted_some (g := 1) (b := true) (d := 69) rfl (by rfl) (hp.at_ 1 (by rfl))) (by simp) ?_ (IsRow.lit w' #[.slice A i' c, .slice (cutA A c i') (i' + k' - i') (c - i'), .slice (cutA A c (i' + k')) (n - (i' + k')) (c - (i' + k'))] 22) ((Below.refl _ _).alloc (Nat.le_refl _) _)
        clear hp
        obtain ⟨ec, eg, ef⟩ := Rg.eval_at a
        generalize a.eval = ρ at *
        go_simp
      case s17 =>
        intro a w' hp
        have e84 : (IsRow 3 [.slice A i' c, .slice (cutA A c i') (i' + k' - i') (c - i'), .slice (cutA A c (i' + k')) (n - (i' + k')) (c - (i' + k'))]) (a.eval (.tmp 84)) w' := hp.at_ 16 (by rfl)
        obtain ⟨A9, c9, e84, hrow⟩ := e84
        have hg : Below w3.heap.size w3 w' := (Below.refl w3.heap.size w3).drew.trans hp.grew
        refine Rg.step_call (f := 13) (args := #[.slice A9 3 c9]) rfl (Rg.wanted_some (g := 1) (b := true) (d := 69) rfl (by rfl) (hp.at_ 1 (by rfl))) (by simp) (by clear hp hg hrow; obtain ⟨ec, eg, ef⟩ := Rg.eval_at a; generalize a.eval = ρ at *; go_simp) ?_
        refine (sum_any [⟨A, i', c, lb.take i'⟩, ⟨cutA A c i', i' + k' - i', c - i', (lb.drop i').take (i' + k' - i')⟩, ⟨cutA A c (i' + k'), n - (i' + k'), c - (i' + k'), (lb.drop (i' + k')).take (n - (i' + k'))⟩] w' A9 3 c9 w'.heap.size hrow (by omega) ?_ (ht3.below hg (Nat.le_refl _))).mono ?_
        · intro p hp1
          simp only [List.mem_cons, List.not_mem_nil, or_false] at hp1
          rcases hp1 with rfl | rfl | rfl
          · exact ⟨(Bytes.below (kb.front (by (try dsimp only); omega)) hg (Nat.le_refl _)).mono hg.size, by dsimp only; omega⟩
          · exact ⟨(Bytes.below (kb.cut h0.cap (by (try dsimp only); omega)) hg (Nat.le_refl _)).mono hg.size, by dsimp only; omega⟩
          · exact ⟨(Bytes.below (kb.cut h0.cap (by (try dsimp only); omega)) hg (Nat.le_refl _)).mono hg.size, by dsimp only; omega⟩
        · rintro e w2' ⟨rfl, rfl⟩
          exact ⟨_, rfl, (show Value.int .u32 (u (Crc.sum (allOf [⟨A, i', c, lb.take i'⟩, ⟨cutA A c i', i' + k' - i', c - i', (lb.drop i').take (i' + k' - i')⟩, ⟨cutA A c (i' + k'), n - (i' + k'), c - (i' + k'), (lb.drop (i' + k')).take (n - (i' + k'))⟩]))) = .int .u32 (u (Crc.sum lb)) by rw [H3.out]), Below.refl _ _⟩
      case s18 =>
        intro a w' hp
        have e0 : a.eval (.tmp 0) = .slice A n c := hp.rest 0 (by rfl)
        exact Rg.step_run (v := a.eval (.tmp 0)) (w' := w') rfl (Rg.wanted_some (g := 1) (b := true) (d := 69) rfl (by rfl) (hp.at_ 1 (by rfl))) (by simp) rfl e0 (Below.refl _ _)
      case s19 =>
        intro a w' hp
        have e86 : a.eval (.tmp 86) = .slice A n c := hp.at_ 18 (by rfl)
        refine Rg.step_run (v := .slice (some ⟨w'.heap.size, 0, none⟩) 1 1) (w' := w'.alloc (.cells #[.slice A n c] 22)) rfl (Rg.wanted_some (g := 1) (b := true) (d := 69) rfl (by rfl) (hp.at_ 1 (by rfl))) (by simp) ?_ (IsRow.lit w' #[.slice A n c] 22) ((Below.refl _ _).alloc (Nat.le_refl _) _)
        clear hp
        obtain ⟨ec, eg, ef⟩ := Rg.eval_at a
        generalize a.eval = ρ at *
        go_simp
      case s20 =>
        intro a w' hp
        have e87 : (IsRow 1 [.slice A n c]) (a.eval (.tmp 87)) w' := hp.at_ 19 (by rfl)
        obtain ⟨A9, c9, e87, hrow⟩ := e87
        have hg : Below w3.heap.size w3 w' := (Below.refl w3.heap.size w3).drew.trans hp.grew
        refine Rg.step_call (f := 13) (args := #[.slice A9 1 c9]) rfl (Rg.wanted_some (g := 1) (b := true) (d := 69) rfl (by rfl) (hp.at_ 1 (by rfl))) (by simp) (by clear hp hg hrow; obtain ⟨ec, eg, ef⟩ := Rg.eval_at a; generalize a.eval = ρ at *; go_simp) ?_
        refine (sum_any [⟨A, n, c, lb⟩] w' A9 1 c9 w'.heap.size hrow (by omega) ?_ (ht3.below hg (Nat.le_refl _))).mono ?_
        · intro p hp1
          simp only [List.mem_cons, List.not_mem_nil, or_false] at hp1
          rcases hp1 with rfl
          · exact ⟨(Bytes.below (kb) hg (Nat.le_refl _)).mono hg.size, by dsimp only; omega⟩
        · rintro e w2' ⟨rfl, rfl⟩
          exact ⟨_, rfl, (show Value.int .u32 (u (Crc.sum (allOf [⟨A, n, c, lb⟩]))) = .int .u32 (u (Crc.sum lb)) by simp [allOf]), Below.refl _ _⟩
      case s21 =>
        intro a w' hp
        have e85 : a.eval (.tmp 85) = .int .u32 (u (Crc.sum lb)) := hp.at_ 17 (by rfl)
        have e88 : a.eval (.tmp 88) = .int .u32 (u (Crc.sum lb)) := hp.at_ 20 (by rfl)
        refine Rg.step_run (v := .bool true) (w' := w') rfl (Rg.wanted_some (g := 1) (b := true) (d := 69) rfl (by rfl) (hp.at_ 1 (by rfl))) (by simp) ?_ rfl (Below.refl _ _)
        clear hp
        obtain ⟨ec, eg, ef⟩ := Rg.eval_at a
        generalize a.eval = ρ at *
        go_simp
      case s22 =>
        intro a w' hp
        have e69 : a.eval (.tmp 69) = .bool true := hp.at_ 1 (by rfl)
        have e89 : a.eval (.tmp 89) = .bool true := hp.at_ 21 (by rfl)
        refine Rg.step_run (v := .bool true) (w' := w') rfl (Rg.wanted_none rfl) (by simp) ?_ rfl (Below.refl _ _)
        clear hp
        obtain ⟨ec, eg, ef⟩ := Rg.eval_at a
        generalize a.eval = ρ at *
        go_simp
      case s23 =>
        intro a w' hp
        have e90 : a.eval (.tmp 90) = .bool true := hp.at_ 22 (by rfl)
        exact Rg.step_run (v := a.eval (.tmp 90)) (w' := w') rfl (Rg.wanted_none rfl) (by simp) rfl e90 (Below.refl _ _)
      case s24 =>
        intro a w' hp
        have e0 : a.eval (.tmp 0) = .slice A n c := hp.rest 0 (by rfl)
        exact Rg.step_run (v := a.eval (.tmp 0)) (w' := w') rfl (Rg.wanted_some (g := 23) (b := true) (d := 91) rfl (by rfl) (hp.at_ 23 (by rfl))) (by simp) rfl e0 (Below.refl _ _)
      case s25 =>
        intro a w' hp
        have e1 : a.eval (.tmp 1) = .int .i64 (i' : Int) := hp.rest 1 (by rfl)
        exact Rg.step_run (v := a.eval (.tmp 1)) (w' := w') rfl (Rg.wanted_some (g := 23) (b := true) (d := 91) rfl (by rfl) (hp.at_ 23 (by rfl))) (by simp) rfl e1 (Below.refl _ _)
      case s26 =>
        intro a w' hp
        have e92 : a.eval (.tmp 92) = .slice A n c := hp.at_ 24 (by rfl)
        have e93 : a.eval (.tmp 93) = .int .i64 (i' : Int) := hp.at_ 25 (by rfl)
        refine Rg.step_run (w' := w') rfl (Rg.wanted_some (g := 23) (b := true) (d := 91) rfl (by rfl) (hp.at_ 23 (by rfl))) (by simp) ?_ rfl (Below.refl _ _)
        clear hp
        simp only [execOp, Option.map, e92, e93]
        rw [Sem.run_bind, run_cut_h _ _ _ _ _ (by omega)]
        rfl
      case s27 =>
        intro a w' hp
        have e94 : a.eval (.tmp 94) = .slice A i' c := hp.at_ 26 (by rfl)
        refine Rg.step_run (v := .slice (some ⟨w'.heap.size, 0, none⟩) 1 1) (w' := w'.alloc (.cells #[.slice A i' c] 22)) rfl (Rg.wanted_some (g := 23) (b := true) (d := 91) rfl (by rfl) (hp.at_ 23 (by rfl))) (by simp) ?_ (IsRow.lit w' #[.slice A i' c] 22) ((Below.refl _ _).alloc (Nat.le_refl _) _)
        clear hp
        obtain ⟨ec, eg, ef⟩ := Rg.eval_at a
        generalize a.eval = ρ at *
        go_simp
      case s28 =>
        intro a w' hp
        have e95 : (IsRow 1 [.slice A i' c]) (a.eval (.tmp 95)) w' := hp.at_ 27 (by rfl)
        obtain ⟨A9, c9, e95, hrow⟩ := e95
        have hg : Below w3.heap.size w3 w' := (Below.refl w3.heap.size w3).drew.trans hp.grew
        refine Rg.step_call (f := 13) (args := #[.slice A9 1 c9]) rfl (Rg.wanted_some (g := 23) (b := true) (d := 91) rfl (by rfl) (hp.at_ 23 (by rfl))) (by simp) (by clear hp hg hrow; obtain ⟨ec, eg, ef⟩ := Rg.eval_at a; generalize a.eval = ρ at *; go_simp) ?_
        refine (sum_any [⟨A, i', c, lb.take i'⟩] w' A9 1 c9 w'.heap.size hrow (by omega) ?_ (ht3.below hg (Nat.le_refl _))).mono ?_
        · intro p hp1
          simp only [List.mem_cons, List.not_mem_nil, or_false] at hp1
          rcases hp1 with rfl
          · exact ⟨(Bytes.below (kb.front (by (try dsimp only); omega)) hg (Nat.le_refl _)).mono hg.size, by dsimp only; omega⟩
        · rintro e w2' ⟨rfl, rfl⟩
          exact ⟨_, rfl, (show Value.int .u32 (u (Crc.sum (allOf [⟨A, i', c, lb.take i'⟩]))) = .int .u32 (u (Crc.sum (lb.take i'))) by simp [allOf]), Below.refl _ _⟩
      case s29 =>
        intro a w' hp
        have e0 : a.eval (.tmp 0) = .slice A n c := hp.rest 0 (by rfl)
        exact Rg.step_run (v := a.eval (.tmp 0)) (w' := w') rfl (Rg.wanted_some (g := 23) (b := true) (d := 91) rfl (by rfl) (hp.at_ 23 (by rfl))) (by simp) rfl e0 (Below.refl _ _)
      case s30 =>
        intro a w' hp
        have e1 : a.eval (.tmp 1) = .int .i64 (i' : Int) := hp.rest 1 (by rfl)
        exact Rg.step_run (v := a.eval (.tmp 1)) (w' := w') rfl (Rg.wanted_some (g := 23) (b := true) (d := 91) rfl (by rfl) (hp.at_ 23 (by rfl))) (by simp) rfl e1 (Below.refl _ _)
      case s31 =>
        intro a w' hp
        have e97 : a.eval (.tmp 97) = .slice A n c := hp.at_ 29 (by rfl)
        have e98 : a.eval (.tmp 98) = .int .i64 (i' : Int) := hp.at_ 30 (by rfl)
        refine Rg.step_run (w' := w') rfl (Rg.wanted_some (g := 23) (b := true) (d := 91) rfl (by rfl) (hp.at_ 23 (by rfl))) (by simp) ?_ rfl (Below.refl _ _)
        clear hp
        simp only [execOp, Option.map, e97, e98]
        rw [Sem.run_bind, run_cut_l _ _ _ _ _ (by omega)]
        rfl
      case s32 =>
        intro a w' hp
        have e96 : a.eval (.tmp 96) = .int .u32 (u (Crc.sum (lb.take i'))) := hp.at_ 28 (by rfl)
        have e99 : a.eval (.tmp 99) = .slice (cutA A c i') (n - i') (c - i') := hp.at_ 31 (by rfl)
        have hg : Below w3.heap.size w3 w' := (Below.refl w3.heap.size w3).drew.trans hp.grew
        refine Rg.step_call (f := 15) (args := #[.int .u32 (u (Crc.sum (lb.take i'))), .slice (cutA A c i') (n - i') (c - i')]) rfl (Rg.wanted_some (g := 23) (b := true) (d := 91) rfl (by rfl) (hp.at_ 23 (by rfl))) (by simp) (by clear hp hg; obtain ⟨ec, eg, ef⟩ := Rg.eval_at a; generalize a.eval = ρ at *; go_simp) ?_
        refine (more_any _ w' _ _ _ ((lb.drop i').take (n - i')) w'.heap.size ((Bytes.below (kb.cut h0.cap (by omega)) hg (Nat.le_refl _)).mono hg.size) (by omega) (ht3.below hg (Nat.le_refl _))).mono ?_
        rintro e w2' ⟨rfl, rfl⟩
        exact ⟨_, rfl, (show Value.int .u32 (u (Crc.more (Crc.sum (lb.take i')) ((lb.drop i').take (n - i')))) = .int .u32 (u (Crc.sum lb)) by rw [← Crc.sum_append, H2.out]), Below.refl _ _⟩
      case s33 =>
        intro a w' hp
        have e0 : a.eval (.tmp 0) = .slice A n c := hp.rest 0 (by rfl)
        exact Rg.step_run (v := a.eval (.tmp 0)) (w' := w') rfl (Rg.wanted_some (g := 23) (b := true) (d := 91) rfl (by rfl) (hp.at_ 23 (by rfl))) (by simp) rfl e0 (Below.refl _ _)
      case s34 =>
        intro a w' hp
        have e101 : a.eval (.tmp 101) = .slice A n c := hp.at_ 33 (by rfl)
        refine Rg.step_run (v := .slice (some ⟨w'.heap.size, 0, none⟩) 1 1) (w' := w'.alloc (.cells #[.slice A n c] 22)) rfl (Rg.wanted_some (g := 23) (b := true) (d := 91) rfl (by rfl) (hp.at_ 23 (by rfl))) (by simp) ?_ (IsRow.lit w' #[.slice A n c] 22) ((Below.refl _ _).alloc (Nat.le_refl _) _)
        clear hp
        obtain ⟨ec, eg, ef⟩ := Rg.eval_at a
        generalize a.eval = ρ at *
        go_simp
      case s35 =>
        intro a w' hp
        have e102 : (IsRow 1 [.slice A n c]) (a.eval (.tmp 102)) w' := hp.at_ 34 (by rfl)
        obtain ⟨A9, c9, e102, hrow⟩ := e102
        have hg : Below w3.heap.size w3 w' := (Below.refl w3.heap.size w3).drew.trans hp.grew
        refine Rg.step_call (f := 13) (args := #[.slice A9 1 c9]) rfl (Rg.wanted_some (g := 23) (b := true) (d := 91) rfl (by rfl) (hp.at_ 23 (by rfl))) (by simp) (by clear hp hg hrow; obtain ⟨ec, eg, ef⟩ := Rg.eval_at a; generalize a.eval = ρ at *; go_simp) ?_
        refine (sum_any [⟨A, n, c, lb⟩] w' A9 1 c9 w'.heap.size hrow (by omega) ?_ (ht3.below hg (Nat.le_refl _))).mono ?_
        · intro p hp1
          simp only [List.mem_cons, List.not_mem_nil, or_false] at hp1
          rcases hp1 with rfl
          · exact ⟨(Bytes.below (kb) hg (Nat.le_refl _)).mono hg.size, by dsimp only; omega⟩
        · rintro e w2' ⟨rfl, rfl⟩
          exact ⟨_, rfl, (show Value.int .u32 (u (Crc.sum (allOf [⟨A, n, c, lb⟩]))) = .int .u32 (u (Crc.sum lb)) by simp [allOf]), Below.refl _ _⟩
      case s36 =>
        intro a w' hp
        have e100 : a.eval (.tmp 100) = .int .u32 (u (Crc.sum lb)) := hp.at_ 32 (by rfl)
        have e103 : a.eval (.tmp 103) = .int .u32 (u (Crc.sum lb)) := hp.at_ 35 (by rfl)
        refine Rg.step_run (v := .bool true) (w' := w') rfl (Rg.wanted_some (g := 23) (b := true) (d := 91) rfl (by rfl) (hp.at_ 23 (by rfl))) (by simp) ?_ rfl (Below.refl _ _)
        clear hp
        obtain ⟨ec, eg, ef⟩ := Rg.eval_at a
        generalize a.eval = ρ at *
        go_simp
      case s37 =>
        intro a w' hp
        have e91 : a.eval (.tmp 91) = .bool true := hp.at_ 23 (by rfl)
        have e104 : a.eval (.tmp 104) = .bool true := hp.at_ 36 (by rfl)
        refine Rg.step_run (v := .bool true) (w' := w') rfl (Rg.wanted_none rfl) (by simp) ?_ rfl (Below.refl _ _)
        clear hp
        obtain ⟨ec, eg, ef⟩ := Rg.eval_at a
        generalize a.eval = ρ at *
        go_simp
      case s38 =>
        intro a w' hp
        have e105 : a.eval (.tmp 105) = .bool true := hp.at_ 37 (by rfl)
        exact Rg.step_run (v := a.eval (.tmp 105)) (w' := w') rfl (Rg.wanted_none rfl) (by simp) rfl e105 (Below.refl _ _)
      case s39 =>
        intro a w' hp
        have e10 : a.eval (.tmp 10) = .slice (some ⟨w1.heap.size, 0, none⟩) n n := hp.rest 10 (by rfl)
        exact Rg.step_run (v := a.eval (.tmp 10)) (w' := w') rfl (Rg.wanted_some (g := 38) (b := true) (d := 106) rfl (by rfl) (hp.at_ 38 (by rfl))) (by simp) rfl e10 (Below.refl _ _)
      case s40 =>
        intro a w' hp
        have e107 : a.eval (.tmp 107) = .slice (some ⟨w1.heap.size, 0, none⟩) n n := hp.at_ 39 (by rfl)
        refine Rg.step_run (v := .slice (some ⟨w'.heap.size, 0, none⟩) 1 1) (w' := w'.alloc (.cells #[.slice (some ⟨w1.heap.size, 0, none⟩) n n] 22)) rfl (Rg.wanted_some (g := 38) (b := true) (d := 106) rfl (by rfl) (hp.at_ 38 (by rfl))) (by simp) ?_ (IsRow.lit w' #[.slice (some ⟨w1.heap.size, 0, none⟩) n n] 22) ((Below.refl _ _).alloc (Nat.le_refl _) _)
        clear hp
        obtain ⟨ec, eg, ef⟩ := Rg.eval_at a
        generalize a.eval = ρ at *
        go_simp
      case s41 =>
        intro a w' hp
        have e108 : (IsRow 1 [.slice (some ⟨w1.heap.size, 0, none⟩) n n]) (a.eval (.tmp 108)) w' := hp.at_ 40 (by rfl)
        obtain ⟨A9, c9, e108, hrow⟩ := e108
        have hg : Below w3.heap.size w3 w' := (Below.refl w3.heap.size w3).drew.trans hp.grew
        refine Rg.step_call (f := 13) (args := #[.slice A9 1 c9]) rfl (Rg.wanted_some (g := 38) (b := true) (d := 106) rfl (by rfl) (hp.at_ 38 (by rfl))) (by simp) (by clear hp hg hrow; obtain ⟨ec, eg, ef⟩ := Rg.eval_at a; generalize a.eval = ρ at *; go_simp) ?_
        refine (sum_any [⟨some ⟨w1.heap.size, 0, none⟩, n, n, xs⟩] w' A9 1 c9 w'.heap.size hrow (by omega) ?_ (ht3.below hg (Nat.le_refl _))).mono ?_
        · intro p hp1
          simp only [List.mem_cons, List.not_mem_nil, or_false] at hp1
          rcases hp1 with rfl
          · exact ⟨(Bytes.below (kx) hg (Nat.le_refl _)).mono hg.size, by dsimp only; omega⟩
        · rintro e w2' ⟨rfl, rfl⟩
          exact ⟨_, rfl, (show Value.int .u32 (u (Crc.sum (allOf [⟨some ⟨w1.heap.size, 0, none⟩, n, n, xs⟩]))) = .int .u32 (u (Crc.sum lb ^^^ Crc.sum (lo.take n) ^^^ Crc.sum (List.replicate n 0))) by rw [← H4.out]; simp [allOf]), Below.refl _ _⟩
      case s42 =>
        intro a w' hp
        have e0 : a.eval (.tmp 0) = .slice A n c := hp.rest 0 (by rfl)
        exact Rg.step_run (v := a.eval (.tmp 0)) (w' := w') rfl (Rg.wanted_some (g := 38) (b := true) (d := 106) rfl (by rfl) (hp.at_ 38 (by rfl))) (by simp) rfl e0 (Below.refl _ _)
      case s43 =>
        intro a w' hp
        have e110 : a.eval (.tmp 110) = .slice A n c := hp.at_ 42 (by rfl)
        refine Rg.step_run (v := .slice (some ⟨w'.heap.size, 0, none⟩) 1 1) (w' := w'.alloc (.cells #[.slice A n c] 22)) rfl (Rg.wanted_some (g := 38) (b := true) (d := 106) rfl (by rfl) (hp.at_ 38 (by rfl))) (by simp) ?_ (IsRow.lit w' #[.slice A n c] 22) ((Below.refl _ _).alloc (Nat.le_refl _) _)
        clear hp
        obtain ⟨ec, eg, ef⟩ := Rg.eval_at a
        generalize a.eval = ρ at *
        go_simp
      case s44 =>
        intro a w' hp
        have e111 : (IsRow 1 [.slice A n c]) (a.eval (.tmp 111)) w' := hp.at_ 43 (by rfl)
        obtain ⟨A9, c9, e111, hrow⟩ := e111
        have hg : Below w3.heap.size w3 w' := (Below.refl w3.heap.size w3).drew.trans hp.grew
        refine Rg.step_call (f := 13) (args := #[.slice A9 1 c9]) rfl (Rg.wanted_some (g := 38) (b := true) (d := 106) rfl (by rfl) (hp.at_ 38 (by rfl))) (by simp) (by clear hp hg hrow; obtain ⟨ec, eg, ef⟩ := Rg.eval_at a; generalize a.eval = ρ at *; go_simp) ?_
        refine (sum_any [⟨A, n, c, lb⟩] w' A9 1 c9 w'.heap.size hrow (by omega) ?_ (ht3.below hg (Nat.le_refl _))).mono ?_
        · intro p hp1
          simp only [List.mem_cons, List.not_mem_nil, or_false] at hp1
          rcases hp1 with rfl
          · exact ⟨(Bytes.below (kb) hg (Nat.le_refl _)).mono hg.size, by dsimp only; omega⟩
        · rintro e w2' ⟨rfl, rfl⟩
          exact ⟨_, rfl, (show Value.int .u32 (u (Crc.sum (allOf [⟨A, n, c, lb⟩]))) = .int .u32 (u (Crc.sum lb)) by simp [allOf]), Below.refl _ _⟩
      case s45 =>
        intro a w' hp
        have e3 : a.eval (.tmp 3) = .slice A' n' c' := hp.rest 3 (by rfl)
        exact Rg.step_run (v := a.eval (.tmp 3)) (w' := w') rfl (Rg.wanted_some (g := 38) (b := true) (d := 106) rfl (by rfl) (hp.at_ 38 (by rfl))) (by simp) rfl e3 (Below.refl _ _)
      case s46 =>
        intro a w' hp
        have e0 : a.eval (.tmp 0) = .slice A n c := hp.rest 0 (by rfl)
        exact Rg.step_run (v := a.eval (.tmp 0)) (w' := w') rfl (Rg.wanted_some (g := 38) (b := true) (d := 106) rfl (by rfl) (hp.at_ 38 (by rfl))) (by simp) rfl e0 (Below.refl _ _)
      case s47 =>
        intro a w' hp
        have e114 : a.eval (.tmp 114) = .slice A n c := hp.at_ 46 (by rfl)
        refine Rg.step_run (v := .int .i64 (n : Int)) (w' := w') rfl (Rg.wanted_some (g := 38) (b := true) (d := 106) rfl (by rfl) (hp.at_ 38 (by rfl))) (by simp) ?_ rfl (Below.refl _ _)
        clear hp
        obtain ⟨ec, eg, ef⟩ := Rg.eval_at a
        generalize a.eval = ρ at *
        go_simp
      case s48 =>
        intro a w' hp
        have e113 : a.eval (.tmp 113) = .slice A' n' c' := hp.at_ 45 (by rfl)
        have e115 : a.eval (.tmp 115) = .int .i64 (n : Int) := hp.at_ 47 (by rfl)
        refine Rg.step_run (w' := w') rfl (Rg.wanted_some (g := 38) (b := true) (d := 106) rfl (by rfl) (hp.at_ 38 (by rfl))) (by simp) ?_ rfl (Below.refl _ _)
        clear hp
        simp only [execOp, Option.map, e113, e115]
        rw [Sem.run_bind, run_cut_h _ _ _ _ _ (by omega)]
        rfl
      case s49 =>
        intro a w' hp
        have e116 : a.eval (.tmp 116) = .slice A' n c' := hp.at_ 48 (by rfl)
        refine Rg.step_run (v := .slice (some ⟨w'.heap.size, 0, none⟩) 1 1) (w' := w'.alloc (.cells #[.slice A' n c'] 22)) rfl (Rg.wanted_some (g := 38) (b := true) (d := 106) rfl (by rfl) (hp.at_ 38 (by rfl))) (by simp) ?_ (IsRow.lit w' #[.slice A' n c'] 22) ((Below.refl _ _).alloc (Nat.le_refl _) _)
        clear hp
        obtain ⟨ec, eg, ef⟩ := Rg.eval_at a
        generalize a.eval = ρ at *
        go_simp
      case s50 =>
        intro a w' hp
        have e117 : (IsRow 1 [.slice A' n c']) (a.eval (.tmp 117)) w' := hp.at_ 49 (by rfl)
        obtain ⟨A9, c9, e117, hrow⟩ := e117
        have hg : Below w3.heap.size w3 w' := (Below.refl w3.heap.size w3).drew.trans hp.grew
        refine Rg.step_call (f := 13) (args := #[.slice A9 1 c9]) rfl (Rg.wanted_some (g := 38) (b := true) (d := 106) rfl (by rfl) (hp.at_ 38 (by rfl))) (by simp) (by clear hp hg hrow; obtain ⟨ec, eg, ef⟩ := Rg.eval_at a; generalize a.eval = ρ at *; go_simp) ?_
        refine (sum_any [⟨A', n, c', lo.take n⟩] w' A9 1 c9 w'.heap.size hrow (by omega) ?_ (ht3.below hg (Nat.le_refl _))).mono ?_
        · intro p hp1
          simp only [List.mem_cons, List.not_mem_nil, or_false] at hp1
          rcases hp1 with rfl
          · exact ⟨(Bytes.below (ko.front (by (try dsimp only); omega)) hg (Nat.le_refl _)).mono hg.size, by dsimp only; omega⟩
        · rintro e w2' ⟨rfl, rfl⟩
          exact ⟨_, rfl, (show Value.int .u32 (u (Crc.sum (allOf [⟨A', n, c', lo.take n⟩]))) = .int .u32 (u (Crc.sum (lo.take n))) by simp [allOf]), Below.refl _ _⟩
      case s51 =>
        intro a w' hp
        have e112 : a.eval (.tmp 112) = .int .u32 (u (Crc.sum lb)) := hp.at_ 44 (by rfl)
        have e118 : a.eval (.tmp 118) = .int .u32 (u (Crc.sum (lo.take n))) := hp.at_ 50 (by rfl)
        refine Rg.step_run (v := .int .u32 (u (Crc.sum lb ^^^ Crc.sum (lo.take n)))) (w' := w') rfl (Rg.wanted_some (g := 38) (b := true) (d := 106) rfl (by rfl) (hp.at_ 38 (by rfl))) (by simp) ?_ rfl (Below.refl _ _)
        clear hp
        obtain ⟨ec, eg, ef⟩ := Rg.eval_at a
        generalize a.eval = ρ at *
        go_simp
      case s52 =>
        intro a w' hp
        have e12 : a.eval (.tmp 12) = .slice (some ⟨wr.heap.size, 0, none⟩) n n := hp.rest 12 (by rfl)
        exact Rg.step_run (v := a.eval (.tmp 12)) (w' := w') rfl (Rg.wanted_some (g := 38) (b := true) (d := 106) rfl (by rfl) (hp.at_ 38 (by rfl))) (by simp) rfl e12 (Below.refl _ _)
      case s53 =>
        intro a w' hp
        have e120 : a.eval (.tmp 120) = .slice (some ⟨wr.heap.size, 0, none⟩) n n := hp.at_ 52 (by rfl)
        refine Rg.step_run (v := .slice (some ⟨w'.heap.size, 0, none⟩) 1 1) (w' := w'.alloc (.cells #[.slice (some ⟨wr.heap.size, 0, none⟩) n n] 22)) rfl (Rg.wanted_some (g := 38) (b := true) (d := 106) rfl (by rfl) (hp.at_ 38 (by rfl))) (by simp) ?_ (IsRow.lit w' #[.slice (some ⟨wr.heap.size, 0, none⟩) n n] 22) ((Below.refl _ _).alloc (Nat.le_refl _) _)
        clear hp
        obtain ⟨ec, eg, ef⟩ := Rg.eval_at a
        generalize a.eval = ρ at *
        go_simp
      case s54 =>
        intro a w' hp
        have e121 : (IsRow 1 [.slice (some ⟨wr.heap.size, 0, none⟩) n n]) (a.eval (.tmp 121)) w' := hp.at_ 53 (by rfl)
        obtain ⟨A9, c9, e121, hrow⟩ := e121
        have hg : Below w3.heap.size w3 w' := (Below.refl w3.heap.size w3).drew.trans hp.grew
        refine Rg.step_call (f := 13) (args := #[.slice A9 1 c9]) rfl (Rg.wanted_some (g := 38) (b := true) (d := 106) rfl (by rfl) (hp.at_ 38 (by rfl))) (by simp) (by clear hp hg hrow; obtain ⟨ec, eg, ef⟩ := Rg.eval_at a; generalize a.eval = ρ at *; go_simp) ?_
        refine (sum_any [⟨some ⟨wr.heap.size, 0, none⟩, n, n, List.replicate n 0⟩] w' A9 1 c9 w'.heap.size hrow (by omega) ?_ (ht3.below hg (Nat.le_refl _))).mono ?_
        · intro p hp1
          simp only [List.mem_cons, List.not_mem_nil, or_false] at hp1
          rcases hp1 with rfl
          · exact ⟨(Bytes.below (kz) hg (Nat.le_refl _)).mono hg.size, by dsimp only; omega⟩
        · rintro e w2' ⟨rfl, rfl⟩
          exact ⟨_, rfl, (show Value.int .u32 (u (Crc.sum (allOf [⟨some ⟨wr.heap.size, 0, none⟩, n, n, List.replicate n 0⟩]))) = .int .u32 (u (Crc.sum (List.replicate n 0))) by simp [allOf]), Below.refl _ _⟩
      case s55 =>
        intro a w' hp
        have e119 : a.eval (.tmp 119) = .int .u32 (u (Crc.sum lb ^^^ Crc.sum (lo.take n))) := hp.at_ 51 (by rfl)
        have e122 : a.eval (.tmp 122) = .int .u32 (u (Crc.sum (List.replicate n 0))) := hp.at_ 54 (by rfl)
        refine Rg.step_run (v := .int .u32 (u (Crc.sum lb ^^^ Crc.sum (lo.take n) ^^^ Crc.sum (List.replicate n 0)))) (w' := w') rfl (Rg.wanted_some (g := 38) (b := true) (d := 106) rfl (by rfl) (hp.at_ 38 (by rfl))) (by simp) ?_ rfl (Below.refl _ _)
        clear hp
        obtain ⟨ec, eg, ef⟩ := Rg.eval_at a
        generalize a.eval = ρ at *
        go_simp
      case s56 =>
        intro a w' hp
        have e109 : a.eval (.tmp 109) = .int .u32 (u (Crc.sum lb ^^^ Crc.sum (lo.take n) ^^^ Crc.sum (List.replicate n 0))) := hp.at_ 41 (by rfl)
        have e123 : a.eval (.tmp 123) = .int .u32 (u (Crc.sum lb ^^^ Crc.sum (lo.take n) ^^^ Crc.sum (List.replicate n 0))) := hp.at_ 55 (by rfl)
        refine Rg.step_run (v := .bool true) (w' := w') rfl (Rg.wanted_some (g := 38) (b := true) (d := 106) rfl (by rfl) (hp.at_ 38 (by rfl))) (by simp) ?_ rfl (Below.refl _ _)
        clear hp
        obtain ⟨ec, eg, ef⟩ := Rg.eval_at a
        generalize a.eval = ρ at *
        go_simp
      case s57 =>
        intro a w' hp
        have e106 : a.eval (.tmp 106) = .bool true := hp.at_ 38 (by rfl)
        have e124 : a.eval (.tmp 124) = .bool true := hp.at_ 56 (by rfl)
        refine Rg.step_run (v := .bool true) (w' := w') rfl (Rg.wanted_none rfl) (by simp) ?_ rfl (Below.refl _ _)
        clear hp
        obtain ⟨ec, eg, ef⟩ := Rg.eval_at a
        generalize a.eval = ρ at *
        go_simp
      case s58 =>
        intro a w' hp
        have e125 : a.eval (.tmp 125) = .bool true := hp.at_ 57 (by rfl)
        exact Rg.step_run (v := a.eval (.tmp 125)) (w' := w') rfl (Rg.wanted_none rfl) (by simp) rfl e125 (Below.refl _ _)
      case mono =>
        refine Rg.mono_getD _ ?_
        intro p hp
        repeat (rcases List.mem_cons.1 hp with rfl | hp; first | exact Rg.mono_eq _ | exact IsRow.mono _ _)
        cases hp
      case fin =>
        intro a w' hsz hdf hrest hdone hb
        have hv : a.tmps.getD 8 undef = .bool true := hdone 58 (by decide)
        have hdf' : a.defers = [] := hdf
        have hbb : Below w.heap.size w w' := hb3.trans (hb.mono hb3.size)
        clear hrest hdone
        go_wp2
        refine bodyPost_ret (v := .bool true) ?_ hdf' ⟨rfl, hbb⟩
        simp [results, Tryd.results5, go_sem]
        exact (Array.getD_eq_getD_getElem? ..).symm.trans hv

set_option maxHeartbeats 1600000 in
theorem crcParts_walk (A : Option Addr) (n c : Nat) (lb : List UInt8) (i k : Int) (A' : Option Addr) (n' c' : Nat) (lo : List UInt8) (w : World) (h0 : InBytes w A n c lb)
    (bi : -9223372036854775808 ≤ i) (bi' : i ≤ 9223372036854775807) (bk : -9223372036854775808 ≤ k) (bk' : k ≤ 9223372036854775807) (h1 : InBytes w A' n' c' lo) (ht : Steps w) :
    Calls Tryd.prog 5 #[.slice A n c, .int .i64 i, .int .i64 k, .slice A' n' c'] w fun e w' => e = .returned (.bool true) ∧ Below w.heap.size w w' := by
  by_cases hn : n ≤ 200
  · by_cases hnn : n ≤ n'
    · by_cases hn' : n' ≤ 300
      · exact parts_walk A n c lb i k A' n' c' lo w h0 h1 bi bi' bk bk' ht hn hnn hn'
      · have d2 : decide (200 < (n : Int)) = false := by simp; omega
        have d3 : decide ((n' : Int) < (n : Int)) = false := by simp; omega
        have d4 : decide (300 < (n' : Int)) = true := by simp; omega
        go_enter Tryd.func5, Tryd.ntmps5
        go_wp2_with (go_at_call 7; refine (first_any _ ht).mono ?_; rintro e w1 ⟨rfl, hb1⟩)
        go_ret
        exact ⟨rfl, hb1⟩
    · have d2 : decide (200 < (n : Int)) = false := by simp; omega
      have d3 : decide ((n' : Int) < (n : Int)) = true := by simp; omega
      go_enter Tryd.func5, Tryd.ntmps5
      go_wp2_with (go_at_call 7; refine (first_any _ ht).mono ?_; rintro e w1 ⟨rfl, hb1⟩)
      go_ret
      exact ⟨rfl, hb1⟩
  · have d2 : decide (200 < (n : Int)) = true := by simp; omega
    go_enter Tryd.func5, Tryd.ntmps5
    go_wp2_with (go_at_call 7; refine (first_any _ ht).mono ?_; rintro e w1 ⟨rfl, hb1⟩)
    go_ret
    exact ⟨rfl, hb1⟩
end Go.Proofs.YtklijhfieopakaaDoor
