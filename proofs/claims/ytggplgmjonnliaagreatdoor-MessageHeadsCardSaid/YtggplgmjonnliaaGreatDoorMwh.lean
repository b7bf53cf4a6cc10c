/- MessageHeads: the walk. Printed by tools/specs/message/heads.py. -/
import Derived.Test.YtggplgmjonnliaaGreatDoorMwf
import Derived.Test.YtggplgmjonnliaaGreatDoorMwg
import Derived.Test.YtggplgmjonnliaaGreatDoorMso
import Derived.Test.YtggplgmjonnliaaGreatDoorSame
import Derived.Test.YtggplgmjonnliaaGreatDoorNumber
import Derived.Test.YtggplgmjonnliaaGreatDoorOpen
import Derived.Deep.MidRow
import Derived.Deep.CutBlock
namespace Go.Proofs.YtggplgmjonnliaaGreatDoor
open Go.RowKit
def ErrTy (w : World) : Prop := w.cell? ⟨16, 0, none⟩ = some (.iface 173 (.agg #[.pointer (some ⟨26, 36, none⟩)]))
open Ms
theorem Ms.same_task (wk : ByteArray) (inc key task task' : Int) (w : World) (ht : (task == task') = false) :
    Calls Tryz.prog 11 #[.agg #[.string wk, .int .i64 inc, .int .i64 key, .int .i64 5, .string ⟨#[]⟩, .slice none 0 0, .slice none 0 0, .string ⟨#[]⟩, .slice none 0 0, .slice none 0 0, .int .i64 0, .int .i64 0, .int .i64 task, .int .i64 3, .int .i64 0, .string ⟨#[]⟩], .agg #[.string wk, .int .i64 inc, .int .i64 key, .int .i64 5, .string ⟨#[]⟩, .slice none 0 0, .slice none 0 0, .string ⟨#[]⟩, .slice none 0 0, .slice none 0 0, .int .i64 0, .int .i64 0, .int .i64 task', .int .i64 3, .int .i64 0, .string ⟨#[]⟩]] w fun e w' => e = .returned (.bool false) ∧ Below w.heap.size w w' := by
  have h := same_bare wk ⟨#[]⟩ ⟨#[]⟩ ⟨#[]⟩ ⟨#[]⟩ ⟨#[]⟩ inc key 5 0 0 task 3 0 0 0 task' 3 0 none none none none none 0 0 0 0 0 0 0 0 0 0 w true (fun W _ => (eq_text_nil none 0 0 W).mono fun e w' ⟨h1, h2⟩ => ⟨h1, by rw [h2]; exact Below.refl _ _⟩) true true true true true false true true true (by decide +kernel) (by simp) rfl rfl rfl ht rfl rfl (by simp)
  exact h
theorem Ms.same_diff (wk wk' : ByteArray) (inc inc' key key' task task' : Int) (w : World) (h : ¬ (wk = wk' ∧ inc = inc' ∧ key = key' ∧ task = task')) :
    Calls Tryz.prog 11 #[.agg #[.string wk, .int .i64 inc, .int .i64 key, .int .i64 5, .string ⟨#[]⟩, .slice none 0 0, .slice none 0 0, .string ⟨#[]⟩, .slice none 0 0, .slice none 0 0, .int .i64 0, .int .i64 0, .int .i64 task, .int .i64 3, .int .i64 0, .string ⟨#[]⟩], .agg #[.string wk', .int .i64 inc', .int .i64 key', .int .i64 5, .string ⟨#[]⟩, .slice none 0 0, .slice none 0 0, .string ⟨#[]⟩, .slice none 0 0, .slice none 0 0, .int .i64 0, .int .i64 0, .int .i64 task', .int .i64 3, .int .i64 0, .string ⟨#[]⟩]] w fun e w' => e = .returned (.bool false) ∧ Below w.heap.size w w' := by
  have hb : ∀ a b : ByteArray, (a.toList == b.toList) = true ↔ a = b := fun a b => by
    rw [beq_iff_eq, ByteArray.toList_eq, ByteArray.toList_eq]
    exact ⟨fun h => by cases a; cases b; simp only [ByteArray.mk.injEq]; exact Array.toList_inj.1 h, fun e => by rw [e]⟩
  by_cases h1 : wk = wk'
  · by_cases h2 : inc = inc'
    · by_cases h3 : key = key'
      · subst h1 h2 h3
        exact same_task wk inc key task task' w (beq_eq_false_iff_ne.2 fun e => h ⟨rfl, rfl, rfl, e⟩)
      · exact same_ne wk wk' inc inc' key key' task task' w (.inr (.inr ⟨(hb _ _).2 h1, beq_iff_eq.2 h2, beq_eq_false_iff_ne.2 h3⟩))
    · exact same_ne wk wk' inc inc' key key' task task' w (.inr (.inl ⟨(hb _ _).2 h1, beq_eq_false_iff_ne.2 h2⟩))
  · exact same_ne wk wk' inc inc' key key' task task' w (.inl (by
      cases e : wk.toList == wk'.toList with
      | false => rfl
      | true => exact absurd ((hb _ _).1 e) h1))
theorem Ms.unl_len {wk : ByteArray} {inc key task : Int} (hw : wk.size ≤ 24) (hi : Ok1 inc) (hk : Ok1 key) (ht : Ok1 task) : (unl wk inc key task).length ≤ 1000 := by
  have h1 := text_len hw
  have h2 := encs_len2 (ns := [inc, key]) (by
    intro x hx
    simp only [List.mem_cons, List.not_mem_nil, or_false] at hx
    rcases hx with rfl | rfl <;> assumption)
  have h3 := encs_len2 (ns := [5]) (by
    intro x hx
    rw [List.mem_singleton] at hx
    subst hx
    unfold Ok1
    omega)
  have h4 := encs_len2 (ns := [task, 3]) (by
    intro x hx
    simp only [List.mem_cons, List.not_mem_nil, or_false] at hx
    rcases hx with rfl | rfl
    · exact ht
    · unfold Ok1
      omega)
  simp only [List.length_cons, List.length_nil] at h2 h3 h4
  unfold unl
  simp only [List.length_append]
  omega
def Ms.w1 : ByteArray := ⟨#[119, 45, 49]⟩
def Ms.w2 : ByteArray := ⟨#[119, 45, 50]⟩
theorem Ms.next_ne {I : Int} (h : Ok1 I) : ∃ r, I.tmod 1073741824 = r ∧ Ok1 (r + 1) ∧ r + 1 ≠ I ∧ IntKind.i64.wrap (r + 1) = r + 1 := by
  unfold Ok1 at *
  refine ⟨I % 1073741824, Int.tmod_eq_emod_of_nonneg (by omega), by omega, by omega, ?_⟩
  rw [IntKind.wrap_i64]
  omega
set_option maxRecDepth 10000 in
set_option maxHeartbeats 3200000 in
theorem messageHeads_walk (x0 x1 x2 x3 : Int) (ads : List Addr) (w : World) (ha0 : -9223372036854775808 ≤ x0) (ha1 : x0 ≤ 9223372036854775807) (hb0 : -9223372036854775808 ≤ x1) (hb1 : x1 ≤ 9223372036854775807) (hc0 : -9223372036854775808 ≤ x2) (hc1 : x2 ≤ 9223372036854775807) (hd0 : -9223372036854775808 ≤ x3) (hd1 : x3 ≤ 9223372036854775807) (hE0 : Errs w 224 sents ads) (_ : ErrTy w) :
    Calls Tryz.prog 3 #[.int .i64 x0, .int .i64 x1, .int .i64 x2, .int .i64 x3] w fun e w' => e = .returned (.bool true) ∧ Below w.heap.size w w' := by
  have HF := Lib.hid (first_any ads w hE0)
  have HE := Lib.hid hE0
  have HN0 := Lib.hid (fun (W : World) => number_any x0 1073741824 W (by decide) ha0 ha1 (by decide))
  have HN1 := Lib.hid (fun (W : World) => number_any x1 1073741824 W (by decide) hb0 hb1 (by decide))
  have HN2 := Lib.hid (fun (W : World) => number_any x2 1073741824 W (by decide) hc0 hc1 (by decide))
  have HN3 := Lib.hid (fun (W : World) => number_any x3 4 W (by decide) hd0 hd1 (by decide))
  clear hE0 ha0 ha1 hb0 hb1 hc0 hc1 hd0 hd1
  go_enter Tryz.func3, Tryz.ntmps3
  go_wp2_with fail
  refine HF.out.mono ?_
  rintro e w1 ⟨rfl, hb1⟩
  have HB1 := Lib.hid hb1
  clear HF hb1
  go_wp2_with fail
  refine (HN0.out _).mono ?_
  rintro e w1' ⟨⟨n0, rfl, hn0⟩, hw⟩
  subst hw
  obtain ⟨I, hI⟩ : ∃ I, (1 : Int) + (n0 : Int) = I := ⟨_, rfl⟩
  have hwI : IntKind.i64.wrap ((1 : Int) + (n0 : Int)) = I := by rw [IntKind.wrap_i64]; omega
  have HOI : Hid (Ok1 I) := by unfold Hid Ok1; omega
  go_wp2_with fail
  refine (HN1.out _).mono ?_
  rintro e w1' ⟨⟨n1, rfl, hn1⟩, hw⟩
  subst hw
  obtain ⟨K, hK⟩ : ∃ K, (1 : Int) + (n1 : Int) = K := ⟨_, rfl⟩
  have hwK : IntKind.i64.wrap ((1 : Int) + (n1 : Int)) = K := by rw [IntKind.wrap_i64]; omega
  have HOK : Hid (Ok1 K) := by unfold Hid Ok1; omega
  clear hI
  go_wp2_with fail
  refine (HN2.out _).mono ?_
  rintro e w1' ⟨⟨n2, rfl, hn2⟩, hw⟩
  subst hw
  obtain ⟨T0, hT⟩ : ∃ T0, (1 : Int) + (n2 : Int) = T0 := ⟨_, rfl⟩
  have hwT : IntKind.i64.wrap ((1 : Int) + (n2 : Int)) = T0 := by rw [IntKind.wrap_i64]; omega
  have HOT : Hid (Ok1 T0) := by unfold Hid Ok1; omega
  clear hK hT
  go_upto_region 5 with (fail)
  have hc2 := Cel.lit w1 #[.string ⟨#[119, 45, 49]⟩, .int .i64 I, .int .i64 K, .int .i64 5, .string ⟨#[]⟩, .slice none 0 0, .slice none 0 0, .string ⟨#[]⟩, .slice none 0 0, .slice none 0 0, .int .i64 0, .int .i64 0, .int .i64 T0, .int .i64 3, .int .i64 0, .string ⟨#[]⟩] 33
  have hb2 := bel_on (Below.refl w1.heap.size w1) (.cells #[.string ⟨#[119, 45, 49]⟩, .int .i64 I, .int .i64 K, .int .i64 5, .string ⟨#[]⟩, .slice none 0 0, .slice none 0 0, .string ⟨#[]⟩, .slice none 0 0, .slice none 0 0, .int .i64 0, .int .i64 0, .int .i64 T0, .int .i64 3, .int .i64 0, .string ⟨#[]⟩] 33)
  have HC2 := Lib.hid hc2
  have HB2 := Lib.hid (HB1.out.trans (hb2.mono HB1.out.size))
  have HZ1 : Hid (w.heap.size ≤ w1.heap.size) := HB1.out.size
  clear hc2 hb2
  generalize w1.alloc _ = w2 at *
  generalize w1.heap.size = z1 at *
  go_upto_region 6 with (refine wpList_load_mid rfl 33 (.tmp 10) rfl z1 0 rfl [.string ⟨#[119, 45, 49]⟩, .int .i64 I, .int .i64 K, .int .i64 5, .string ⟨#[]⟩, .slice none 0 0, .slice none 0 0, .string ⟨#[]⟩, .slice none 0 0, .slice none 0 0, .int .i64 0, .int .i64 0, .int .i64 T0, .int .i64 3, .int .i64 0, .string ⟨#[]⟩] _ (cel_range HC2.out) Tryz.underlying33 rfl req_size ?_)
  have hc3 := Cel.lit w2 #[.string ⟨#[119, 45, 49]⟩, .int .i64 I, .int .i64 K, .int .i64 5, .string ⟨#[]⟩, .slice none 0 0, .slice none 0 0, .string ⟨#[]⟩, .slice none 0 0, .slice none 0 0, .int .i64 0, .int .i64 0, .int .i64 T0, .int .i64 3, .int .i64 0, .string ⟨#[]⟩] 33
  have hb3 := bel_on (Below.refl w2.heap.size w2) (.cells #[.string ⟨#[119, 45, 49]⟩, .int .i64 I, .int .i64 K, .int .i64 5, .string ⟨#[]⟩, .slice none 0 0, .slice none 0 0, .string ⟨#[]⟩, .slice none 0 0, .slice none 0 0, .int .i64 0, .int .i64 0, .int .i64 T0, .int .i64 3, .int .i64 0, .string ⟨#[]⟩] 33)
  have HD3 := Lib.hid hc3
  have HC3 := Lib.hid (HC2.out.below hb3 (Nat.le_refl _))
  have HB3 := Lib.hid (HB2.out.trans (hb3.mono HB2.out.size))
  have HZ2 : Hid (w.heap.size ≤ w2.heap.size) := HB2.out.size
  have HZZ : Hid (z1 ≠ w2.heap.size) := Nat.ne_of_lt HC2.out.lt
  clear hc3 hb3 HC2 HB2
  generalize w2.alloc _ = w3 at *
  generalize w2.heap.size = z2 at *
  go_upto_block 0 with (go_at_call 6; (with_reducible refine (HN3.out _).mono ?_); rintro e w3' ⟨⟨n3, rfl, hn3⟩, hw⟩; subst hw)
  go_cut [] from 37 to 64 (fun wx => ∃ (wk' : ByteArray) (i' k' t' : Int), Cel wx z1 [.string ⟨#[119, 45, 49]⟩, .int .i64 I, .int .i64 K, .int .i64 5, .string ⟨#[]⟩, .slice none 0 0, .slice none 0 0, .string ⟨#[]⟩, .slice none 0 0, .slice none 0 0, .int .i64 0, .int .i64 0, .int .i64 T0, .int .i64 3, .int .i64 0, .string ⟨#[]⟩] ∧ Cel wx z2 [.string wk', .int .i64 i', .int .i64 k', .int .i64 5, .string ⟨#[]⟩, .slice none 0 0, .slice none 0 0, .string ⟨#[]⟩, .slice none 0 0, .slice none 0 0, .int .i64 0, .int .i64 0, .int .i64 t', .int .i64 3, .int .i64 0, .string ⟨#[]⟩] ∧ (wk'.size ≤ 24 ∧ Vr.name wk'.data.toList = true ∧ Ok1 i' ∧ Ok1 k' ∧ Ok1 t' ∧ ¬ (Ms.w1 = wk' ∧ I = i' ∧ K = k' ∧ T0 = t')) ∧ Below w.heap.size w wx)
  case first =>
    have hd3 := HD3.out
    have d0 := hd3.cell 0 _ rfl
    have d1 := hd3.cell 1 _ rfl
    have d2 := hd3.cell 2 _ rfl
    have d12 := hd3.cell 12 _ rfl
    have f0 := hd3.froz 0 (by simp)
    have f1 := hd3.froz 1 (by simp)
    have f2 := hd3.froz 2 (by simp)
    have f12 := hd3.froz 12 (by simp)
    clear hd3
    have hn : n3 = 0 ∨ n3 = 1 ∨ n3 = 2 ∨ n3 = 3 := by omega
    rcases hn with rfl | rfl | rfl | rfl
    · go_wp2
      go_meet
      exact ⟨Ms.w2, I, K, T0, HC3.out.kept (grown_setCell _ _ _) (fun e => HZZ.out (Option.some.inj e).symm), HD3.out.set (i := 0) (by simp) _, ⟨by decide, by decide +kernel, HOI.out, HOK.out, HOT.out, fun e => absurd e.1 (by decide)⟩, HB3.out.setCell (p := ⟨z2, 0, none⟩) HZ2.out _⟩
    · obtain ⟨r, hr, hro, hrn, hrw⟩ := next_ne HOI.out
      have HRO := Lib.hid hro
      clear hro
      go_wp2
      go_meet
      exact ⟨Ms.w1, r + 1, K, T0, HC3.out.kept (grown_setCell _ _ _) (fun e => HZZ.out (Option.some.inj e).symm), HD3.out.set (i := 1) (by simp) _, ⟨by decide, by decide +kernel, HRO.out, HOK.out, HOT.out, fun e => hrn e.2.1.symm⟩, HB3.out.setCell (p := ⟨z2, 1, none⟩) HZ2.out _⟩
    · obtain ⟨r, hr, hro, hrn, hrw⟩ := next_ne HOK.out
      have HRO := Lib.hid hro
      clear hro
      go_wp2
      go_meet
      exact ⟨Ms.w1, I, r + 1, T0, HC3.out.kept (grown_setCell _ _ _) (fun e => HZZ.out (Option.some.inj e).symm), HD3.out.set (i := 2) (by simp) _, ⟨by decide, by decide +kernel, HOI.out, HRO.out, HOT.out, fun e => hrn e.2.2.1.symm⟩, HB3.out.setCell (p := ⟨z2, 2, none⟩) HZ2.out _⟩
    · obtain ⟨r, hr, hro, hrn, hrw⟩ := next_ne HOT.out
      have HRO := Lib.hid hro
      clear hro
      go_wp2
      go_meet
      exact ⟨Ms.w1, I, K, r + 1, HC3.out.kept (grown_setCell _ _ _) (fun e => HZZ.out (Option.some.inj e).symm), HD3.out.set (i := 12) (by simp) _, ⟨by decide, by decide +kernel, HOI.out, HOK.out, HRO.out, fun e => hrn e.2.2.2.symm⟩, HB3.out.setCell (p := ⟨z2, 12, none⟩) HZ2.out _⟩
  case rest =>
    as_aux_lemma =>
      obtain ⟨wk', i', k', t', hc4, hd4, ⟨hv1, hv2, hv3, hv4, hv5, hv6⟩, hb4⟩ := hcut
      have HC4 := Lib.hid hc4
      have HD4 := Lib.hid hd4
      have HB4 := Lib.hid hb4
      have HV1 := Lib.hid hv1
      have HV2 := Lib.hid hv2
      have HV3 := Lib.hid hv3
      have HV4 := Lib.hid hv4
      have HV5 := Lib.hid hv5
      have HNE : Hid ((unl ⟨#[119, 45, 49]⟩ I K T0 == unl wk' i' k' t') = false) := beq_eq_false_iff_ne.2 (fun e => hv6 (unl_inj (by decide) hv1 HOI.out hv3 HOK.out hv4 HOT.out hv5 e))
      have HSD := Lib.hid (fun (V : World) => same_diff ⟨#[119, 45, 49]⟩ wk' I i' K k' T0 t' V hv6)
      clear hc4 hd4 hb4 hv1 hv2 hv3 hv4 hv5 hv6 HC3 HD3 HB3
      generalize wc = w4 at *
      have HBa := Lib.hid (bytes_5 (w := w4) ⟨#[119, 45, 49]⟩ I K T0 (msErrs16 HE.out) HB4.out (by decide) (by decide +kernel) HOI.out HOK.out HOT.out)
      go_wp2_with (refine wpList_load_mid rfl 33 (.tmp 10) rfl z1 0 rfl [.string ⟨#[119, 45, 49]⟩, .int .i64 I, .int .i64 K, .int .i64 5, .string ⟨#[]⟩, .slice none 0 0, .slice none 0 0, .string ⟨#[]⟩, .slice none 0 0, .slice none 0 0, .int .i64 0, .int .i64 0, .int .i64 T0, .int .i64 3, .int .i64 0, .string ⟨#[]⟩] _ (cel_range HC4.out) Tryz.underlying33 rfl req_size ?_)
      (with_reducible refine HBa.out.mono ?_)
      rintro e w5 ⟨⟨A1, m1, c1, rfl, ho1⟩, hb5⟩
      have HO1 := Lib.hid ho1
      have HB5 := Lib.hid (HB4.out.trans (hb5.mono HB4.out.size))
      have HC5 := Lib.hid (HC4.out.below hb5 (Nat.le_refl _))
      have HD5 := Lib.hid (HD4.out.below hb5 (Nat.le_refl _))
      have HBb := Lib.hid (bytes_5 (w := w5) wk' i' k' t' (msErrs16 HE.out) HB5.out HV1.out HV2.out HV3.out HV4.out HV5.out)
      clear ho1 hb5 HC4 HD4 HB4 HBa
      go_wp2_with (refine wpList_load_mid rfl 33 (.tmp 11) rfl z2 0 rfl [.string wk', .int .i64 i', .int .i64 k', .int .i64 5, .string ⟨#[]⟩, .slice none 0 0, .slice none 0 0, .string ⟨#[]⟩, .slice none 0 0, .slice none 0 0, .int .i64 0, .int .i64 0, .int .i64 t', .int .i64 3, .int .i64 0, .string ⟨#[]⟩] _ (cel_range HD5.out) Tryz.underlying33 rfl req_size ?_)
      (with_reducible refine HBb.out.mono ?_)
      rintro e w6 ⟨⟨A2, m2, c2, rfl, ho2⟩, hb6⟩
      have HY2 := Lib.hid ho2.bytes
      have HY1 := Lib.hid (by_on hb6 HO1.out.bytes)
      have HN1 := Lib.hid (own_nn HO1.out)
      have HN2 := Lib.hid (own_nn ho2)
      have HM1 : Hid (m1 ≤ 1000) := by
        have h1 := HO1.out.len
        have h2 := unl_len (wk := ⟨#[119, 45, 49]⟩) (by decide) HOI.out HOK.out HOT.out
        unfold Hid
        omega
      have HM2 : Hid (m2 ≤ 1000) := by
        have h1 := ho2.len
        have h2 := unl_len HV1.out HV3.out HV4.out HV5.out
        unfold Hid
        omega
      have HB6 := Lib.hid (HB5.out.trans (hb6.mono HB5.out.size))
      have HC6 := Lib.hid (HC5.out.below hb6 (Nat.le_refl _))
      have HD6 := Lib.hid (HD5.out.below hb6 (Nat.le_refl _))
      have HRa := Lib.hid (read_5 (w := w6) (rdErrs16 HE.out) (msErrs16 HE.out) HB6.out A1 m1 c1 HY1.out HN1.out (Nat.le_trans HM1.out (by decide)) (by decide) (by decide +kernel) HOI.out HOK.out HOT.out)
      clear ho2 hb6 HC5 HD5 HB5 HBb HO1
      go_wp2_with fail
      (with_reducible refine HRa.out.mono ?_)
      rintro e w7 ⟨rfl, hb7⟩
      have hb7a := bel_on (Below.refl w7.heap.size w7) (.cells #[.string ⟨#[119, 45, 49]⟩, .int .i64 I, .int .i64 K, .int .i64 5, .string ⟨#[]⟩, .slice none 0 0, .slice none 0 0, .string ⟨#[]⟩, .slice none 0 0, .slice none 0 0, .int .i64 0, .int .i64 0, .int .i64 T0, .int .i64 3, .int .i64 0, .string ⟨#[]⟩] 33)
      have hb7b : Below w6.heap.size w6 (w7.alloc (.cells #[.string ⟨#[119, 45, 49]⟩, .int .i64 I, .int .i64 K, .int .i64 5, .string ⟨#[]⟩, .slice none 0 0, .slice none 0 0, .string ⟨#[]⟩, .slice none 0 0, .slice none 0 0, .int .i64 0, .int .i64 0, .int .i64 T0, .int .i64 3, .int .i64 0, .string ⟨#[]⟩] 33)) := hb7.trans (hb7a.mono hb7.size)
      have HS7 := Lib.hid (Cel.lit w7 #[.string ⟨#[119, 45, 49]⟩, .int .i64 I, .int .i64 K, .int .i64 5, .string ⟨#[]⟩, .slice none 0 0, .slice none 0 0, .string ⟨#[]⟩, .slice none 0 0, .slice none 0 0, .int .i64 0, .int .i64 0, .int .i64 T0, .int .i64 3, .int .i64 0, .string ⟨#[]⟩] 33)
      have HB7 := Lib.hid (HB6.out.trans (hb7b.mono HB6.out.size))
      have HC7 := Lib.hid (HC6.out.below hb7b (Nat.le_refl _))
      have HD7 := Lib.hid (HD6.out.below hb7b (Nat.le_refl _))
      have HX1 := Lib.hid (by_on hb7b HY1.out)
      have HX2 := Lib.hid (by_on hb7b HY2.out)
      have HRb := Lib.hid (read_5 (w := w7.alloc (.cells #[.string ⟨#[119, 45, 49]⟩, .int .i64 I, .int .i64 K, .int .i64 5, .string ⟨#[]⟩, .slice none 0 0, .slice none 0 0, .string ⟨#[]⟩, .slice none 0 0, .slice none 0 0, .int .i64 0, .int .i64 0, .int .i64 T0, .int .i64 3, .int .i64 0, .string ⟨#[]⟩] 33)) (rdErrs16 HE.out) (msErrs16 HE.out) HB7.out A2 m2 c2 HX2.out HN2.out (Nat.le_trans HM2.out (by decide)) HV1.out HV2.out HV3.out HV4.out HV5.out)
      clear hb7 hb7a hb7b HC6 HD6 HB6 HY1 HY2 HRa
      go_upto_region 17 with (fail)
      generalize w7.alloc _ = w7a at *
      generalize w7.heap.size = z3 at *
      go_wp2_with fail
      (with_reducible refine HRb.out.mono ?_)
      rintro e w8 ⟨rfl, hb8⟩
      have hb8a := bel_on (Below.refl w8.heap.size w8) (.cells #[.string wk', .int .i64 i', .int .i64 k', .int .i64 5, .string ⟨#[]⟩, .slice none 0 0, .slice none 0 0, .string ⟨#[]⟩, .slice none 0 0, .slice none 0 0, .int .i64 0, .int .i64 0, .int .i64 t', .int .i64 3, .int .i64 0, .string ⟨#[]⟩] 33)
      have hb8b : Below w7a.heap.size w7a (w8.alloc (.cells #[.string wk', .int .i64 i', .int .i64 k', .int .i64 5, .string ⟨#[]⟩, .slice none 0 0, .slice none 0 0, .string ⟨#[]⟩, .slice none 0 0, .slice none 0 0, .int .i64 0, .int .i64 0, .int .i64 t', .int .i64 3, .int .i64 0, .string ⟨#[]⟩] 33)) := hb8.trans (hb8a.mono hb8.size)
      have HT9 := Lib.hid (Cel.lit w8 #[.string wk', .int .i64 i', .int .i64 k', .int .i64 5, .string ⟨#[]⟩, .slice none 0 0, .slice none 0 0, .string ⟨#[]⟩, .slice none 0 0, .slice none 0 0, .int .i64 0, .int .i64 0, .int .i64 t', .int .i64 3, .int .i64 0, .string ⟨#[]⟩] 33)
      have HS9 := Lib.hid (HS7.out.below hb8b (Nat.le_refl _))
      have HB9 := Lib.hid (HB7.out.trans (hb8b.mono HB7.out.size))
      have HC9 := Lib.hid (HC7.out.below hb8b (Nat.le_refl _))
      have HD9 := Lib.hid (HD7.out.below hb8b (Nat.le_refl _))
      have HW1 := Lib.hid (by_on hb8b HX1.out)
      have HW2 := Lib.hid (by_on hb8b HX2.out)
      clear hb8 hb8a hb8b HC7 HD7 HB7 HS7 HX1 HX2 HRb
      go_upto_region 18 with (fail)
      generalize w8.alloc _ = w9 at *
      generalize w8.heap.size = z4 at *
      as_aux_lemma =>
        have p0 := HS9.out.cell 0 _ rfl
        have p1 := HS9.out.cell 1 _ rfl
        have p2 := HS9.out.cell 2 _ rfl
        have p3 := HS9.out.cell 3 _ rfl
        have p4 := HS9.out.cell 4 _ rfl
        have p5 := HS9.out.cell 5 _ rfl
        have p6 := HS9.out.cell 6 _ rfl
        have p7 := HS9.out.cell 7 _ rfl
        have p8 := HS9.out.cell 8 _ rfl
        have p9 := HS9.out.cell 9 _ rfl
        have p10 := HS9.out.cell 10 _ rfl
        have p11 := HS9.out.cell 11 _ rfl
        have p12 := HS9.out.cell 12 _ rfl
        have p13 := HS9.out.cell 13 _ rfl
        have p14 := HS9.out.cell 14 _ rfl
        have p15 := HS9.out.cell 15 _ rfl
        have q0 := HC9.out.cell 0 _ rfl
        have q1 := HC9.out.cell 1 _ rfl
        have q2 := HC9.out.cell 2 _ rfl
        have q3 := HC9.out.cell 3 _ rfl
        have q4 := HC9.out.cell 4 _ rfl
        have q5 := HC9.out.cell 5 _ rfl
        have q6 := HC9.out.cell 6 _ rfl
        have q7 := HC9.out.cell 7 _ rfl
        have q8 := HC9.out.cell 8 _ rfl
        have q9 := HC9.out.cell 9 _ rfl
        have q10 := HC9.out.cell 10 _ rfl
        have q11 := HC9.out.cell 11 _ rfl
        have q12 := HC9.out.cell 12 _ rfl
        have q13 := HC9.out.cell 13 _ rfl
        have q14 := HC9.out.cell 14 _ rfl
        have q15 := HC9.out.cell 15 _ rfl
        go_wp2_with fail
        (with_reducible refine (dreq_same _ _ _ _ _).mono ?_)
        rintro e w10 ⟨rfl, hb10⟩
        have HB10 := Lib.hid (HB9.out.trans (hb10.mono HB9.out.size))
        have HC10 := Lib.hid (HC9.out.below hb10 (Nat.le_refl _))
        have HD10 := Lib.hid (HD9.out.below hb10 (Nat.le_refl _))
        have HT10 := Lib.hid (HT9.out.below hb10 (Nat.le_refl _))
        have HW1 := Lib.hid (by_on hb10 HW1.out)
        have HW2 := Lib.hid (by_on hb10 HW2.out)
        clear hb10 HC9 HD9 HT9 HS9 HB9 p0 p1 p2 p3 p4 p5 p6 p7 p8 p9 p10 p11 p12 p13 p14 p15 q0 q1 q2 q3 q4 q5 q6 q7 q8 q9 q10 q11 q12 q13 q14 q15
        as_aux_lemma =>
          have p0 := HT10.out.cell 0 _ rfl
          have p1 := HT10.out.cell 1 _ rfl
          have p2 := HT10.out.cell 2 _ rfl
          have p3 := HT10.out.cell 3 _ rfl
          have p4 := HT10.out.cell 4 _ rfl
          have p5 := HT10.out.cell 5 _ rfl
          have p6 := HT10.out.cell 6 _ rfl
          have p7 := HT10.out.cell 7 _ rfl
          have p8 := HT10.out.cell 8 _ rfl
          have p9 := HT10.out.cell 9 _ rfl
          have p10 := HT10.out.cell 10 _ rfl
          have p11 := HT10.out.cell 11 _ rfl
          have p12 := HT10.out.cell 12 _ rfl
          have p13 := HT10.out.cell 13 _ rfl
          have p14 := HT10.out.cell 14 _ rfl
          have p15 := HT10.out.cell 15 _ rfl
          have q0 := HD10.out.cell 0 _ rfl
          have q1 := HD10.out.cell 1 _ rfl
          have q2 := HD10.out.cell 2 _ rfl
          have q3 := HD10.out.cell 3 _ rfl
          have q4 := HD10.out.cell 4 _ rfl
          have q5 := HD10.out.cell 5 _ rfl
          have q6 := HD10.out.cell 6 _ rfl
          have q7 := HD10.out.cell 7 _ rfl
          have q8 := HD10.out.cell 8 _ rfl
          have q9 := HD10.out.cell 9 _ rfl
          have q10 := HD10.out.cell 10 _ rfl
          have q11 := HD10.out.cell 11 _ rfl
          have q12 := HD10.out.cell 12 _ rfl
          have q13 := HD10.out.cell 13 _ rfl
          have q14 := HD10.out.cell 14 _ rfl
          have q15 := HD10.out.cell 15 _ rfl
          go_wp2_with fail
          (with_reducible refine (dreq_same _ _ _ _ _).mono ?_)
          rintro e w11 ⟨rfl, hb11⟩
          have HB11 := Lib.hid (HB10.out.trans (hb11.mono HB10.out.size))
          have HC11 := Lib.hid (HC10.out.below hb11 (Nat.le_refl _))
          have HD11 := Lib.hid (HD10.out.below hb11 (Nat.le_refl _))
          have hsb := same_any A1 A2 m1 m2 c1 c2 _ _ w11 (by_on hb11 HW1.out) (by_on hb11 HW2.out) (Nat.le_trans HM1.out (by decide)) (Nat.le_trans HM2.out (by decide))
          rw [HNE.out] at hsb
          have HSB := Lib.hid hsb
          clear hb11 hsb HC10 HD10 HT10 HB10 p0 p1 p2 p3 p4 p5 p6 p7 p8 p9 p10 p11 p12 p13 p14 p15 q0 q1 q2 q3 q4 q5 q6 q7 q8 q9 q10 q11 q12 q13 q14 q15
          go_wp2_with fail
          (with_reducible refine HSB.out.mono ?_)
          rintro e w12 ⟨rfl, hb12⟩
          have HB12 := Lib.hid (HB11.out.trans (hb12.mono HB11.out.size))
          have HC12 := Lib.hid (HC11.out.below hb12 (Nat.le_refl _))
          have HD12 := Lib.hid (HD11.out.below hb12 (Nat.le_refl _))
          clear hb12 HC11 HD11 HB11
          as_aux_lemma =>
            have p0 := HC12.out.cell 0 _ rfl
            have p1 := HC12.out.cell 1 _ rfl
            have p2 := HC12.out.cell 2 _ rfl
            have p3 := HC12.out.cell 3 _ rfl
            have p4 := HC12.out.cell 4 _ rfl
            have p5 := HC12.out.cell 5 _ rfl
            have p6 := HC12.out.cell 6 _ rfl
            have p7 := HC12.out.cell 7 _ rfl
            have p8 := HC12.out.cell 8 _ rfl
            have p9 := HC12.out.cell 9 _ rfl
            have p10 := HC12.out.cell 10 _ rfl
            have p11 := HC12.out.cell 11 _ rfl
            have p12 := HC12.out.cell 12 _ rfl
            have p13 := HC12.out.cell 13 _ rfl
            have p14 := HC12.out.cell 14 _ rfl
            have p15 := HC12.out.cell 15 _ rfl
            have q0 := HD12.out.cell 0 _ rfl
            have q1 := HD12.out.cell 1 _ rfl
            have q2 := HD12.out.cell 2 _ rfl
            have q3 := HD12.out.cell 3 _ rfl
            have q4 := HD12.out.cell 4 _ rfl
            have q5 := HD12.out.cell 5 _ rfl
            have q6 := HD12.out.cell 6 _ rfl
            have q7 := HD12.out.cell 7 _ rfl
            have q8 := HD12.out.cell 8 _ rfl
            have q9 := HD12.out.cell 9 _ rfl
            have q10 := HD12.out.cell 10 _ rfl
            have q11 := HD12.out.cell 11 _ rfl
            have q12 := HD12.out.cell 12 _ rfl
            have q13 := HD12.out.cell 13 _ rfl
            have q14 := HD12.out.cell 14 _ rfl
            have q15 := HD12.out.cell 15 _ rfl
            go_wp2_with fail
            (with_reducible refine (HSD.out _).mono ?_)
            rintro e w13 ⟨rfl, hb13⟩
            have HB13 := Lib.hid (HB12.out.trans (hb13.mono HB12.out.size))
            clear hb13 p0 p1 p2 p3 p4 p5 p6 p7 p8 p9 p10 p11 p12 p13 p14 p15 q0 q1 q2 q3 q4 q5 q6 q7 q8 q9 q10 q11 q12 q13 q14 q15
            go_wp2
            go_ret
            exact ⟨by simp, HB13.out⟩
end Go.Proofs.YtggplgmjonnliaaGreatDoor
