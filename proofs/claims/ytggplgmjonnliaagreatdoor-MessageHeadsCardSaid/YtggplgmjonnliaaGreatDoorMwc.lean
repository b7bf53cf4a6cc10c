/- Package message: partBytes, Bytes of an Unlock. Printed by tools/specs/message/heads.py. -/
import Derived.Test.YtggplgmjonnliaaGreatDoorMwb
namespace Go.Proofs.YtggplgmjonnliaaGreatDoor
open Go.RowKit

namespace Ms
theorem seen_zero {E : Int → Option Addr} {v : Value} (h : SeenBy E v 0) : v = .nilIface := by
  cases h with
  | nil => rfl
  | err _ a h hc => exact absurd rfl hc
def Ok1 (x : Int) : Prop := 1 ≤ x ∧ x ≤ 1073741824
theorem Ok1.i64 {x : Int} (h : Ok1 x) : -9223372036854775808 ≤ x ∧ x ≤ 9223372036854775807 := by
  unfold Ok1 at h
  omega
theorem good5 {wk : ByteArray} {inc key task : Int} (hw : Vr.name wk.data.toList = true) (hi : Ok1 inc) (hk : Ok1 key) (ht : Ok1 task) : checkNo5 wk ⟨#[]⟩ ⟨#[]⟩ ⟨#[]⟩ inc key 0 0 0 0 0 task 3 0 = 0 := by
  unfold Ok1 at hi hk ht
  unfold checkNo5
  rw [if_neg (by rw [hw]; decide), if_neg, if_neg (by decide +kernel)]
  · unfold leaseNo wi
    rw [if_neg]
    · decide
    · simp only [Bool.and_eq_false_iff, decide_eq_false_iff_not]
      omega
  · unfold wi
    simp only [Bool.and_eq_false_iff, decide_eq_false_iff_not]
    omega
/-- The bytes of an Unlock. -/
def unl (wk : ByteArray) (inc key task : Int) : List UInt8 := (textOf wk ++ encs [inc, key]) ++ (encs [5] ++ encs [task, 3])
set_option maxRecDepth 10000 in
set_option maxHeartbeats 3200000 in
theorem partBytes_5 (wk : ByteArray) (inc key task : Int) (w : World) (ht : Ok1 task) : Calls Tryz.prog 17 #[.agg #[.string wk, .int .i64 inc, .int .i64 key, .int .i64 5, .string ⟨#[]⟩, .slice none 0 0, .slice none 0 0, .string ⟨#[]⟩, .slice none 0 0, .slice none 0 0, .int .i64 0, .int .i64 0, .int .i64 task, .int .i64 3, .int .i64 0, .string ⟨#[]⟩]] w (Put w (encs [task, 3])) := by
  have HB0 := Lib.hid (bel_on (Below.refl w.heap.size w) (.cells #[.string wk, .int .i64 inc, .int .i64 key, .int .i64 5, .string ⟨#[]⟩, .slice none 0 0, .slice none 0 0, .string ⟨#[]⟩, .slice none 0 0, .slice none 0 0, .int .i64 0, .int .i64 0, .int .i64 task, .int .i64 3, .int .i64 0, .string ⟨#[]⟩] 33))
  have HCA := Lib.hid (Cel.lit w #[.string wk, .int .i64 inc, .int .i64 key, .int .i64 5, .string ⟨#[]⟩, .slice none 0 0, .slice none 0 0, .string ⟨#[]⟩, .slice none 0 0, .slice none 0 0, .int .i64 0, .int .i64 0, .int .i64 task, .int .i64 3, .int .i64 0, .string ⟨#[]⟩] 33)
  have HPN := Lib.hid (fun D W hns => put_nums none D 0 0 2 [] [task, 3] W (Bytes.nil _ _ _) (fun _ => ⟨rfl, rfl⟩) (by decide) hns (by decide) (by
    intro x hx
    simp only [List.mem_cons, List.not_mem_nil, or_false] at hx
    rcases hx with rfl | rfl
    · exact ht.i64
    · decide))
  go_enter Tryz.func17, Tryz.ntmps17
  go_upto_region 1 with (fail)
  generalize w.alloc _ = wa at *
  obtain ⟨z, hz⟩ : ∃ z, w.heap.size = z := ⟨_, rfl⟩
  rw [hz] at HCA
  have HZ := Lib.hid hz
  simp only [hz]
  clear hz
  have ha := HCA.out
  have a0 := ha.cell 0 _ rfl
  have a1 := ha.cell 1 _ rfl
  have a2 := ha.cell 2 _ rfl
  have a3 := ha.cell 3 _ rfl
  have a4 := ha.cell 4 _ rfl
  have a5 := ha.cell 5 _ rfl
  have a6 := ha.cell 6 _ rfl
  have a7 := ha.cell 7 _ rfl
  have a8 := ha.cell 8 _ rfl
  have a9 := ha.cell 9 _ rfl
  have a10 := ha.cell 10 _ rfl
  have a11 := ha.cell 11 _ rfl
  have a12 := ha.cell 12 _ rfl
  have a13 := ha.cell 13 _ rfl
  have a14 := ha.cell 14 _ rfl
  have a15 := ha.cell 15 _ rfl
  clear ha
  go_wp2_with (go_at_call 15; (with_reducible refine (HPN.out _ _ (row2i _ _ _ _ _ (by first | rfl | simp))).mono ?_); rintro e w1 ⟨A1, m1, c1, rfl, ho1, hb1⟩; have hs1 : Below wa.heap.size wa w1 := bel_from (by repeat (first | exact Below.refl _ _ | refine bel_on ?_ _ | refine bel_dr ?_)) hb1; have HB1 := Lib.hid hs1; have HO1 := Lib.hid (own_base ho1 (show w.heap.size ≤ _ from Nat.le_trans HB0.out.size (by first | exact Nat.le_refl _ | simp))); clear hs1 ho1 hb1 a0 a1 a2 a3 a4 a5 a6 a7 a8 a9 a10 a11 a12 a13 a14 a15; have ha := HCA.out.below HB1.out (Nat.le_refl _); have a0 := ha.cell 0 _ rfl; have a1 := ha.cell 1 _ rfl; have a2 := ha.cell 2 _ rfl; have a3 := ha.cell 3 _ rfl; have a4 := ha.cell 4 _ rfl; have a5 := ha.cell 5 _ rfl; have a6 := ha.cell 6 _ rfl; have a7 := ha.cell 7 _ rfl; have a8 := ha.cell 8 _ rfl; have a9 := ha.cell 9 _ rfl; have a10 := ha.cell 10 _ rfl; have a11 := ha.cell 11 _ rfl; have a12 := ha.cell 12 _ rfl; have a13 := ha.cell 13 _ rfl; have a14 := ha.cell 14 _ rfl; have a15 := ha.cell 15 _ rfl; clear ha)
  go_ret
  exact ⟨A1, m1, c1, rfl, HO1.out, HB0.out.trans (HB1.out.mono HB0.out.size)⟩
theorem encs_len2 {ns : List Int} (h : ∀ x ∈ ns, Ok1 x) : (encs ns).length ≤ 10 * ns.length := encs_len ns (fun x hx => (h x hx).i64)
set_option maxRecDepth 10000 in
set_option maxHeartbeats 3200000 in
theorem bytes_5 {W w : World} {E : Int → Option Addr} (wk : ByteArray) (inc key task : Int) (hE : MsErrs W E) (hb : Below W.heap.size W w) (hs : wk.size ≤ 24) (hw : Vr.name wk.data.toList = true) (hi : Ok1 inc) (hk : Ok1 key) (ht : Ok1 task) :
    Calls Tryz.prog 7 #[.agg #[.string wk, .int .i64 inc, .int .i64 key, .int .i64 5, .string ⟨#[]⟩, .slice none 0 0, .slice none 0 0, .string ⟨#[]⟩, .slice none 0 0, .slice none 0 0, .int .i64 0, .int .i64 0, .int .i64 task, .int .i64 3, .int .i64 0, .string ⟨#[]⟩]] w fun e w' => (∃ A m c, e = .returned (.tuple #[.slice A m c, .nilIface]) ∧ OwnBytes w' w.heap.size 5 A m c (unl wk inc key task)) ∧ Below w.heap.size w w' := by
  obtain ⟨i0, hi0, hz0, hz1, hz2⟩ := info_parts info_u8
  have HB0 := Lib.hid (bel_on (Below.refl w.heap.size w) (.cells #[.string wk, .int .i64 inc, .int .i64 key, .int .i64 5, .string ⟨#[]⟩, .slice none 0 0, .slice none 0 0, .string ⟨#[]⟩, .slice none 0 0, .slice none 0 0, .int .i64 0, .int .i64 0, .int .i64 task, .int .i64 3, .int .i64 0, .string ⟨#[]⟩] 33))
  have HCA := Lib.hid (Cel.lit w #[.string wk, .int .i64 inc, .int .i64 key, .int .i64 5, .string ⟨#[]⟩, .slice none 0 0, .slice none 0 0, .string ⟨#[]⟩, .slice none 0 0, .slice none 0 0, .int .i64 0, .int .i64 0, .int .i64 task, .int .i64 3, .int .i64 0, .string ⟨#[]⟩] 33)
  have HCK := Lib.hid (fun (V : World) (hV : Below w.heap.size w V) => check_5 (w := V) wk ⟨#[]⟩ ⟨#[]⟩ ⟨#[]⟩ inc key 0 0 task 3 0 none none none 0 0 0 0 0 0 hE (hb.trans (hV.mono hb.size)) (by decide) (by omega))
  rw [good5 hw hi hk ht] at HCK
  have HHB := Lib.hid (fun (V : World) => headBytes_any wk inc key V hs hi.i64 hk.i64)
  have HPB := Lib.hid (fun (V : World) => partBytes_5 wk inc key task V ht)
  have hl1 : (textOf wk ++ encs [inc, key]).length ≤ 54 := by
    have h1 := text_len hs
    have h2 := encs_len2 (ns := [inc, key]) (by
      intro x hx
      simp only [List.mem_cons, List.not_mem_nil, or_false] at hx
      rcases hx with rfl | rfl <;> assumption)
    rw [List.length_append]
    simp only [List.length_cons, List.length_nil] at h2
    omega
  have hl2 : (encs [5]).length ≤ 10 := encs_len2 (ns := [5]) (by
    intro x hx
    rw [List.mem_singleton] at hx
    subst hx
    unfold Ok1
    omega)
  have hl3 : (encs [task, 3]).length ≤ 20 := encs_len2 (ns := [task, 3]) (by
    intro x hx
    simp only [List.mem_cons, List.not_mem_nil, or_false] at hx
    rcases hx with rfl | rfl
    · exact ht
    · unfold Ok1
      omega)
  have h3pos : 0 < (encs [task, 3]).length := by
    unfold encs
    rw [List.flatMap_cons, List.length_append]
    have := enc_pos (zig task)
    omega
  have HL1 := Lib.hid hl1
  have HL2 := Lib.hid hl2
  have HL3 := Lib.hid hl3
  have HP3 := Lib.hid h3pos
  have HPN := Lib.hid (fun A D m c V hr hA hns => put_nums A D m c 1 (textOf wk ++ encs [inc, key]) [5] V hr hA (by omega) hns (by decide) (by simp))
  clear hl1 hl2 hl3 h3pos hs hw hi hk ht hE hb
  obtain ⟨l1, hl1⟩ : ∃ l, textOf wk ++ encs [inc, key] = l := ⟨_, rfl⟩
  obtain ⟨l2, hl2⟩ : ∃ l, encs [5] = l := ⟨_, rfl⟩
  obtain ⟨l3, hl3⟩ : ∃ l, encs [task, 3] = l := ⟨_, rfl⟩
  unfold unl
  rw [hl1, hl2, hl3]
  rw [hl1] at HHB HL1 HPN
  rw [hl2] at HPN HL2
  rw [hl3] at HPB HL3 HP3
  clear hl1 hl2 hl3
  go_enter Tryz.func7, Tryz.ntmps7
  go_upto_region 1 with (fail)
  generalize w.alloc _ = wa at *
  obtain ⟨z, hz⟩ : ∃ z, w.heap.size = z := ⟨_, rfl⟩
  rw [hz] at HCA
  simp only [hz]
  have HZ := Lib.hid hz
  clear hz
  have ha := HCA.out
  have a0 := ha.cell 0 _ rfl
  have a1 := ha.cell 1 _ rfl
  have a2 := ha.cell 2 _ rfl
  have a3 := ha.cell 3 _ rfl
  have a4 := ha.cell 4 _ rfl
  have a5 := ha.cell 5 _ rfl
  have a6 := ha.cell 6 _ rfl
  have a7 := ha.cell 7 _ rfl
  have a8 := ha.cell 8 _ rfl
  have a9 := ha.cell 9 _ rfl
  have a10 := ha.cell 10 _ rfl
  have a11 := ha.cell 11 _ rfl
  have a12 := ha.cell 12 _ rfl
  have a13 := ha.cell 13 _ rfl
  have a14 := ha.cell 14 _ rfl
  have a15 := ha.cell 15 _ rfl
  clear ha
  go_upto_region 4 with (go_at_call 13; (with_reducible refine (HCK.out _ HB0.out).mono ?_); rintro e w1 ⟨⟨ev, rfl, hev⟩, hb1⟩; obtain rfl := seen_zero hev; have HB1 := Lib.hid hb1; clear hev hb1 a0 a1 a2 a3 a4 a5 a6 a7 a8 a9 a10 a11 a12 a13 a14 a15; have ha := HCA.out.below HB1.out (Nat.le_refl _); have a0 := ha.cell 0 _ rfl; have a1 := ha.cell 1 _ rfl; have a2 := ha.cell 2 _ rfl; have a3 := ha.cell 3 _ rfl; have a4 := ha.cell 4 _ rfl; have a5 := ha.cell 5 _ rfl; have a6 := ha.cell 6 _ rfl; have a7 := ha.cell 7 _ rfl; have a8 := ha.cell 8 _ rfl; have a9 := ha.cell 9 _ rfl; have a10 := ha.cell 10 _ rfl; have a11 := ha.cell 11 _ rfl; have a12 := ha.cell 12 _ rfl; have a13 := ha.cell 13 _ rfl; have a14 := ha.cell 14 _ rfl; have a15 := ha.cell 15 _ rfl; clear ha)
  have HC1 := Lib.hid (HCA.out.below HB1.out (Nat.le_refl _))
  have HW1 : Hid (w.heap.size ≤ w1.heap.size) := Nat.le_trans HB0.out.size HB1.out.size
  have HS := Lib.hid (fun (V : World) (hV : Below w1.heap.size w1 V) => (show V.cell? ⟨z, 0, none⟩ = some (.string wk) ∧ V.cell? ⟨z, 1, none⟩ = some (.int .i64 inc) ∧ V.cell? ⟨z, 2, none⟩ = some (.int .i64 key) ∧ V.cell? ⟨z, 3, none⟩ = some (.int .i64 5) ∧ V.cell? ⟨z, 4, none⟩ = some (.string ⟨#[]⟩) ∧ V.cell? ⟨z, 5, none⟩ = some (.slice none 0 0) ∧ V.cell? ⟨z, 6, none⟩ = some (.slice none 0 0) ∧ V.cell? ⟨z, 7, none⟩ = some (.string ⟨#[]⟩) ∧ V.cell? ⟨z, 8, none⟩ = some (.slice none 0 0) ∧ V.cell? ⟨z, 9, none⟩ = some (.slice none 0 0) ∧ V.cell? ⟨z, 10, none⟩ = some (.int .i64 0) ∧ V.cell? ⟨z, 11, none⟩ = some (.int .i64 0) ∧ V.cell? ⟨z, 12, none⟩ = some (.int .i64 task) ∧ V.cell? ⟨z, 13, none⟩ = some (.int .i64 3) ∧ V.cell? ⟨z, 14, none⟩ = some (.int .i64 0) ∧ V.cell? ⟨z, 15, none⟩ = some (.string ⟨#[]⟩) from by
    have ha := HC1.out.below hV (Nat.le_refl _)
    exact ⟨ha.cell 0 _ rfl, ha.cell 1 _ rfl, ha.cell 2 _ rfl, ha.cell 3 _ rfl, ha.cell 4 _ rfl, ha.cell 5 _ rfl, ha.cell 6 _ rfl, ha.cell 7 _ rfl, ha.cell 8 _ rfl, ha.cell 9 _ rfl, ha.cell 10 _ rfl, ha.cell 11 _ rfl, ha.cell 12 _ rfl, ha.cell 13 _ rfl, ha.cell 14 _ rfl, ha.cell 15 _ rfl⟩))
  have S1 := HS.out _ (Below.refl w1.heap.size w1)
  clear a0 a1 a2 a3 a4 a5 a6 a7 a8 a9 a10 a11 a12 a13 a14 a15
  go_region_held3 (fun w' => w'.cell? ⟨z, 0, none⟩ = some (.string wk) ∧ w'.cell? ⟨z, 1, none⟩ = some (.int .i64 inc) ∧ w'.cell? ⟨z, 2, none⟩ = some (.int .i64 key) ∧ w'.cell? ⟨z, 3, none⟩ = some (.int .i64 5) ∧ w'.cell? ⟨z, 4, none⟩ = some (.string ⟨#[]⟩) ∧ w'.cell? ⟨z, 5, none⟩ = some (.slice none 0 0) ∧ w'.cell? ⟨z, 6, none⟩ = some (.slice none 0 0) ∧ w'.cell? ⟨z, 7, none⟩ = some (.string ⟨#[]⟩) ∧ w'.cell? ⟨z, 8, none⟩ = some (.slice none 0 0) ∧ w'.cell? ⟨z, 9, none⟩ = some (.slice none 0 0) ∧ w'.cell? ⟨z, 10, none⟩ = some (.int .i64 0) ∧ w'.cell? ⟨z, 11, none⟩ = some (.int .i64 0) ∧ w'.cell? ⟨z, 12, none⟩ = some (.int .i64 task) ∧ w'.cell? ⟨z, 13, none⟩ = some (.int .i64 3) ∧ w'.cell? ⟨z, 14, none⟩ = some (.int .i64 0) ∧ w'.cell? ⟨z, 15, none⟩ = some (.string ⟨#[]⟩)) (first | exact S5 | exact S4 | exact S3 | exact S2 | exact S1 | go_keep) (first
    | (refine step_append_kd (κ := bκ) rfl (.tmp 17) (.tmp 19) 34 5 i0 _ 1 Tryz.underlying34 hi0 hz0 hz1 hz2 rfl rfl w4 w1.heap.size _ A3 m3 c3 (l1 ++ l2) ad m4 c4 l3 rfl HO3.out rfl HR4.out (by omega) (by omega) (by decide) HB4.out.size ?_
       intro A5 c5 w5 ho5 hg5 _
       obtain ⟨M, hM⟩ : ∃ M, m3 + m4 = M := ⟨_, rfl⟩
       have HB5 := Lib.hid (HB4.out.trans (hg5.below HO3.out.2 HB4.out.size))
       rw [hM] at ho5 ⊢
       rw [List.append_assoc] at ho5
       have HO5 := Lib.hid (k_own ho5)
       have hMI : ¬ (4000 : Int) < (M : Int) := by omega
       have S5 := HS.out _ HB5.out
       clear ho5 hg5)
    | (go_at_call 16; (with_reducible refine (HHB.out _).mono ?_); rintro e w2 ⟨A2, m2, c2, rfl, ho2, hb2⟩; have hs2 : Below w1.heap.size w1 w2 := bel_from (by repeat (first | exact Below.refl _ _ | refine bel_on ?_ _ | refine bel_dr ?_)) hb2; have HB2 := Lib.hid hs2; have S2 := HS.out _ HB2.out; clear hs2)
    | (go_at_call 15; (with_reducible refine (HPN.out _ _ _ _ _ (by repeat (first | exact ho2.bytes | refine by_al ?_)) (own_nn ho2) (by repeat (first | exact row1i _ _ _ _ (by first | rfl | simp) | refine row_al ?_ | refine row_dr ?_ | refine row_on hb2 ?_))).mono ?_); rintro e w3 ⟨A3, m3, c3, rfl, ho3, hb3⟩; have hs3 : Below w2.heap.size w2 w3 := bel_from (by repeat (first | exact Below.refl _ _ | refine bel_on ?_ _ | refine bel_dr ?_)) hb3; have HB3 := Lib.hid (HB2.out.trans (hs3.mono HB2.out.size)); have HO3x := Lib.hid (own_base ho3 (show w1.heap.size ≤ _ from Nat.le_trans HB2.out.size (by first | exact Nat.le_refl _ | simp))); have S3 := HS.out _ HB3.out; clear hs3 ho3)
    | (go_at_call 17; (with_reducible refine (HPB.out _).mono ?_); rintro e w4 ⟨A4, m4, c4, rfl, ho4, hb4⟩; have HB4 := Lib.hid (HB3.out.trans (hb4.mono HB3.out.size)); have S4 := HS.out _ HB4.out; have hm4 : l3.length = m4 := ho4.len; have hm3 : (l1 ++ l2).length = m3 := OwnBytes.len HO3x.out; have hmm : m3 ≤ 64 ∧ m4 ≤ 20 ∧ 0 < m4 := (by have g1 := HL1.out; have g2 := HL2.out; have g3 := HL3.out; have g4 := HP3.out; rw [List.length_append] at hm3; omega); obtain ⟨ad, rfl⟩ : ∃ ad, A4 = some ad := (by cases A4 with | none => exact absurd (own_nn ho4 rfl).1 (by omega) | some a => exact ⟨a, rfl⟩); have HO3 := Lib.hid (own_k (own_below HO3x.out hb4 (Nat.le_refl _))); have HR4 := Lib.hid (by_k ho4.bytes); clear ho4 hb4 hm4 hm3))
  all_goals
    go_wp2
    go_ret2
    exact ⟨⟨A5, M, c5, rfl, own_base HO5.out HW1.out⟩, HB0.out.trans ((HB1.out.trans (HB5.out.mono HB1.out.size)).mono HB0.out.size)⟩
end Ms
end Go.Proofs.YtggplgmjonnliaaGreatDoor
