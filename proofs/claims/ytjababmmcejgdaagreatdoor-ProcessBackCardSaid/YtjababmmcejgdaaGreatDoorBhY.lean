/- The program's Put of a process: a node, a flow in bytes. -/
import Derived.Test.YtjababmmcejgdaaGreatDoorGzY
import Derived.Test.YtjababmmcejgdaaGreatDoorYProcessBack13
import Derived.Test.YtjababmmcejgdaaGreatDoorYProcessBack7
import Derived.Deep.RegionHeld3
namespace Go.Proofs.YtjababmmcejgdaaGreatDoor
open Go.RowKit

namespace Pr
def ndB (x : Nd) : List UInt8 := encs [x.kind] ++ (textsOf [x.topic] ++ (encs [x.prio, x.retr, x.dflt] ++ (textsOf [x.code, x.caught] ++ encs [x.tgt])))
def flB (f : Fl) : List UInt8 := encs [f.frm, f.til] ++ textsOf [f.cond]
def prB (p : P) : List UInt8 := textsOf [p.name] ++ (encs [(p.n : Int)] ++ (p.nodes.flatMap ndB ++ (encs [(p.m : Int)] ++ p.flows.flatMap flB)))
/-- A number that Take takes. -/
def TinyI (k : Int) : Prop := -1 ≤ k ∧ k ≤ 1000
structure TinyN (x : Nd) : Prop where
  kind : TinyI x.kind
  prio : TinyI x.prio
  retr : TinyI x.retr
  dflt : TinyI x.dflt
  tgt : TinyI x.tgt
  topic : x.topic.size ≤ 24
  code : x.code.size ≤ 24
  caught : x.caught.size ≤ 24
structure TinyF (f : Fl) : Prop where
  frm : TinyI f.frm
  til : TinyI f.til
  cond : f.cond.size ≤ 80
structure Tiny (p : P) : Prop where
  name : p.name.size ≤ 24
  n : p.n ≤ 30
  m : p.m ≤ 60
  nd : ∀ x ∈ p.nodes, TinyN x
  fl : ∀ f ∈ p.flows, TinyF f
theorem tiny64 {k : Int} (h : TinyI k) : -9223372036854775808 ≤ k ∧ k ≤ 9223372036854775807 := by unfold TinyI at h; omega
theorem nm_size {s : ByteArray} (h : nm s = true) : s.size ≤ 24 := by
  unfold nm at h
  rw [ByteArray.toList_eq] at h
  by_cases hs : s.size ≤ 24
  · exact hs
  · rw [Vr.name_long (s := s.data.toList) (by simp; omega)] at h
    cases h
theorem good_tiny (kinds more : List Int) (rings : Bool) : Tiny (good kinds more rings) := by
  obtain ⟨h1, h2, h3, h4, h5⟩ := good_inv kinds more rings
  generalize good kinds more rings = p at *
  refine ⟨by rw [h5]; decide, by omega, by omega, fun x hx => ?_, fun f hf => ?_⟩
  · obtain ⟨i, hi, rfl⟩ := List.getElem_of_mem hx
    have hi' : i < p.n := hi
    have hf := h1.field i hi'
    have ho := h1.outs i hi'
    have hx' : p.nodes[i]! = p.nodes[i] := getElem!_pos p.nodes i hi
    have htg : TinyI (p.nodes[i]!).tgt := by
      unfold TinyI
      by_cases hc : (p.nodes[i]!).caught = no
      · rw [ho.tgt hc]; omega
      · have h4k : (p.nodes[i]!).kind = 4 := by
          rcases hf.caught with e | ⟨e, _⟩
          · exact absurd e hc
          · exact e
        obtain ⟨_, j, hj, e, _⟩ := ho.wk1 h4k hc
        rw [e]; omega
    have hdf : TinyI (p.nodes[i]!).dflt := by
      unfold TinyI
      rcases ho.dflt with e | ⟨_, j, hj, e, _⟩
      · rw [e]; omega
      · rw [e]; omega
    rw [hx'] at hf htg hdf
    generalize p.nodes[i] = x at *
    have hk : TinyI x.kind := by unfold TinyI; rcases hf.kind with e | e | e | e | e | e <;> omega
    have hca : x.caught.size ≤ 24 := by
      rcases hf.caught with e | ⟨_, e⟩ <;> rw [e] <;> decide
    have hco : x.code.size ≤ 24 := by rw [hf.code]; decide
    by_cases h4k : x.kind = 4
    · obtain ⟨w1, w2, w3⟩ := hf.wk h4k
      unfold within at w2 w3
      simp only [Bool.and_eq_true, decide_eq_true_eq] at w2 w3
      exact ⟨hk, by unfold TinyI; omega, by unfold TinyI; omega, hdf, htg, nm_size w1, hco, hca⟩
    · obtain ⟨w1, w2, w3⟩ := hf.nowk h4k
      exact ⟨hk, by rw [w2]; unfold TinyI; omega, by rw [w3]; unfold TinyI; omega, hdf, htg, by rw [w1]; decide, hco, hca⟩
  · have h := h1.flow f hf
    obtain ⟨a, b, e1, e2, l1, l2, _⟩ := h.ends
    refine ⟨by unfold TinyI; rw [e1]; omega, by unfold TinyI; rw [e2]; omega, ?_⟩
    rcases h.cond with e | ⟨_, k, e⟩
    · rw [e]; decide
    · rw [e]; exact (cond_ok k).2
theorem ndB_len {x : Nd} (h : TinyN x) : (ndB x).length ≤ 200 := by
  have l1 := encs_len [x.kind] (by intro n hn; obtain rfl := List.mem_singleton.1 hn; exact tiny64 h.kind)
  have l2 := textsOf_len 24 (by decide) [x.topic] (by intro n hn; obtain rfl := List.mem_singleton.1 hn; exact h.topic)
  have l3 := encs_len [x.prio, x.retr, x.dflt] (by
    intro n hn
    simp only [List.mem_cons, List.not_mem_nil, or_false] at hn
    rcases hn with rfl | rfl | rfl
    · exact tiny64 h.prio
    · exact tiny64 h.retr
    · exact tiny64 h.dflt)
  have l4 := textsOf_len 24 (by decide) [x.code, x.caught] (by
    intro n hn
    simp only [List.mem_cons, List.not_mem_nil, or_false] at hn
    rcases hn with rfl | rfl
    · exact h.code
    · exact h.caught)
  have l5 := encs_len [x.tgt] (by intro n hn; obtain rfl := List.mem_singleton.1 hn; exact tiny64 h.tgt)
  unfold ndB
  simp only [List.length_append]
  simp only [List.length_cons, List.length_nil] at l1 l2 l3 l4 l5
  omega
theorem flB_len {f : Fl} (h : TinyF f) : (flB f).length ≤ 200 := by
  have l1 := encs_len [f.frm, f.til] (by
    intro n hn
    simp only [List.mem_cons, List.not_mem_nil, or_false] at hn
    rcases hn with rfl | rfl
    · exact tiny64 h.frm
    · exact tiny64 h.til)
  have l2 := textsOf_len 80 (by decide) [f.cond] (by intro n hn; obtain rfl := List.mem_singleton.1 hn; exact h.cond)
  unfold flB
  simp only [List.length_append]
  simp only [List.length_cons, List.length_nil] at l1 l2
  omega
section
variable {w : World}
set_option maxHeartbeats 1600000 in
theorem nodebytes_any (x : Nd) (hx : TinyN x) : Calls Tryz.prog 42 #[x.val] w fun e w' => ∃ A' m' c', e = .returned (.slice A' m' c') ∧ OwnBytes w' w.heap.size 5 A' m' c' (ndB x) ∧ Below w.heap.size w w' := by
  have HX := Lib.hid (Cel.lit w #[.int .i64 x.kind, .string x.topic, .int .i64 x.prio, .int .i64 x.retr, .int .i64 x.dflt, .string x.code, .string x.caught, .int .i64 x.tgt] 36)
  have HB := Lib.hid ((Below.refl w.heap.size w).alloc (Nat.le_refl _) (.cells #[.int .i64 x.kind, .string x.topic, .int .i64 x.prio, .int .i64 x.retr, .int .i64 x.dflt, .string x.code, .string x.caught, .int .i64 x.tgt] 36))
  have HH := Lib.hid hx
  have HLEN := Lib.hid (ndB_len hx)
  obtain ⟨R, hR⟩ : ∃ R, ndB x = R := ⟨_, rfl⟩
  rw [hR]
  have HR := Lib.hid hR
  clear hx hR
  unfold Nd.val
  go_enter Tryz.func42, Tryz.ntmps42
  go_upto_region 1 with (fail)
  generalize w.alloc _ = w0 at *
  obtain ⟨x0, x1, x2, x3, x4, x5, x6, x7⟩ := nd_facts HX.out
  have HL1 := Lib.hid (Row.lit w0 #[.int .i64 x.kind] 2)
  have hba1 : Below w0.heap.size w0 (w0.alloc (.cells #[.int .i64 x.kind] 2)) := (Below.refl _ _).alloc (Nat.le_refl _) _
  have HBa1 := Lib.hid (HB.out.trans (hba1.mono HB.out.size))
  have HXa1 := Lib.hid (HX.out.below hba1 (Nat.le_refl _))
  clear hba1
  go_wp2_with fail
  generalize hwa1 : w0.alloc _ = v1 at *
  refine (put_any none 0 0 [] (some ⟨w0.heap.size, 0, none⟩) 1 1 [x.kind] v1 (Bytes.nil _ _ _) (fun _ => ⟨rfl, rfl⟩) (by decide) (HL1.out.mono (by rw [← hwa1]; simp)) (by decide) (by intro n hn; simp only [List.mem_cons, List.not_mem_nil, or_false] at hn; subst hn; exact tiny64 HH.out.kind)).mono ?_
  rintro e w1 ⟨A1, m1, c1, rfl, ho1, hb1⟩
  obtain ⟨l1, hl1⟩ : ∃ l, [] ++ encs [x.kind] = l := ⟨_, rfl⟩
  rw [hl1] at ho1
  have HE1 := Lib.hid hl1
  have HO1 := Lib.hid ho1
  have HB1 := Lib.hid (HBa1.out.trans (hb1.mono HBa1.out.size))
  have HX1 := Lib.hid (HXa1.out.below hb1 (Nat.le_refl _))
  have HLL1 : Hid (l1.length ≤ 200) := Lib.hid (by
    have h := HLEN.out
    unfold ndB at h
    simp only [List.length_append] at h
    rw [← hl1]
    simp only [List.nil_append]
    omega)
  clear ho1 hb1 hl1 hwa1 x0 x1 x2 x3 x4 x5 x6 x7
  obtain ⟨x0, x1, x2, x3, x4, x5, x6, x7⟩ := nd_facts HX1.out
  have HL2 := Lib.hid (Row.lit w1 #[.string x.topic] 9)
  have hba2 : Below w1.heap.size w1 (w1.alloc (.cells #[.string x.topic] 9)) := (Below.refl _ _).alloc (Nat.le_refl _) _
  have HBa2 := Lib.hid (HB1.out.trans (hba2.mono HB1.out.size))
  have HXa2 := Lib.hid (HX1.out.below hba2 (Nat.le_refl _))
  have HOa2 := Lib.hid (HO1.out.below hba2 (Nat.le_refl _))
  clear hba2
  go_wp2_with fail
  generalize hwa2 : w1.alloc _ = v2 at *
  refine (putText_any 24 (by decide) A1 m1 c1 (l1) (some ⟨w1.heap.size, 0, none⟩) 1 1 [x.topic] v2 ((HOa2.out.bytes).mono (Nat.le_refl _)) (fun h => (HOa2.out.nn h)) (by have := HOa2.out.len; have := HLL1.out; omega) (HL2.out.mono (by rw [← hwa2]; simp)) (by decide) (by intro n hn; simp only [List.mem_cons, List.not_mem_nil, or_false] at hn; subst hn; exact HH.out.topic)).mono ?_
  rintro e w2 ⟨A2, m2, c2, rfl, ho2, hb2⟩
  obtain ⟨l2, hl2⟩ : ∃ l, l1 ++ textsOf [x.topic] = l := ⟨_, rfl⟩
  rw [hl2] at ho2
  have HE2 := Lib.hid hl2
  have HO2 := Lib.hid ho2
  have HB2 := Lib.hid (HBa2.out.trans (hb2.mono HBa2.out.size))
  have HX2 := Lib.hid (HXa2.out.below hb2 (Nat.le_refl _))
  have HLL2 : Hid (l2.length ≤ 200) := Lib.hid (by
    have h := HLEN.out
    unfold ndB at h
    simp only [List.length_append] at h
    rw [← hl2, ← HE1.out]
    simp only [List.length_append, List.nil_append]
    omega)
  clear ho2 hb2 hl2 hwa2 x0 x1 x2 x3 x4 x5 x6 x7
  obtain ⟨x0, x1, x2, x3, x4, x5, x6, x7⟩ := nd_facts HX2.out
  have HL3 := Lib.hid (Row.lit w2 #[.int .i64 x.prio, .int .i64 x.retr, .int .i64 x.dflt] 2)
  have hba3 : Below w2.heap.size w2 (w2.alloc (.cells #[.int .i64 x.prio, .int .i64 x.retr, .int .i64 x.dflt] 2)) := (Below.refl _ _).alloc (Nat.le_refl _) _
  have HBa3 := Lib.hid (HB2.out.trans (hba3.mono HB2.out.size))
  have HXa3 := Lib.hid (HX2.out.below hba3 (Nat.le_refl _))
  have HOa3 := Lib.hid (HO2.out.below hba3 (Nat.le_refl _))
  clear hba3
  go_wp2_with fail
  generalize hwa3 : w2.alloc _ = v3 at *
  refine (put_any A2 m2 c2 (l2) (some ⟨w2.heap.size, 0, none⟩) 3 3 [x.prio, x.retr, x.dflt] v3 ((HOa3.out.bytes).mono (Nat.le_refl _)) (fun h => (HOa3.out.nn h)) (by have := HOa3.out.len; have := HLL2.out; omega) (HL3.out.mono (by rw [← hwa3]; simp)) (by decide) (by intro n hn; simp only [List.mem_cons, List.not_mem_nil, or_false] at hn; rcases hn with rfl | rfl | rfl; exact tiny64 HH.out.prio; exact tiny64 HH.out.retr; exact tiny64 HH.out.dflt)).mono ?_
  rintro e w3 ⟨A3, m3, c3, rfl, ho3, hb3⟩
  obtain ⟨l3, hl3⟩ : ∃ l, l2 ++ encs [x.prio, x.retr, x.dflt] = l := ⟨_, rfl⟩
  rw [hl3] at ho3
  have HE3 := Lib.hid hl3
  have HO3 := Lib.hid ho3
  have HB3 := Lib.hid (HBa3.out.trans (hb3.mono HBa3.out.size))
  have HX3 := Lib.hid (HXa3.out.below hb3 (Nat.le_refl _))
  have HLL3 : Hid (l3.length ≤ 200) := Lib.hid (by
    have h := HLEN.out
    unfold ndB at h
    simp only [List.length_append] at h
    rw [← hl3, ← HE2.out, ← HE1.out]
    simp only [List.length_append, List.nil_append]
    omega)
  clear ho3 hb3 hl3 hwa3 x0 x1 x2 x3 x4 x5 x6 x7
  obtain ⟨x0, x1, x2, x3, x4, x5, x6, x7⟩ := nd_facts HX3.out
  have HL4 := Lib.hid (Row.lit w3 #[.string x.code, .string x.caught] 9)
  have hba4 : Below w3.heap.size w3 (w3.alloc (.cells #[.string x.code, .string x.caught] 9)) := (Below.refl _ _).alloc (Nat.le_refl _) _
  have HBa4 := Lib.hid (HB3.out.trans (hba4.mono HB3.out.size))
  have HXa4 := Lib.hid (HX3.out.below hba4 (Nat.le_refl _))
  have HOa4 := Lib.hid (HO3.out.below hba4 (Nat.le_refl _))
  clear hba4
  go_wp2_with fail
  generalize hwa4 : w3.alloc _ = v4 at *
  refine (putText_any 24 (by decide) A3 m3 c3 (l3) (some ⟨w3.heap.size, 0, none⟩) 2 2 [x.code, x.caught] v4 ((HOa4.out.bytes).mono (Nat.le_refl _)) (fun h => (HOa4.out.nn h)) (by have := HOa4.out.len; have := HLL3.out; omega) (HL4.out.mono (by rw [← hwa4]; simp)) (by decide) (by intro n hn; simp only [List.mem_cons, List.not_mem_nil, or_false] at hn; rcases hn with rfl | rfl; exact HH.out.code; exact HH.out.caught)).mono ?_
  rintro e w4 ⟨A4, m4, c4, rfl, ho4, hb4⟩
  obtain ⟨l4, hl4⟩ : ∃ l, l3 ++ textsOf [x.code, x.caught] = l := ⟨_, rfl⟩
  rw [hl4] at ho4
  have HE4 := Lib.hid hl4
  have HO4 := Lib.hid ho4
  have HB4 := Lib.hid (HBa4.out.trans (hb4.mono HBa4.out.size))
  have HX4 := Lib.hid (HXa4.out.below hb4 (Nat.le_refl _))
  have HLL4 : Hid (l4.length ≤ 200) := Lib.hid (by
    have h := HLEN.out
    unfold ndB at h
    simp only [List.length_append] at h
    rw [← hl4, ← HE3.out, ← HE2.out, ← HE1.out]
    simp only [List.length_append, List.nil_append]
    omega)
  clear ho4 hb4 hl4 hwa4 x0 x1 x2 x3 x4 x5 x6 x7
  obtain ⟨x0, x1, x2, x3, x4, x5, x6, x7⟩ := nd_facts HX4.out
  have HL5 := Lib.hid (Row.lit w4 #[.int .i64 x.tgt] 2)
  have hba5 : Below w4.heap.size w4 (w4.alloc (.cells #[.int .i64 x.tgt] 2)) := (Below.refl _ _).alloc (Nat.le_refl _) _
  have HBa5 := Lib.hid (HB4.out.trans (hba5.mono HB4.out.size))
  have HXa5 := Lib.hid (HX4.out.below hba5 (Nat.le_refl _))
  have HOa5 := Lib.hid (HO4.out.below hba5 (Nat.le_refl _))
  clear hba5
  go_wp2_with fail
  generalize hwa5 : w4.alloc _ = v5 at *
  refine (put_any A4 m4 c4 (l4) (some ⟨w4.heap.size, 0, none⟩) 1 1 [x.tgt] v5 ((HOa5.out.bytes).mono (Nat.le_refl _)) (fun h => (HOa5.out.nn h)) (by have := HOa5.out.len; have := HLL4.out; omega) (HL5.out.mono (by rw [← hwa5]; simp)) (by decide) (by intro n hn; simp only [List.mem_cons, List.not_mem_nil, or_false] at hn; subst hn; exact tiny64 HH.out.tgt)).mono ?_
  rintro e w5 ⟨A5, m5, c5, rfl, ho5, hb5⟩
  obtain ⟨l5, hl5⟩ : ∃ l, l4 ++ encs [x.tgt] = l := ⟨_, rfl⟩
  rw [hl5] at ho5
  have HE5 := Lib.hid hl5
  have HO5 := Lib.hid ho5
  have HB5 := Lib.hid (HBa5.out.trans (hb5.mono HBa5.out.size))
  have HX5 := Lib.hid (HXa5.out.below hb5 (Nat.le_refl _))
  clear ho5 hb5 hl5 hwa5 x0 x1 x2 x3 x4 x5 x6 x7
  go_wp2
  go_ret
  refine ⟨A5, m5, c5, rfl, ?_, HB5.out⟩
  have e : l5 = R := by
    rw [← HE5.out, ← HE4.out, ← HE3.out, ← HE2.out, ← HE1.out, ← HR.out]
    unfold ndB
    simp only [List.nil_append, List.append_assoc]
  rw [← e]
  exact OwnBytes.base HO5.out HBa5.out.size
set_option maxHeartbeats 3200000 in
set_option maxRecDepth 10000 in
theorem flowbytes_any (f : Fl) (hf : TinyF f) : Calls Tryz.prog 43 #[f.val] w fun e w' => ∃ A' m' c', e = .returned (.slice A' m' c') ∧ OwnBytes w' w.heap.size 5 A' m' c' (flB f) ∧ Below w.heap.size w w' := by
  have HX := Lib.hid (Cel.lit w #[.int .i64 f.frm, .int .i64 f.til, .string f.cond] 38)
  have HB := Lib.hid ((Below.refl w.heap.size w).alloc (Nat.le_refl _) (.cells #[.int .i64 f.frm, .int .i64 f.til, .string f.cond] 38))
  have HH := Lib.hid hf
  have HLEN := Lib.hid (flB_len hf)
  obtain ⟨R, hR⟩ : ∃ R, flB f = R := ⟨_, rfl⟩
  rw [hR]
  have HR := Lib.hid hR
  clear hf hR
  unfold Fl.val
  go_enter Tryz.func43, Tryz.ntmps43
  go_upto_region 1 with (fail)
  generalize w.alloc _ = w0 at *
  have hbd : Below w0.heap.size w0 w0.drew := (Below.refl _ _).drew
  have HXd := Lib.hid (HX.out.below hbd (Nat.le_refl _))
  have hzl : w.heap.size < w0.heap.size := HX.out.lt
  obtain ⟨⟨x0, x1, x2⟩, _⟩ := tri_facts HX.out
  obtain ⟨⟨y0, y1, y2⟩, _⟩ := tri_facts HXd.out
  have r1 : (w0.alloc (.cells #[.int .i64 f.frm, .int .i64 f.til] 2)).heap.size = w0.heap.size + 1 := by simp
  have r2 : (w0.alloc (.cells #[.string f.cond] 9)).heap.size = w0.heap.size + 1 := by simp
  have ba : Below w0.heap.size w0 (w0.alloc (.cells #[.int .i64 f.frm, .int .i64 f.til] 2)).drew := ((Below.refl _ _).alloc (Nat.le_refl _) _).drew
  have bb : Below w0.heap.size w0 ((w0.alloc (.cells #[.int .i64 f.frm, .int .i64 f.til] 2)).alloc (.cells #[.string f.cond] 9)).drew := (((Below.refl _ _).alloc (Nat.le_refl _) _).alloc (by simp) _).drew
  have bc : Below w0.heap.size w0 ((w0.alloc (.cells #[.string f.cond] 9)).alloc (.cells #[.int .i64 f.frm, .int .i64 f.til] 2)).drew := (((Below.refl _ _).alloc (Nat.le_refl _) _).alloc (by simp) _).drew
  have n1 : Row (w0.alloc (.cells #[.int .i64 f.frm, .int .i64 f.til] 2)) (w0.heap.size + 1) (some ⟨w0.heap.size, 0, none⟩) 2 ([f.frm, f.til].map (Value.int .i64)) := Row.lit w0 #[.int .i64 f.frm, .int .i64 f.til] 2
  have n2 : Row (w0.alloc (.cells #[.string f.cond] 9)) (w0.heap.size + 1) (some ⟨w0.heap.size, 0, none⟩) 1 ([f.cond].map Value.string) := Row.lit w0 #[.string f.cond] 9
  have n3 : Row ((w0.alloc (.cells #[.int .i64 f.frm, .int .i64 f.til] 2)).alloc (.cells #[.string f.cond] 9)) (w0.heap.size + 1 + 1) (some ⟨w0.heap.size + 1, 0, none⟩) 1 ([f.cond].map Value.string) := by
    have := Row.lit (w0.alloc (.cells #[.int .i64 f.frm, .int .i64 f.til] 2)) #[.string f.cond] 9
    rw [r1] at this
    exact this
  have n4 : Row ((w0.alloc (.cells #[.string f.cond] 9)).alloc (.cells #[.int .i64 f.frm, .int .i64 f.til] 2)) (w0.heap.size + 1 + 1) (some ⟨w0.heap.size + 1, 0, none⟩) 2 ([f.frm, f.til].map (Value.int .i64)) := by
    have := Row.lit (w0.alloc (.cells #[.string f.cond] 9)) #[.int .i64 f.frm, .int .i64 f.til] 2
    rw [r2] at this
    exact this
  have NA := Lib.hid (show Row (w0.alloc (.cells #[.int .i64 f.frm, .int .i64 f.til] 2)).drew (w0.alloc (.cells #[.int .i64 f.frm, .int .i64 f.til] 2)).drew.heap.size _ _ _ from (n1.below (b0 := w0.heap.size + 1) (Below.refl _ _).drew (Nat.le_refl _)).mono (by simp))
  have NB := Lib.hid (show Row ((w0.alloc (.cells #[.int .i64 f.frm, .int .i64 f.til] 2)).alloc (.cells #[.string f.cond] 9)).drew ((w0.alloc (.cells #[.int .i64 f.frm, .int .i64 f.til] 2)).alloc (.cells #[.string f.cond] 9)).drew.heap.size _ _ _ from ((n1.below (b0 := w0.heap.size + 1) ((Below.refl _ _).alloc (by simp) (.cells #[.string f.cond] 9)).drew (Nat.le_refl _)).mono (by simp)))
  have NB2 := Lib.hid (show Row ((w0.alloc (.cells #[.int .i64 f.frm, .int .i64 f.til] 2)).alloc (.cells #[.string f.cond] 9)).drew ((w0.alloc (.cells #[.int .i64 f.frm, .int .i64 f.til] 2)).alloc (.cells #[.string f.cond] 9)).drew.heap.size _ _ _ from (n3.below (b0 := w0.heap.size + 1 + 1) (Below.refl _ _).drew (Nat.le_refl _)).mono (by simp))
  have NC := Lib.hid (show Row ((w0.alloc (.cells #[.string f.cond] 9)).alloc (.cells #[.int .i64 f.frm, .int .i64 f.til] 2)).drew ((w0.alloc (.cells #[.string f.cond] 9)).alloc (.cells #[.int .i64 f.frm, .int .i64 f.til] 2)).drew.heap.size _ _ _ from (n4.below (b0 := w0.heap.size + 1 + 1) (Below.refl _ _).drew (Nat.le_refl _)).mono (by simp))
  have NC2 := Lib.hid (show Row ((w0.alloc (.cells #[.string f.cond] 9)).alloc (.cells #[.int .i64 f.frm, .int .i64 f.til] 2)).drew ((w0.alloc (.cells #[.string f.cond] 9)).alloc (.cells #[.int .i64 f.frm, .int .i64 f.til] 2)).drew.heap.size _ _ _ from ((n2.below (b0 := w0.heap.size + 1) ((Below.refl _ _).alloc (by simp) (.cells #[.int .i64 f.frm, .int .i64 f.til] 2)).drew (Nat.le_refl _)).mono (by simp)))
  have hn0 : ∀ n ∈ [f.frm, f.til], -9223372036854775808 ≤ n ∧ n ≤ 9223372036854775807 := by
    intro n hn
    simp only [List.mem_cons, List.not_mem_nil, or_false] at hn
    rcases hn with rfl | rfl
    · exact tiny64 HH.out.frm
    · exact tiny64 HH.out.til
  have hs0 : ∀ s ∈ [f.cond], s.size ≤ 80 := by
    intro n hn
    obtain rfl := List.mem_singleton.1 hn
    exact HH.out.cond
  have HN0 := Lib.hid hn0
  have HS0 := Lib.hid hs0
  have hel : (encs [f.frm, f.til]).length ≤ 20 := encs_len _ hn0
  have HEL := Lib.hid hel
  have BA := Lib.hid ba
  have BB := Lib.hid bb
  have BC := Lib.hid bc
  obtain ⟨le, hle⟩ : ∃ l, [] ++ encs [f.frm, f.til] = l := ⟨_, rfl⟩
  have PA := Lib.hid (put_any none 0 0 [] (some ⟨w0.heap.size, 0, none⟩) 2 2 [f.frm, f.til] _ (Bytes.nil _ _ _) (fun _ => ⟨rfl, rfl⟩) (by decide) NA.out (by decide) hn0)
  have PB := Lib.hid (put_any none 0 0 [] (some ⟨w0.heap.size, 0, none⟩) 2 2 [f.frm, f.til] _ (Bytes.nil _ _ _) (fun _ => ⟨rfl, rfl⟩) (by decide) NB.out (by decide) hn0)
  have PC := Lib.hid (put_any none 0 0 [] (some ⟨w0.heap.size + 1, 0, none⟩) 2 2 [f.frm, f.til] _ (Bytes.nil _ _ _) (fun _ => ⟨rfl, rfl⟩) (by decide) NC.out (by decide) hn0)
  rw [hle] at PA PB PC
  have hll : le.length ≤ 20 := by rw [← hle]; exact hel
  have HLE := Lib.hid hle
  have HLL := Lib.hid hll
  clear n1 n2 n3 n4 hn0 hs0 hel ba bb bc hle hll
  go_region_held3 (fun w' => w'.cell? ⟨w.heap.size, 0, none⟩ = some (.int .i64 f.frm) ∧ w'.cell? ⟨w.heap.size, 1, none⟩ = some (.int .i64 f.til) ∧ w'.cell? ⟨w.heap.size, 2, none⟩ = some (.string f.cond)) (first | exact S2 | exact S1 | exact ⟨y0, y1, y2⟩ | go_keep) (first
    | (go_at_call 41; first
        | (with_reducible refine PA.out.mono ?_; rintro e w1 ⟨A1, m1, c1, rfl, ho1, hb1⟩; have tokA := BA; have hbw := BA.out.trans (hb1.mono BA.out.size); obtain ⟨s0, s1, s2⟩ := (tri_facts (HX.out.below hbw (Nat.le_refl _))).1; have S1 := And.intro s0 (And.intro s1 s2); have hx1 := HX.out.lt; have hx2 := hbw.size)
        | (with_reducible refine PB.out.mono ?_; rintro e w1 ⟨A1, m1, c1, rfl, ho1, hb1⟩; have hbw := BB.out.trans (hb1.mono BB.out.size); have HN2 := Lib.hid ((NB2.out.below hb1 (Nat.le_refl _)).mono hb1.size); obtain ⟨s0, s1, s2⟩ := (tri_facts (HX.out.below hbw (Nat.le_refl _))).1; have S1 := And.intro s0 (And.intro s1 s2); have hx1 := HX.out.lt; have hx2 := hbw.size)
        | (with_reducible refine PC.out.mono ?_; rintro e w1 ⟨A1, m1, c1, rfl, ho1, hb1⟩; have hbw := BC.out.trans (hb1.mono BC.out.size); have HN2 := Lib.hid ((NC2.out.below hb1 (Nat.le_refl _)).mono hb1.size); obtain ⟨s0, s1, s2⟩ := (tri_facts (HX.out.below hbw (Nat.le_refl _))).1; have S1 := And.intro s0 (And.intro s1 s2); have hx1 := HX.out.lt; have hx2 := hbw.size))
    | (go_at_call 40; first
        | (have hgd := HN2; clear hgd; refine (putText_any 80 (by decide) A1 m1 c1 le _ 1 1 [f.cond] w1 ho1.bytes ho1.nn (by have := ho1.len; have := HLL.out; omega) HN2.out (by decide) HS0.out).mono ?_; rintro e w2 ⟨A2, m2, c2, rfl, ho2, hb2⟩; have hbw2 := hbw.trans (hb2.mono hbw.size); obtain ⟨s0, s1, s2⟩ := (tri_facts (HX.out.below hbw2 (Nat.le_refl _))).1; have S2 := And.intro s0 (And.intro s1 s2); have HB2 := Lib.hid (HB.out.trans (hbw2.mono HB.out.size)); have HF2 := Lib.hid (OwnBytes.base ho2 (Nat.le_trans HB.out.size hbw.size)))
        | (have hgd := tokA; clear hgd; refine (putText_any 80 (by decide) A1 m1 c1 le (some ⟨w1.heap.size, 0, none⟩) 1 1 [f.cond] (w1.alloc (.cells #[.string f.cond] 9)) ((ho1.below ((Below.refl w1.heap.size w1).alloc (Nat.le_refl _) (.cells #[.string f.cond] 9)) (Nat.le_refl _)).bytes) ho1.nn (by have := ho1.len; have := HLL.out; omega) ((Row.lit w1 #[.string f.cond] 9).mono (by simp)) (by decide) HS0.out).mono ?_; rintro e w2 ⟨A2, m2, c2, rfl, ho2, hb2⟩; have hal : Below w1.heap.size w1 (w1.alloc (.cells #[.string f.cond] 9)) := (Below.refl _ _).alloc (Nat.le_refl _) _; have hbw2 := hbw.trans ((hal.trans (hb2.mono hal.size)).mono hbw.size); obtain ⟨s0, s1, s2⟩ := (tri_facts (HX.out.below hbw2 (Nat.le_refl _))).1; have S2 := And.intro s0 (And.intro s1 s2); have HB2 := Lib.hid (HB.out.trans (hbw2.mono HB.out.size)); have HF2 := Lib.hid (OwnBytes.base ho2 (Nat.le_trans (Nat.le_trans HB.out.size hbw.size) hal.size)))))
  all_goals
    go_wp2_with fail
    go_ret
    refine ⟨A2, m2, c2, rfl, ?_, HB2.out⟩
    have e : le ++ textsOf [f.cond] = R := by rw [← HLE.out, ← HR.out]; rfl
    rw [← e]
    exact HF2.out
end
end Pr
end Go.Proofs.YtjababmmcejgdaaGreatDoor
