/- Walks of leaseholdmake: one node more, one flow more. Walks of package vars, and of the document's answers: names. -/
import Derived.Test.YtddedbpbenkdoaaGreatDoorYProcessOne11
import Derived.Deep.QuietTactic
import Derived.BigQuiet
import Derived.Deep.CutRange
import Derived.Test.YtddedbpbenkdoaaGreatDoorProg
import Derived.Test.YtddedbpbenkdoaaGreatDoorYProcessOne2
import Derived.KernelRfl
namespace Go.Proofs.YtddedbpbenkdoaaGreatDoor
open Go.RowKit

namespace Pr
section
variable {w : World} {base q : Nat} {p : P}
theorem nd_facts {w : World} {z : Nat} {a0 a1 a2 a3 a4 a5 a6 a7 : Value} (h : Cel w z [a0, a1, a2, a3, a4, a5, a6, a7]) : w.cell? ⟨z, 0, none⟩ = some a0 ∧ w.cell? ⟨z, 1, none⟩ = some a1 ∧ w.cell? ⟨z, 2, none⟩ = some a2 ∧ w.cell? ⟨z, 3, none⟩ = some a3 ∧ w.cell? ⟨z, 4, none⟩ = some a4 ∧ w.cell? ⟨z, 5, none⟩ = some a5 ∧ w.cell? ⟨z, 6, none⟩ = some a6 ∧ w.cell? ⟨z, 7, none⟩ = some a7 :=
  ⟨h.cell 0 _ rfl, h.cell 1 _ rfl, h.cell 2 _ rfl, h.cell 3 _ rfl, h.cell 4 _ rfl, h.cell 5 _ rfl, h.cell 6 _ rfl, h.cell 7 _ rfl⟩
theorem tri_facts {w : World} {z : Nat} {a0 a1 a2 : Value} (h : Cel w z [a0, a1, a2]) : (w.cell? ⟨z, 0, none⟩ = some a0 ∧ w.cell? ⟨z, 1, none⟩ = some a1 ∧ w.cell? ⟨z, 2, none⟩ = some a2) ∧ (w.frozen? ⟨z, 0, none⟩ = false ∧ w.frozen? ⟨z, 1, none⟩ = false ∧ w.frozen? ⟨z, 2, none⟩ = false) :=
  ⟨⟨h.cell 0 _ rfl, h.cell 1 _ rfl, h.cell 2 _ rfl⟩, h.froz 0 (by simp), h.froz 1 (by simp), h.froz 2 (by simp)⟩
theorem cel_grew {w w' : World} {q : Nat} {cs : List Value} {A : Option Addr} {n c : Nat} {v' : Value} (hc : Cel w q cs) (hg : Grew w w' (.slice A n c) v') (h1 : ∀ a, A = some a → a.block ≠ q) : Cel w' q cs :=
  hc.kept hg.grown (by
    intro he
    cases A with
    | none => cases he
    | some a => exact h1 a rfl (Option.some.inj he))
set_option maxHeartbeats 1600000 in
set_option maxRecDepth 10000 in
theorem mnode_any (x : Nd) (h : C w base q p) (hp : p.n ≤ 100000) :
    Calls Tryz.prog 16 #[.pointer (some ⟨q, 0, none⟩), x.val] w fun e w' => e = .returned (.int .i64 p.n) ∧ C w' base q (p.node x) ∧ Below base w w' := by
  obtain ⟨A, n, c, F, m, d, hc, hn, hf, h1, h2⟩ := h.ex
  have hlow := h.low
  have hlt := h.lt
  have hbase : base ≤ w.heap.size := by omega
  obtain rfl : p.n = n := hn.len
  have HZ := Lib.hid (Cel.lit w #[.int .i64 x.kind, .string x.topic, .int .i64 x.prio, .int .i64 x.retr, .int .i64 (-1), .string x.code, .string x.caught, .int .i64 (-1)] 36)
  have HB := Lib.hid ((Below.refl w.heap.size w).alloc (Nat.le_refl _) (.cells #[.int .i64 x.kind, .string x.topic, .int .i64 x.prio, .int .i64 x.retr, .int .i64 (-1), .string x.code, .string x.caught, .int .i64 (-1)] 36))
  have HC := Lib.hid hc
  have HN := Lib.hid hn
  have HF := Lib.hid hf
  have HP := Lib.hid hp
  clear hc hn hf hp h
  go_enter Tryz.func16, Tryz.ntmps16
  unfold Nd.val
  go_upto_region 3 with (fail)
  have hz := HZ.out.below (Below.refl _ _).drew (Nat.le_refl _)
  have hb := HB.out.drew
  have hcd := HC.out.below hb (Nat.le_refl _)
  have hnd := HN.out.below hb (Nat.le_refl _)
  have hfd := HF.out.below hb (Nat.le_refl _)
  clear HZ HB HC HN HF
  generalize w.alloc _ = wz at *
  obtain ⟨k0, k1, k2, k3, k4, k5, k6, k7⟩ := nd_facts hz
  obtain ⟨⟨c0, c1, c2⟩, f0, f1, f2⟩ := tri_facts hcd
  have hba : Below w.heap.size w (wz.drew.alloc (.cells #[.int .i64 x.kind, .string x.topic, .int .i64 x.prio, .int .i64 x.retr, .int .i64 (-1), .string x.code, .string x.caught, .int .i64 (-1)] 36)) := hb.alloc hb.size _
  have hbn : Below wz.drew.heap.size wz.drew (wz.drew.alloc (.cells #[.int .i64 x.kind, .string x.topic, .int .i64 x.prio, .int .i64 x.retr, .int .i64 (-1), .string x.code, .string x.caught, .int .i64 (-1)] 36)) := (Below.refl _ _).alloc (Nat.le_refl _) _
  have HCa := Lib.hid (hcd.below hbn (Nat.le_refl _))
  have HNa := Lib.hid (hnd.below hbn (Nat.le_refl _))
  have HFa := Lib.hid (hfd.below hbn (Nat.le_refl _))
  have HBa := Lib.hid hba
  have HR : Hid (KRow Nd.κ (wz.drew.alloc (.cells #[.int .i64 x.kind, .string x.topic, .int .i64 x.prio, .int .i64 x.retr, .int .i64 (-1), .string x.code, .string x.caught, .int .i64 (-1)] 36)) (wz.drew.heap.size + 1) (some ⟨wz.drew.heap.size, 0, none⟩) 1 [{ x with dflt := -1, tgt := -1 }]) := Lib.hid (KRow.lit (κ := Nd.κ) wz.drew 36 [{ x with dflt := -1, tgt := -1 }] #[.int .i64 x.kind, .string x.topic, .int .i64 x.prio, .int .i64 x.retr, .int .i64 (-1), .string x.code, .string x.caught, .int .i64 (-1)] rfl)
  have hql : q < wz.heap.size := hcd.lt
  have hqd : q < wz.drew.heap.size := hcd.lt
  have e1 : wz.cell? ⟨q, 1, none⟩ = some (.slice A p.n c) := c1
  have hqn : ¬ q = wz.heap.size := by omega
  have hbw : base ≤ (wz.drew.alloc (.cells #[.int .i64 x.kind, .string x.topic, .int .i64 x.prio, .int .i64 x.retr, .int .i64 (-1), .string x.code, .string x.caught, .int .i64 (-1)] 36)).heap.size := by have := hbn.size; omega
  clear hz hb hcd hnd hfd hba hbn
  obtain ⟨i0, hi0, hz0, hz1, hz2⟩ := info_parts info_node
  go_region_law (refine step_append_k (κ := Nd.κ) rfl (.tmp 11) (.tmp 13) 27 36 i0 _ 88 Tryz.underlying27 hi0 hz0 hz1 hz2 rfl rfl _ base _ A p.n c p.nodes ⟨wz.drew.heap.size, 0, none⟩ { x with dflt := -1, tgt := -1 } rfl HNa.out rfl HR.out (by have := HP.out; omega) (by decide) hbw ?_; intro A' c' w' ho hg; obtain ⟨⟨d0, d1, d2⟩, g0, g1, g2⟩ := tri_facts (cel_grew HCa.out hg h1))
  all_goals
    have HFIN := Lib.hid (C.nodes HCa.out HNa.out HFa.out h1 h2 hlow hg ho)
    have HBF := Lib.hid (((HBa.out.mono hbase).trans (hg.below HNa.out.2 hbw)).setCell (p := ⟨q, 1, none⟩) hlow (.slice A' (p.n + 1) c'))
    clear ho hg
    go_wp2
    go_ret
    exact ⟨ret_int (k := .i64) (a := wrap64 (p.n : Int)) (by unfold wrap64; have := HP.out; omega), HFIN.out, HBF.out⟩
set_option maxHeartbeats 1600000 in
set_option maxRecDepth 10000 in
theorem mjoin_any (a b : Int) (t : ByteArray) (h : C w base q p) (hp : p.m ≤ 100000) :
    Calls Tryz.prog 17 #[.pointer (some ⟨q, 0, none⟩), .int .i64 a, .int .i64 b, .string t] w fun e w' => e = .returned (.int .i64 p.m) ∧ C w' base q (p.join a b t) ∧ Below base w w' ∧ w'.cell? ⟨q, 1, none⟩ = w.cell? ⟨q, 1, none⟩ := by
  obtain ⟨A, n, c, F, m, d, hc, hn, hf, h1, h2⟩ := h.ex
  have hlow := h.low
  have hlt := h.lt
  have hbase : base ≤ w.heap.size := by omega
  obtain rfl : p.m = m := hf.len
  have hba : Below w.heap.size w (w.alloc (.cells #[.int .i64 a, .int .i64 b, .string t] 38)) := (Below.refl _ _).alloc (Nat.le_refl _) _
  have HCa := Lib.hid (hc.below hba (Nat.le_refl _))
  have HNa := Lib.hid (hn.below hba (Nat.le_refl _))
  have HFa := Lib.hid (hf.below hba (Nat.le_refl _))
  have HBa := Lib.hid hba
  have HP := Lib.hid hp
  have HR : Hid (KRow Fl.κ (w.alloc (.cells #[.int .i64 a, .int .i64 b, .string t] 38)) (w.heap.size + 1) (some ⟨w.heap.size, 0, none⟩) 1 [⟨a, b, t⟩]) := Lib.hid (KRow.lit (κ := Fl.κ) w 38 [⟨a, b, t⟩] #[.int .i64 a, .int .i64 b, .string t] rfl)
  have hqn : ¬ q = w.heap.size := by omega
  have hbw : base ≤ (w.alloc (.cells #[.int .i64 a, .int .i64 b, .string t] 38)).heap.size := by have := hba.size; omega
  obtain ⟨⟨c0, c1, c2⟩, f0, f1, f2⟩ := tri_facts hc
  obtain ⟨i0, hi0, hz0, hz1, hz2⟩ := info_parts info_flow
  clear hba hc hn hf hp h
  go_enter Tryz.func17, Tryz.ntmps17
  go_wp2_with (at_builtin; refine append_k (κ := Fl.κ) rfl (.tmp 13) (.tmp 18) 28 38 i0 _ 32 Tryz.underlying28 hi0 hz0 hz1 hz2 rfl rfl _ base _ F p.m d p.flows ⟨w.heap.size, 0, none⟩ ⟨a, b, t⟩ rfl HFa.out rfl HR.out (by have := HP.out; omega) (by decide) hbw ?_; intro F' d' w' ho hg; obtain ⟨⟨d0, d1, d2⟩, g0, g1, g2⟩ := tri_facts (cel_grew HCa.out hg h2))
  have HFIN := Lib.hid (C.flows HCa.out HNa.out HFa.out h1 h2 hlow hg ho)
  have HBF := Lib.hid (((HBa.out.mono hbase).trans (hg.below HFa.out.2 hbw)).setCell (p := ⟨q, 2, none⟩) hlow (.slice F' (p.m + 1) d'))
  have HK : Hid ((w'.setCell ⟨q, 2, none⟩ (.slice F' (p.m + 1) d')).cell? ⟨q, 1, none⟩ = w.cell? ⟨q, 1, none⟩) := Lib.hid ((World.cell?_setCell_other _ _ _ _ (by intro h; cases h)).trans (d1.trans c1.symm))
  clear ho hg
  go_wp2
  go_ret
  exact ⟨ret_int (k := .i64) (a := wrap64 (p.m : Int)) (by unfold wrap64; have := HP.out; omega), HFIN.out, HBF.out, HK.out⟩
end
end Pr
end Go.Proofs.YtddedbpbenkdoaaGreatDoor
namespace Go.Proofs.YtddedbpbenkdoaaGreatDoor
open Go.RowKit

theorem ret_bool {a b : Bool} (h : a = b) : Ending.returned (.bool a) = .returned (.bool b) := by rw [h]

set_option maxHeartbeats 800000 in
theorem ofName_any (c : UInt8) (w : World) :
    Calls Tryz.prog 34 #[.int .u8 (c.toNat : Int)] w fun e w' => e = .returned (.bool (Vr.sign c)) ∧ w = w' := by
  have hc := c.toNat_lt
  go_enter Tryz.func34, Tryz.ntmps34
  go_wp2
  all_goals
    go_ret
    refine ⟨ret_bool ?_, rfl⟩
    first
      | exact (Vr.sign_yes (by omega)).symm
      | exact (Vr.sign_no (by omega)).symm
      | (rw [Bool.eq_iff_iff, Vr.sign_iff]; simp; omega)
set_option maxHeartbeats 800000 in
theorem refSign_any (c : UInt8) (w : World) :
    Calls Tryz.prog 45 #[.int .u8 (c.toNat : Int)] w fun e w' => e = .returned (.bool (Vr.sign c)) ∧ w = w' := by
  have hc := c.toNat_lt
  go_enter Tryz.func45, Tryz.ntmps45
  go_wp2
  all_goals
    go_ret
    refine ⟨ret_bool ?_, rfl⟩
    first
      | exact (Vr.sign_yes (by omega)).symm
      | exact (Vr.sign_no (by omega)).symm
      | (rw [Bool.eq_iff_iff, Vr.sign_iff]; simp; omega)

set_option maxHeartbeats 800000 in
theorem name_any (s : ByteArray) (w : World) (hs : s.size ≤ 9223372036854775807) :
    Calls Tryz.prog 18 #[.string s] w fun e w' => e = .returned (.bool (Vr.name s.data.toList)) ∧ w = w' := by
  have hl : s.data.toList.length = s.size := by simp
  by_cases h0 : s.size = 0
  · rw [Vr.name_short (s := s.data.toList) (by omega)]
    have h0' : (s.size : Int) = 0 := by omega
    clear hl
    go_enter Tryz.func18, Tryz.ntmps18
    go_wp2
    go_ret
    exact ⟨rfl, rfl⟩
  · have h0' : ((s.size : Int) == 0) = false := by rw [beq_eq_false_iff_ne]; omega
    by_cases h24 : 24 < s.size
    · rw [Vr.name_long (s := s.data.toList) (by omega)]
      clear hl
      go_enter Tryz.func18, Tryz.ntmps18
      go_wp2
      go_ret
      exact ⟨rfl, rfl⟩
    · have HL := Lib.hid hl
      clear hl
      go_enter Tryz.func18, Tryz.ntmps18
      go_wp2_with fail
      go_loop [14] (fun i => ∃ k : Nat, k ≤ s.size ∧ i = .int .i64 k ∧ Hid (∀ j (hj : j < s.data.toList.length), j < k → Vr.sign s.data.toList[j] = true)) (fun i => s.size - (intOf i).toNat)
      case atStart => exact ⟨0, Nat.zero_le _, rfl, fun j _ h => absurd h (Nat.not_lt_zero j)⟩
      case round =>
        obtain ⟨k, hk, rfl, hall⟩ := hrel
        by_cases hlt : k < s.size
        · have hkl : k < s.data.toList.length := by rw [HL.out]; exact hlt
          have hx : s[k] = s.data.toList[k] := rfl
          cases hq : Vr.sign s[k] with
          | true =>
            have HQ := Lib.hid hq
            have hcall := ofName_any s[k]
            rw [hq] at hcall
            clear hq hx
            go_wp2_with (go_at_call 34; refine (hcall _).mono ?_; rintro e w' ⟨rfl, rfl⟩)
            go_round
            case measure => simp [intOf]; omega
            case rel =>
              refine ⟨k + 1, by omega, by go_num, fun j hj hjk => ?_⟩
              by_cases e : j = k
              · subst e; exact HQ.out
              · exact hall j hj (by omega)
          | false =>
            have HQ := Lib.hid hq
            have hcall := ofName_any s[k]
            rw [hq] at hcall
            clear hq hx
            go_wp2_with (go_at_call 34; refine (hcall _).mono ?_; rintro e w' ⟨rfl, rfl⟩)
            go_ret
            exact ⟨ret_bool (Vr.name_not (k := k) hkl HQ.out).symm, rfl⟩
        · have : k = s.size := by omega
          subst this
          go_wp2
          go_ret
          exact ⟨ret_bool (Vr.name_all (by rw [HL.out]; omega) (by rw [HL.out]; omega) fun j hj => hall j hj (by rw [← HL.out]; exact hj)).symm, rfl⟩

set_option maxHeartbeats 800000 in
theorem refName_any (s : ByteArray) (w : World) (hs : s.size ≤ 9223372036854775807) :
    Calls Tryz.prog 23 #[.string s] w fun e w' => e = .returned (.bool (Vr.name s.data.toList)) ∧ w = w' := by
  have hl : s.data.toList.length = s.size := by simp
  by_cases h0 : s.size = 0
  · rw [Vr.name_short (s := s.data.toList) (by omega)]
    have h0' : (s.size : Int) < 1 := by omega
    clear hl h0
    go_enter Tryz.func23, Tryz.ntmps23
    go_wp2
    go_ret
    exact ⟨rfl, rfl⟩
  · have h0' : ¬ (s.size : Int) < 1 := by omega
    by_cases h24 : 24 < s.size
    · rw [Vr.name_long (s := s.data.toList) (by omega)]
      clear hl
      go_enter Tryz.func23, Tryz.ntmps23
      go_wp2
      go_ret
      exact ⟨rfl, rfl⟩
    · have HL := Lib.hid hl
      clear hl
      go_enter Tryz.func23, Tryz.ntmps23
      go_wp2_with fail
      go_loop [3] (fun i => ∃ k : Nat, k ≤ s.size ∧ i = .int .i64 k ∧ Hid (∀ j (hj : j < s.data.toList.length), j < k → Vr.sign s.data.toList[j] = true)) (fun i => s.size - (intOf i).toNat)
      case atStart => exact ⟨0, Nat.zero_le _, rfl, fun j _ h => absurd h (Nat.not_lt_zero j)⟩
      case round =>
        obtain ⟨k, hk, rfl, hall⟩ := hrel
        by_cases hlt : k < s.size
        · have hkl : k < s.data.toList.length := by rw [HL.out]; exact hlt
          cases hq : Vr.sign s[k] with
          | true =>
            have HQ := Lib.hid hq
            have hcall := refSign_any s[k]
            rw [hq] at hcall
            clear hq
            go_wp2_with (go_at_call 45; refine (hcall _).mono ?_; rintro e w' ⟨rfl, rfl⟩)
            go_round
            case measure => simp [intOf]; omega
            case rel =>
              refine ⟨k + 1, by omega, by go_num, fun j hj hjk => ?_⟩
              by_cases e : j = k
              · subst e; exact HQ.out
              · exact hall j hj (by omega)
          | false =>
            have HQ := Lib.hid hq
            have hcall := refSign_any s[k]
            rw [hq] at hcall
            clear hq
            go_wp2_with (go_at_call 45; refine (hcall _).mono ?_; rintro e w' ⟨rfl, rfl⟩)
            go_ret
            exact ⟨ret_bool (Vr.name_not (k := k) hkl HQ.out).symm, rfl⟩
        · have : k = s.size := by omega
          subst this
          go_wp2
          go_ret
          exact ⟨ret_bool (Vr.name_all (by rw [HL.out]; omega) (by rw [HL.out]; omega) fun j hj => hall j hj (by rw [← HL.out]; exact hj)).symm, rfl⟩
end Go.Proofs.YtddedbpbenkdoaaGreatDoor
