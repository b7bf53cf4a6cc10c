/- Walks of package cond: the parser's error; its text; which operator stands there. -/
import Derived.Test.YtlmlhjepolefaaaGreatDoorYTokenChoices7
namespace Go.Proofs.YtlmlhjepolefaaaGreatDoor
open Go.RowKit

section
variable {E : Int → Option Addr} {W w w' : World} {q d : Nat} {s : ByteArray} {st : Co.St}
theorem drew_add (w : World) (n m : Nat) : (w.drewN n).drewN m = w.drewN (n + m) := by
  unfold World.drewN
  simp [Nat.add_assoc]
theorem Co.fail_err {c : Int} {x : Int × Nat} (h : st.err = some x) : Co.fail c st = st := by unfold Co.fail; rw [h]; rfl
theorem Co.fail_new {c : Int} (h : st.err = none) : Co.fail c st = ⟨0, st.frm, st.till, some (c, st.frm)⟩ := by unfold Co.fail; rw [if_neg (by rw [h]; simp)]
set_option maxHeartbeats 1600000 in
theorem cfail_any (h : PaC E w q s st d) (c : Int) (a : Addr) (ha : E c = some a) (hc0 : c ≠ 0) :
    Calls Tryz.prog 68 #[.pointer (some ⟨q, 0, none⟩), errV a] w fun x w' => x = .returned (.tuple #[]) ∧ PaC E w' q s (Co.fail c st) d ∧ w.grownBy w' (some q) := by
  obtain ⟨ev, ⟨c0, c1, c2, c3, c4, c5⟩, he⟩ := h.cells
  have f1 := h.froz (i := 1) (by decide)
  have f5 := h.froz (i := 5) (by decide)
  have hlt := h.lt
  have H := Lib.hid h
  unfold errV
  cases hst : st.err with
  | some x =>
    rw [hst] at he
    obtain ⟨c', k⟩ := x
    obtain ⟨b, a', rfl, hka, hcn, hb⟩ := he
    rw [Co.fail_err hst]
    unfold atV at c5
    clear c0 c1 c2 c3 c4 f1 f5 hb h hst ha hc0 hka
    go_enter Tryz.func68, Tryz.ntmps68
    go_wp2
    try simp only [Exit.inBlock, Exit.then]
    first | (refine bodyPost_ret (results_none rfl _ _ _) rfl ?_) | (refine bodyPost_end (results_none rfl _ _ _) rfl ?_)
    exact ⟨rfl, H.out, World.grownBy.refl _ _⟩
  | none =>
    rw [hst] at he
    obtain rfl : ev = .nilIface := he
    rw [Co.fail_new hst]
    have HA := Lib.hid ha
    have HC := Lib.hid hc0
    clear h hst ha hc0
    go_enter Tryz.func68, Tryz.ntmps68
    go_wp2
    try simp only [Exit.inBlock, Exit.then]
    first | (refine bodyPost_ret (results_none rfl _ _ _) rfl ?_) | (refine bodyPost_end (results_none rfl _ _ _) rfl ?_)
    obtain ⟨ev, hc, he'⟩ := H.out.ex
    have h5 : ev = .nilIface := Option.some.inj ((hc.cell 5 _ rfl).symm.trans c5)
    subst h5
    refine ⟨rfl, ⟨⟨atV w.heap.size, ((hc.set (i := 5) (by simp) _).set (i := 1) (by simp) _).alloc _, w.heap.size, a, rfl, HA.out, HC.out, ?_⟩, H.out.ord, H.out.top, H.out.size⟩,
      grown_trans (set_grown (set_grown (World.grownBy.refl _ _) 5 _) 1 _) (grown_alloc _ _ _)⟩
    have := heap_alloc_new ((w.setCell ⟨q, 5, none⟩ (.iface 96 (.pointer (some ⟨w.heap.size, 0, none⟩)))).setCell ⟨q, 1, none⟩ (.int .i64 0)) (.cells #[.int .i64 (st.frm : Int), .iface 185 (.pointer (some a))] 100)
    simpa [errV] using this
set_option maxHeartbeats 1600000 in
theorem ctxt_any (h : PaC E w q s st d) :
    Calls Tryz.prog 116 #[.pointer (some ⟨q, 0, none⟩)] w fun x w' => x = .returned (.string (s.extract st.frm st.till)) ∧ ∃ n, w' = w.drewN n := by
  obtain ⟨ev, ⟨c0, c1, c2, c3, c4, c5⟩, he⟩ := h.cells
  have hlt := h.lt
  have h1 := h.ord
  have h2 := h.top
  have hle : (st.frm : Int) ≤ (st.till : Int) := by omega
  have hle2 : (st.till : Int) ≤ (s.size : Int) := by omega
  have h00 : (0 : Int) ≤ (st.frm : Int) := by omega
  clear c1 c4 c5 he h
  go_enter Tryz.func116, Tryz.ntmps116
  go_wp2_with fail
  go_quiet (fail)
  go_wp2
  go_ret
  exact ⟨rfl, _, rfl⟩

theorem is_eq (m : List UInt8) : ((s.extract st.frm st.till).toList == m) = decide (Co.text s.data.toList st = m) := by
  rw [Co.eq_lit, ext_list]
  rfl
set_option maxHeartbeats 1600000 in
theorem cis_any (h : PaC E w q s st d) (m : List UInt8) :
    Calls Tryz.prog 100 #[.pointer (some ⟨q, 0, none⟩), .string ⟨m.toArray⟩] w fun x w' => x = .returned (.bool (Co.isM s.data.toList st m)) ∧ ∃ n, w' = w.drewN n := by
  obtain ⟨ev, ⟨c0, c1, c2, c3, c4, c5⟩, he⟩ := h.cells
  have hlt := h.lt
  have HT := Lib.hid (ctxt_any h)
  have hr : Co.isM s.data.toList st m = (decide (st.kind = 6) && decide (Co.text s.data.toList st = m)) := rfl
  rw [← is_eq] at hr
  obtain ⟨M, hM⟩ : ∃ M : ByteArray, M = ⟨m.toArray⟩ := ⟨_, rfl⟩
  have hml : m = M.toList := by rw [Co.list_data, hM]
  rw [← hM]
  generalize Co.isM s.data.toList st m = r at *
  rw [hml] at hr
  clear c0 c2 c3 c4 c5 he h hM hml
  by_cases hk : st.kind = 6
  · have hkI : (st.kind : Int) = 6 := by omega
    rw [hkI] at c1
    simp only [hk, decide_true, Bool.true_and] at hr
    subst hr
    clear hk hkI
    go_enter Tryz.func100, Tryz.ntmps100
    go_wp2_with (go_at_call 116; refine HT.out.mono ?_; rintro e w' ⟨rfl, n, rfl⟩)
    go_ret
    exact ⟨rfl, n, rfl⟩
  · have hkI : ((st.kind : Int) == 6) = false := by rw [beq_eq_false_iff_ne]; omega
    simp only [hk, decide_false, Bool.false_and] at hr
    subst hr
    clear hk
    go_enter Tryz.func100, Tryz.ntmps100
    go_wp2
    go_ret
    exact ⟨rfl, 0, rfl⟩

theorem Co.op_hit {l : List UInt8} {b i : Nat} (hi : i ≤ b) (h : Co.isM l st (Co.words[i]!) = true) : Co.opGo l st (b + 1 - i) i = i := by
  rw [show b + 1 - i = (b - i) + 1 from by omega, Co.opGo, if_pos h]
theorem Co.op_miss {l : List UInt8} {b i : Nat} (hi : i ≤ b) (h : Co.isM l st (Co.words[i]!) = false) : Co.opGo l st (b + 1 - i) i = Co.opGo l st (b + 1 - (i + 1)) (i + 1) := by
  rw [show b + 1 - i = (b - i) + 1 from by omega, Co.opGo, if_neg (by rw [h]; simp), show b + 1 - (i + 1) = b - i from by omega]
theorem Co.op_none {l : List UInt8} {b i : Nat} (hi : b < i) : Co.opGo l st (b + 1 - i) i = 0 := by
  rw [show b + 1 - i = 0 from by omega, Co.opGo]
set_option maxHeartbeats 1600000 in
theorem cop_any (hE : CoErrs W E) (hb : Below W.heap.size W w) (h : PaC E w q s st d) (a b : Nat) (hab : a ≤ b) (hb18 : b < 18) :
    Calls Tryz.prog 91 #[.pointer (some ⟨q, 0, none⟩), .int .i64 (a : Int), .int .i64 (b : Int)] w fun x w' => x = .returned (.int .i64 (Co.op s.data.toList st a b : Int)) ∧ ∃ n, w' = w.drewN n := by
  have HW := Lib.hid (hE.below hb).words
  have H := Lib.hid h
  clear hE hb h
  go_enter Tryz.func91, Tryz.ntmps91
  go_wp2_with fail
  go_loopw [7] (fun i wr => ∃ k : Nat, a ≤ k ∧ k ≤ b + 1 ∧ i = .int .i64 k ∧ (∃ n, wr = w.drewN n) ∧ Hid (Co.op s.data.toList st a b = Co.opGo s.data.toList st (b + 1 - k) k)) (fun i _ => b + 1 - (intOf i).toNat)
  case atStart => exact ⟨a, Nat.le_refl _, by omega, rfl, ⟨0, rfl⟩, rfl⟩
  case round =>
    obtain ⟨k, hk1, hk2, rfl, ⟨n, rfl⟩, hop⟩ := hrel
    by_cases hkb : k ≤ b
    · have hkI : (k : Int) ≤ (b : Int) := by omega
      have cw := HW.out k (by omega)
      have HI := Lib.hid (cis_any (H.out.below (below_drewN (Below.refl w.heap.size w) n) (Nat.le_refl _)) (Co.words[k]!))
      obtain ⟨r, hr⟩ : ∃ r, r = Co.isM s.data.toList st (Co.words[k]!) := ⟨_, rfl⟩
      rw [← hr] at HI
      have H1 : Hid (r = true → Co.opGo s.data.toList st (b + 1 - k) k = k) := fun h => Co.op_hit hkb (hr ▸ h)
      have H2 : Hid (r = false → Co.opGo s.data.toList st (b + 1 - k) k = Co.opGo s.data.toList st (b + 1 - (k + 1)) (k + 1)) := fun h => Co.op_miss hkb (hr ▸ h)
      clear hr
      generalize (⟨(Co.words[k]!).toArray⟩ : ByteArray) = M at *
      cases r with
      | true =>
        have K1 := Lib.hid (H1.out rfl)
        clear H1 H2
        go_wp2_with fail
        refine HI.out.mono ?_
        rintro e w' ⟨rfl, n', rfl⟩
        go_wp2
        go_ret
        rw [hop.out, K1.out]
        exact ⟨rfl, n + n', rfl⟩
      | false =>
        have K2 := Lib.hid (H2.out rfl)
        clear H1 H2
        go_wp2_with fail
        refine HI.out.mono ?_
        rintro e w' ⟨rfl, n', rfl⟩
        go_wp2_with fail
        go_roundw
        case measure => simp [intOf]; omega
        case rel => exact ⟨k + 1, by omega, by omega, by go_num, ⟨n + n', rfl⟩, hop.out.trans K2.out⟩
    · have hkI : ¬ (k : Int) ≤ (b : Int) := by omega
      go_wp2
      go_ret
      rw [hop.out, Co.op_none (by omega)]
      exact ⟨rfl, n, rfl⟩
end
end Go.Proofs.YtlmlhjepolefaaaGreatDoor
