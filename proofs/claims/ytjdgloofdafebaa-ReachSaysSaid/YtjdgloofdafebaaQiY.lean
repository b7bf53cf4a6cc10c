/- container/heap over places: Push and Pop of the row, up, down. -/
import Derived.Test.YtjdgloofdafebaaQgY
namespace Go.Proofs.Ytjdgloofdafebaa
open Go.RowKit

namespace Pr
section
variable {w w' w1 w2 : World} {base q n c : Nat} {A A' A1 A2 : Option Addr} {l l' : List Nat}
theorem Mv.grew {n' c' : Nat} {κ : Cs Int} {l2 : List Int} {base2 : Nat} {e : TypeId} (hg : Grew w w' (.slice A n c) (.slice A' n' c')) (ho : OwnK κ w' base2 e A' n' c' l2) : Mv w w' q A A' where
  os := hg.grown.os
  tape := hg.grown.tape
  output := hg.grown.output
  size := hg.grown.size
  block b hb _ ha := hg.grown.block b hb (fun e => own_ne ha e.symm)
  new _ ha' := grew_block hg ho ha'
theorem ta_int (k : Int) (w : World) : (Instr.typeAssert (.iface 3 (.int .i64 k)) 20 3 false).run Try.prog w = .ok (.int .i64 k) w := by kernel_rfl
def Pushed (base q : Nat) (A : Option Addr) (n : Nat) (l' : List Nat) (w : World) (e : Ending) (w' : World) : Prop := e = .returned (.tuple #[]) ∧ ∃ A' c', PL w' base q A' n c' l' ∧ Mv w w' q A A'
set_option maxHeartbeats 1600000 in
theorem ppush_any' (h : PL w base q A n c l) (hb : base ≤ w.heap.size) (hn : n ≤ 1000000) (k : Nat) :
    Calls Try.prog 62 #[.pointer (some ⟨q, 0, none⟩), .iface 3 (.int .i64 (k : Int))] w (Pushed base q A (n + 1) (l ++ [k]) w) := by
  obtain ⟨i0, hi0, hz0, hz1, hz2⟩ := info_parts info_int
  have hbd : Below w.heap.size w w.drew := (Below.refl _ _).drew
  have hba : Below w.drew.heap.size w.drew (w.drew.alloc (.cells #[.int .i64 (k : Int)] 3)) := (Below.refl _ _).alloc (Nat.le_refl _) _
  have hbda : Below w.heap.size w (w.drew.alloc (.cells #[.int .i64 (k : Int)] 3)) := hbd.trans hba
  have HA := Lib.hid (h.below hbda)
  have HB := Lib.hid hbda
  have HR : Hid (KRow iκ (w.drew.alloc (.cells #[.int .i64 (k : Int)] 3)) (w.drew.heap.size + 1) (some ⟨w.drew.heap.size, 0, none⟩) 1 [(k : Int)]) := Lib.hid (KRow.lit (κ := iκ) w.drew 3 [(k : Int)] #[.int .i64 k] rfl)
  have hbase : base ≤ (w.drew.alloc (.cells #[.int .i64 (k : Int)] 3)).heap.size := Nat.le_trans hb hbda.size
  have c1 := h.cel.cell 0 _ rfl
  have c1' := (h.cel.below hbd (Nat.le_refl _)).cell 0 _ rfl
  have f1 := h.cel.froz 0 (by simp)
  have hql := h.cel.lt
  have hql' : ¬ q = w.heap.size := by omega
  have HNE := Lib.hid h.ne
  have hta := ta_int (k : Int)
  clear h hbd hba hbda hb
  go_enter Try.func62, Try.ntmps62
  go_wp2_with fail
  go_region_law (refine step_append_k (κ := iκ) rfl (.tmp 8) (.tmp 11) 65 3 i0 _ 8 Try.underlying65 hi0 hz0 hz1 hz2 rfl rfl _ base _ A n c (l.map Int.ofNat) ⟨w.drew.heap.size, 0, none⟩ (k : Int) rfl HA.out.own rfl HR.out hn (by decide) hbase ?_; intro A' c' w' ho hg; have hcel := cel_grew HA.out.cel hg HNE.out; have g1 := hcel.cell 0 _ rfl; have g2 := hcel.froz 0 (by simp))
  all_goals
    have hne' : ∀ a, A' = some a → a.block ≠ q := fun a ha => by
      rcases grew_block hg ho ha with ⟨a0, h3, h4⟩ | h3
      · rw [← h4]; exact HNE.out a0 h3
      · exact fun e => absurd h3 (by rw [e]; exact Nat.not_le.2 HA.out.cel.lt)
    have hgs : w'.grownBy (w'.setCell ⟨q, 0, none⟩ (.slice A' (n + 1) c')) (some q) := grown_setCell w' ⟨q, 0, none⟩ _
    have hP : Pushed base q A (n + 1) (l ++ [k]) w (.returned (.tuple #[])) (w'.setCell ⟨q, 0, none⟩ (.slice A' (n + 1) c')) :=
      ⟨rfl, A', c', ⟨hcel.set (i := 0) (by simp) _, by rw [List.map_append]; exact ho.kept hgs (fun a ha e => hne' a ha (Option.some.inj e).symm), hne'⟩, (Mv.below HB.out).trans ((Mv.grew hg ho).trans (Mv.grown hgs))⟩
    clear hne' hgs hcel g1 g2 c1 c1'
    try simp only [Exit.inBlock, Exit.then]
    first | (refine bodyPost_ret (results_none rfl _ _ _) rfl ?_) | (refine bodyPost_end (results_none rfl _ _ _) rfl ?_)
    exact hP
def Popped (base q : Nat) (A : Option Addr) (n c : Nat) (l' : List Nat) (x : Nat) (w : World) (e : Ending) (w' : World) : Prop := e = .returned (.iface 3 (.int .i64 (x : Int))) ∧ PL w' base q A n c l' ∧ Mv w w' q A A
set_option maxHeartbeats 1600000 in
theorem ppop_any' (h : PL w base q A (n + 1) c l) (hn : n ≤ 1000000) :
    Calls Try.prog 61 #[.pointer (some ⟨q, 0, none⟩)] w (Popped base q A n c (l.take n) (l[n]!) w) := by
  have hl := h.len
  have hcap := h.own.cap
  obtain ⟨g, rfl, hgb, hgl⟩ := h.own.some_of (by omega)
  have k1 := iκ_cells h.own.row (show n < n + 1 by omega)
  rw [map_at (by omega), Nat.zero_add] at k1
  have c1 := h.cel.cell 0 _ rfl
  have f1 := h.cel.froz 0 (by simp)
  have hgs : w.grownBy (w.setCell ⟨q, 0, none⟩ (.slice (some ⟨g, 0, none⟩) n c)) (some q) := grown_setCell w ⟨q, 0, none⟩ _
  have HP : Hid (Popped base q (some ⟨g, 0, none⟩) n c (l.take n) (l[n]!) w (.returned (.iface 3 (.int .i64 (l[n]! : Int)))) (w.setCell ⟨q, 0, none⟩ (.slice (some ⟨g, 0, none⟩) n c))) := by
    refine ⟨rfl, ⟨h.cel.set (i := 0) (by simp) _, ?_, h.ne⟩, Mv.grown hgs⟩
    rw [List.map_take]
    exact (h.own.cut (Nat.le_succ n)).kept hgs (fun a ha e => h.ne a ha (Option.some.inj e).symm)
  have e1 : IntKind.i64.wrap (((n : Nat) : Int) + 1 - 1) = (n : Int) := by rw [IntKind.wrap_i64]; omega
  have h0 : (0 : Int) ≤ (n : Int) := by omega
  have h1 : (n : Int) < (n : Int) + 1 := by omega
  have h2 : (n : Int) ≤ (c : Int) := by omega
  generalize l[n]! = x at *
  clear hgs h hl hcap
  go_enter Try.func61, Try.ntmps61
  go_wp2
  go_ret
  exact HP.out
def Upped (base q : Nat) (A : Option Addr) (n c : Nat) (l : List Nat) (w : World) (e : Ending) (w' : World) : Prop := e = .returned (.tuple #[]) ∧ ∃ l', PL w' base q A n c l' ∧ Rc.Hp l' ∧ l'.Perm l ∧ Mv w w' q A A
set_option maxHeartbeats 1600000 in
set_option maxRecDepth 10000 in
theorem up_any (h : PL w base q A n c l) (hn : n ≤ 1000000) (j : Nat) (hj : j < n) (hu : Rc.Up l j) :
    Calls Try.prog 40 #[.iface 69 (.pointer (some ⟨q, 0, none⟩)), .int .i64 (j : Int)] w (Upped base q A n c l w) := by
  have HP := Lib.hid h
  have HU := Lib.hid hu
  clear h hu
  go_enter Try.func40, Try.ntmps40
  go_wp2_with fail
  go_loopw [1] (fun s wr => ∃ (jj : Nat) (l' : List Nat), jj < n ∧ s = .int .i64 jj ∧ PL wr base q A n c l' ∧ Rc.Up l' jj ∧ l'.Perm l ∧ Mv w wr q A A) (fun s _ => (intOf s).toNat)
  case atStart => exact ⟨j, l, hj, rfl, HP.out, HU.out, .refl _, Mv.refl _ _ _⟩
  case round =>
    obtain ⟨jj, l', hjj, rfl, hp, hu, hpm, hmv⟩ := hrel
    have hl := hp.len
    have HPr := Lib.hid hp
    have HUr := Lib.hid hu
    have HPM := Lib.hid hpm
    have HMV := Lib.hid hmv
    clear hp hu hpm hmv HP HU
    cases jj with
    | zero =>
      have HF : Hid (Upped base q A n c l w (.returned (.tuple #[])) wr) := ⟨rfl, l', HPr.out, HUr.out.fin (.inl rfl), HPM.out, HMV.out⟩
      have z0 : ((0 : Nat) : Int) = 0 := rfl
      rw [z0]
      clear z0 hl
      go_wp2
      try simp only [Exit.inBlock, Exit.then]
      first | (refine bodyPost_ret (results_none rfl _ _ _) rfl ?_) | (refine bodyPost_end (results_none rfl _ _ _) rfl ?_)
      exact HF.out
    | succ m =>
      obtain ⟨p, hp1, hp2⟩ : ∃ p, 2 * p ≤ m ∧ m < 2 * p + 2 := ⟨m / 2, by omega, by omega⟩
      have hpm' : p < m + 1 := by omega
      have hpn : p < n := by omega
      have q1 : (m : Int) / 2 = (p : Int) := by omega
      have q2 : Int.tdiv (m : Int) 2 = (p : Int) := by rw [Int.tdiv_eq_ediv_of_nonneg (by omega)]; exact q1
      have q3 : ((p : Int) == (m : Int) + 1) = false := by rw [beq_eq_false_iff_ne]; omega
      have ml := mLess (HPr.out.cel.cell 0 _ rfl)
      have HLE := Lib.hid (less_any HPr.out (m + 1) p hjj hpn)
      have ms : ((m + 1 : Nat) : Int) = (m : Int) + 1 := by omega
      rw [ms] at HLE ⊢
      have HMS := Lib.hid ms
      have HL := Lib.hid hl
      clear ms hl
      have hm0 : (0 : Int) ≤ (m : Int) := by omega
      have hm1 : (m : Int) ≤ 1000000 := by omega
      go_wp2_with fail
      refine HLE.out.mono ?_
      rintro e w3 ⟨rfl, k, rfl⟩
      have HPd := Lib.hid (HPr.out.drewN k)
      have HMd := Lib.hid (HMV.out.trans (Mv.below (below_drewN (Below.refl _ _) k)))
      by_cases hlt : l'[m + 1]! < l'[p]!
      · rw [decide_eq_true hlt]
        have hst := HUr.out.step (by rw [HL.out]; exact hjj) (Nat.succ_pos m) (by rw [show (m + 1 - 1) / 2 = p from by omega]; exact hlt)
        rw [show (m + 1 - 1) / 2 = p from by omega] at hst
        have HST := Lib.hid hst
        have HSP := Lib.hid ((Rc.swap_perm (l := l') (i := p) (j := m + 1) (by rw [HL.out]; exact hpn) (by rw [HL.out]; exact hjj)).trans HPM.out)
        have ms2 := mSwap (HPd.out.cel.cell 0 _ rfl)
        have HSW := Lib.hid (swap_any HPd.out p (m + 1) hpn hjj)
        rw [HMS.out] at HSW
        clear hlt hst
        go_wp2_with fail
        refine HSW.out.mono ?_
        rintro e w4 ⟨rfl, hp4, hm4⟩
        have HM4 := Lib.hid (HMd.out.trans hm4)
        have HP4 := Lib.hid hp4
        clear hm4 hp4 ml ms2
        go_wp2_with fail
        go_roundw
        case measure => simp [intOf]; omega
        case rel => exact ⟨p, _, hpn, rfl, HP4.out, HST.out, HSP.out, HM4.out⟩
      · rw [decide_eq_false hlt]
        have HF : Hid (Upped base q A n c l w (.returned (.tuple #[])) (wr.drewN k)) := ⟨rfl, l', HPd.out, HUr.out.fin (.inr (by rw [show (m + 1 - 1) / 2 = p from by omega]; omega)), HPM.out, HMd.out⟩
        clear hlt
        go_wp2
        try simp only [Exit.inBlock, Exit.then]
        first | (refine bodyPost_ret (results_none rfl _ _ _) rfl ?_) | (refine bodyPost_end (results_none rfl _ _ _) rfl ?_)
        exact HF.out
end
end Pr
end Go.Proofs.Ytjdgloofdafebaa
