/- Walks of leaseholdmake: one node more, one flow more. -/
import Derived.Test.YtjdgloofdafebaaYReachSays2
import Derived.Deep.QuietTactic
import Derived.BigQuiet
import Derived.Deep.CutRange
namespace Go.Proofs.Ytjdgloofdafebaa
open Go.RowKit

namespace Pr
section
variable {w : World} {base q : Nat} {p : P}
theorem nd_facts {w : World} {z : Nat} {a0 a1 a2 a3 a4 a5 a6 a7 : Value} (h : Cel w z [a0, a1, a2, a3, a4, a5, a6, a7]) : w.cell? ⟨z, 0, none⟩ = some a0 ∧ w.cell? ⟨z, 1, none⟩ = some a1 ∧ w.cell? ⟨z, 2, none⟩ = some a2 ∧ w.cell? ⟨z, 3, none⟩ = some a3 ∧ w.cell? ⟨z, 4, none⟩ = some a4 ∧ w.cell? ⟨z, 5, none⟩ = some a5 ∧ w.cell? ⟨z, 6, none⟩ = some a6 ∧ w.cell? ⟨z, 7, none⟩ = some a7 :=
  ⟨h.cell 0 _ rfl, h.cell 1 _ rfl, h.cell 2 _ rfl, h.cell 3 _ rfl, h.cell 4 _ rfl, h.cell 5 _ rfl, h.cell 6 _ rfl, h.cell 7 _ rfl⟩
theorem tri_facts {w : World} {z : Nat} {a0 a1 a2 : Value} (h : Cel w z [a0, a1, a2]) : (w.cell? ⟨z, 0, none⟩ = some a0 ∧ w.cell? ⟨z, 1, none⟩ = some a1 ∧ w.cell? ⟨z, 2, none⟩ = some a2) ∧ (w.frozen? ⟨z, 0, none⟩ = false ∧ w.frozen? ⟨z, 1, none⟩ = false ∧ w.frozen? ⟨z, 2, none⟩ = false) :=
  ⟨⟨h.cell 0 _ rfl, h.cell 1 _ rfl, h.cell 2 _ rfl⟩, h.froz 0 (by simp), h.froz 1 (by simp), h.froz 2 (by simp)⟩
theorem cel_grew {w w' : World} {q : Nat} {cs : List Value} {A : Option Addr} {n c : Nat} {v' : Value} (hc : Cel w q cs) (hg : Grew w w' (.slice A n c) v') (h1 : ∀ a, A = some a → a.block ≠ q) : Cel w' q cs :=
  hc.kept hg.grown (by
    intro he
    cases A with
    | none => cases he
    | some a => exact h1 a rfl (Option.some.inj he))
set_option maxHeartbeats 1600000 in
set_option maxRecDepth 10000 in
theorem mnode_any (x : Nd) (h : C w base q p) (hp : p.n ≤ 100000) :
    Calls Try.prog 27 #[.pointer (some ⟨q, 0, none⟩), x.val] w fun e w' => e = .returned (.int .i64 p.n) ∧ C w' base q (p.node x) ∧ Below base w w' := by
  obtain ⟨A, n, c, F, m, d, hc, hn, hf, h1, h2⟩ := h.ex
  have hlow := h.low
  have hlt := h.lt
  have hbase : base ≤ w.heap.size := by omega
  obtain rfl : p.n = n := hn.len
  have HZ := Lib.hid (Cel.lit w #[.int .i64 x.kind, .string x.topic, .int .i64 x.prio, .int .i64 x.retr, .int .i64 (-1), .string x.code, .string x.caught, .int .i64 (-1)] 48)
  have HB := Lib.hid ((Below.refl w.heap.size w).alloc (Nat.le_refl _) (.cells #[.int .i64 x.kind, .string x.topic, .int .i64 x.prio, .int .i64 x.retr, .int .i64 (-1), .string x.code, .string x.caught, .int .i64 (-1)] 48))
  have HC := Lib.hid hc
  have HN := Lib.hid hn
  have HF := Lib.hid hf
  have HP := Lib.hid hp
  clear hc hn hf hp h
  go_enter Try.func27, Try.ntmps27
  unfold Nd.val
  go_upto_region 3 with (fail)
  have hz := HZ.out.below (Below.refl _ _).drew (Nat.le_refl _)
  have hb := HB.out.drew
  have hcd := HC.out.below hb (Nat.le_refl _)
  have hnd := HN.out.below hb (Nat.le_refl _)
  have hfd := HF.out.below hb (Nat.le_refl _)
  clear HZ HB HC HN HF
  generalize w.alloc _ = wz at *
  obtain ⟨k0, k1, k2, k3, k4, k5, k6, k7⟩ := nd_facts hz
  obtain ⟨⟨c0, c1, c2⟩, f0, f1, f2⟩ := tri_facts hcd
  have hba : Below w.heap.size w (wz.drew.alloc (.cells #[.int .i64 x.kind, .string x.topic, .int .i64 x.prio, .int .i64 x.retr, .int .i64 (-1), .string x.code, .string x.caught, .int .i64 (-1)] 48)) := hb.alloc hb.size _
  have hbn : Below wz.drew.heap.size wz.drew (wz.drew.alloc (.cells #[.int .i64 x.kind, .string x.topic, .int .i64 x.prio, .int .i64 x.retr, .int .i64 (-1), .string x.code, .string x.caught, .int .i64 (-1)] 48)) := (Below.refl _ _).alloc (Nat.le_refl _) _
  have HCa := Lib.hid (hcd.below hbn (Nat.le_refl _))
  have HNa := Lib.hid (hnd.below hbn (Nat.le_refl _))
  have HFa := Lib.hid (hfd.below hbn (Nat.le_refl _))
  have HBa := Lib.hid hba
  have HR : Hid (KRow Nd.κ (wz.drew.alloc (.cells #[.int .i64 x.kind, .string x.topic, .int .i64 x.prio, .int .i64 x.retr, .int .i64 (-1), .string x.code, .string x.caught, .int .i64 (-1)] 48)) (wz.drew.heap.size + 1) (some ⟨wz.drew.heap.size, 0, none⟩) 1 [{ x with dflt := -1, tgt := -1 }]) := Lib.hid (KRow.lit (κ := Nd.κ) wz.drew 48 [{ x with dflt := -1, tgt := -1 }] #[.int .i64 x.kind, .string x.topic, .int .i64 x.prio, .int .i64 x.retr, .int .i64 (-1), .string x.code, .string x.caught, .int .i64 (-1)] rfl)
  have hql : q < wz.heap.size := hcd.lt
  have hqd : q < wz.drew.heap.size := hcd.lt
  have e1 : wz.cell? ⟨q, 1, none⟩ = some (.slice A p.n c) := c1
  have hqn : ¬ q = wz.heap.size := by omega
  have hbw : base ≤ (wz.drew.alloc (.cells #[.int .i64 x.kind, .string x.topic, .int .i64 x.prio, .int .i64 x.retr, .int .i64 (-1), .string x.code, .string x.caught, .int .i64 (-1)] 48)).heap.size := by have := hbn.size; omega
  clear hz hb hcd hnd hfd hba hbn
  obtain ⟨i0, hi0, hz0, hz1, hz2⟩ := info_parts info_node
  go_region_law (refine step_append_k (κ := Nd.κ) rfl (.tmp 11) (.tmp 13) 22 48 i0 _ 88 Try.underlying22 hi0 hz0 hz1 hz2 rfl rfl _ base _ A p.n c p.nodes ⟨wz.drew.heap.size, 0, none⟩ { x with dflt := -1, tgt := -1 } rfl HNa.out rfl HR.out (by have := HP.out; omega) (by decide) hbw ?_; intro A' c' w' ho hg; obtain ⟨⟨d0, d1, d2⟩, g0, g1, g2⟩ := tri_facts (cel_grew HCa.out hg h1))
  all_goals
    have HFIN := Lib.hid (C.nodes HCa.out HNa.out HFa.out h1 h2 hlow hg ho)
    have HBF := Lib.hid (((HBa.out.mono hbase).trans (hg.below HNa.out.2 hbw)).setCell (p := ⟨q, 1, none⟩) hlow (.slice A' (p.n + 1) c'))
    clear ho hg
    go_wp2
    go_ret
    exact ⟨ret_int (k := .i64) (a := wrap64 (p.n : Int)) (by unfold wrap64; have := HP.out; omega), HFIN.out, HBF.out⟩
set_option maxHeartbeats 1600000 in
set_option maxRecDepth 10000 in
theorem mjoin_any (a b : Int) (t : ByteArray) (h : C w base q p) (hp : p.m ≤ 100000) :
    Calls Try.prog 28 #[.pointer (some ⟨q, 0, none⟩), .int .i64 a, .int .i64 b, .string t] w fun e w' => e = .returned (.int .i64 p.m) ∧ C w' base q (p.join a b t) ∧ Below base w w' ∧ w'.cell? ⟨q, 1, none⟩ = w.cell? ⟨q, 1, none⟩ := by
  obtain ⟨A, n, c, F, m, d, hc, hn, hf, h1, h2⟩ := h.ex
  have hlow := h.low
  have hlt := h.lt
  have hbase : base ≤ w.heap.size := by omega
  obtain rfl : p.m = m := hf.len
  have hba : Below w.heap.size w (w.alloc (.cells #[.int .i64 a, .int .i64 b, .string t] 40)) := (Below.refl _ _).alloc (Nat.le_refl _) _
  have HCa := Lib.hid (hc.below hba (Nat.le_refl _))
  have HNa := Lib.hid (hn.below hba (Nat.le_refl _))
  have HFa := Lib.hid (hf.below hba (Nat.le_refl _))
  have HBa := Lib.hid hba
  have HP := Lib.hid hp
  have HR : Hid (KRow Fl.κ (w.alloc (.cells #[.int .i64 a, .int .i64 b, .string t] 40)) (w.heap.size + 1) (some ⟨w.heap.size, 0, none⟩) 1 [⟨a, b, t⟩]) := Lib.hid (KRow.lit (κ := Fl.κ) w 40 [⟨a, b, t⟩] #[.int .i64 a, .int .i64 b, .string t] rfl)
  have hqn : ¬ q = w.heap.size := by omega
  have hbw : base ≤ (w.alloc (.cells #[.int .i64 a, .int .i64 b, .string t] 40)).heap.size := by have := hba.size; omega
  obtain ⟨⟨c0, c1, c2⟩, f0, f1, f2⟩ := tri_facts hc
  obtain ⟨i0, hi0, hz0, hz1, hz2⟩ := info_parts info_flow
  clear hba hc hn hf hp h
  go_enter Try.func28, Try.ntmps28
  go_wp2_with (at_builtin; refine append_k (κ := Fl.κ) rfl (.tmp 13) (.tmp 18) 23 40 i0 _ 32 Try.underlying23 hi0 hz0 hz1 hz2 rfl rfl _ base _ F p.m d p.flows ⟨w.heap.size, 0, none⟩ ⟨a, b, t⟩ rfl HFa.out rfl HR.out (by have := HP.out; omega) (by decide) hbw ?_; intro F' d' w' ho hg; obtain ⟨⟨d0, d1, d2⟩, g0, g1, g2⟩ := tri_facts (cel_grew HCa.out hg h2))
  have HFIN := Lib.hid (C.flows HCa.out HNa.out HFa.out h1 h2 hlow hg ho)
  have HBF := Lib.hid (((HBa.out.mono hbase).trans (hg.below HFa.out.2 hbw)).setCell (p := ⟨q, 2, none⟩) hlow (.slice F' (p.m + 1) d'))
  have HK : Hid ((w'.setCell ⟨q, 2, none⟩ (.slice F' (p.m + 1) d')).cell? ⟨q, 1, none⟩ = w.cell? ⟨q, 1, none⟩) := Lib.hid ((World.cell?_setCell_other _ _ _ _ (by intro h; cases h)).trans (d1.trans c1.symm))
  clear ho hg
  go_wp2
  go_ret
  exact ⟨ret_int (k := .i64) (a := wrap64 (p.m : Int)) (by unfold wrap64; have := HP.out; omega), HFIN.out, HBF.out, HK.out⟩
end
end Pr
end Go.Proofs.Ytjdgloofdafebaa
