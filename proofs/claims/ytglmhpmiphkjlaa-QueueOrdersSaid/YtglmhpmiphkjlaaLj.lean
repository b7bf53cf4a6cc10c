/- Package queue: slices.DeleteFunc of those that are not free (walk). -/
import Derived.Test.YtglmhpmiphkjlaaLi
namespace Go.Proofs.Ytglmhpmiphkjlaa
open Go.RowKit

namespace Qu
open Ls (T)
set_option maxRecDepth 100000 in
set_option maxHeartbeats 3200000 in
theorem delf_any (b g : Nat) (now : Int) (zs : List T) (n c : Nat) (w : World) (hz : zs.length = n) (hn : n ≤ 1000000) (hnc : n ≤ c) (hb : w.cell? ⟨b, 0, none⟩ = some (.int .i64 now)) (hbg : b ≠ g) (hg : g < w.heap.size) (hr : RT w g zs) :
    Calls Try.prog 30 #[.slice (some ⟨g, 0, none⟩) n c, .func (.func 28) #[] #[.pointer (some ⟨b, 0, none⟩)]] w fun e w' =>
      e = .returned (.slice (some ⟨g, 0, none⟩) (zs.filter (T.free · now)).length c) ∧ RT w' g (zs.filter (T.free · now)) ∧ Kp (· = g) w w' := by
  subst hz
  have eg : ∀ args w, (callFunc 28 args).run Try.prog w = .ok (.enter 28 args) w := enters_of Try.func28 (by kernel_rfl) rfl
  have HIX := Lib.hid (ix_any b g now zs zs.length c w rfl hn hb hg hr)
  have HB := Lib.hid hb
  have HR := Lib.hid hr
  have hlt : b < w.heap.size := by
    rcases Nat.lt_or_ge b w.heap.size with h | h
    · exact h
    · simp [World.cell?, Array.getElem?_eq_none h] at hb
  clear hb hr
  rcases idx_spec (fun (_ y : T) => !T.free y now) default zs 0 with ⟨e1, hall⟩ | ⟨k0, hk0, e1, ht, hall⟩
  · have e2 : Lib.idxBy (fun (_ y : T) => !T.free y now) zs default = -1 := e1
    rw [e2] at HIX
    have hf : zs.filter (T.free · now) = zs := by
      rw [List.filter_eq_self]
      intro x hx
      obtain ⟨j, hj, rfl⟩ := List.mem_iff_getElem.1 hx
      have := hall j hj
      rw [getElem!_pos zs j hj] at this
      simpa using this
    rw [hf]
    clear hall e1 e2 hf
    go_enter Try.func30, Try.ntmps30
    go_wp2_with fail
    refine HIX.out.mono ?_
    rintro e w1 ⟨rfl, hb1⟩
    go_wp2
    go_ret
    exact ⟨rfl, HR.out.below hb1 hg, Kp.of_below _ hb1 (Nat.le_refl _)⟩
  · have e2 : Lib.idxBy (fun (_ y : T) => !T.free y now) zs default = (k0 : Int) := by unfold Lib.idxBy; rw [e1]; simp
    rw [e2] at HIX
    have HK0 := Lib.hid (Kept.start (now := now) hk0 (fun j hj => by simpa using hall j hj) (by simpa using ht))
    have hne1 : ((k0 : Int) == -1) = false := beq_eq_false_iff_ne.2 (by omega)
    clear hall e1 e2 ht
    go_enter Try.func30, Try.ntmps30
    go_wp2_with fail
    refine HIX.out.mono ?_
    rintro e w1 ⟨rfl, hb1⟩
    have HR1 := Lib.hid (HR.out.below hb1 hg)
    have HK1 := Lib.hid (Kp.of_below (· = g) hb1 (Nat.le_refl _))
    clear hb1
    go_wp2_with fail
    go_loopw [5, 6] (fun s5 s6 wr => ∃ (i j : Nat) (r : List T), s5 = .int .i64 i ∧ s6 = .int .i64 j ∧ Kept now zs r i j ∧ RT wr g r ∧ Kp (· = g) w wr) (fun _ s6 _ => zs.length - (intOf s6).toNat)
    case atStart => exact ⟨k0, k0 + 1, zs, rfl, by go_num, HK0.out, HR1.out, HK1.out⟩
    case round =>
      obtain ⟨i, j, r, rfl, rfl, hkept, hrt, hkp⟩ := hrel
      have HKE := Lib.hid hkept
      have HRT := Lib.hid hrt
      have HKP := Lib.hid hkp
      have hij := hkept.lt
      have hjl := hkept.jl
      have hlen := hkept.len
      have hi0 : (0 : Int) ≤ (i : Int) := by omega
      have hj0 : (0 : Int) ≤ (j : Int) := by omega
      clear hkept hrt hkp
      by_cases hlj : j < zs.length
      · have hI : (j : Int) < (zs.length : Int) := by omega
        have hI2 : (i : Int) < (zs.length : Int) := by omega
        obtain ⟨⟨t0, t1, t2, t3, t4, t5, t6, t7, t8, t9, t10, t11⟩, _⟩ := rt_at HRT.out (j := j) (by omega)
        rw [HKE.out.at_ hlj] at t0 t1 t2 t3 t4 t5 t6 t7 t8 t9 t10 t11
        have HS : Hid (zs[j]!.free now = true → Kept now zs (r.set i zs[j]!) (i + 1) (j + 1)) := Lib.hid (HKE.out.keep hlj)
        have HSk : Hid (zs[j]!.free now = false → Kept now zs r i (j + 1)) := Lib.hid (HKE.out.skip hlj)
        generalize zs[j]! = x at *
        have hba : Below wr.heap.size wr (wr.alloc (.cells x.cells.toArray 38)) := (Below.refl _ _).alloc (Nat.le_refl _) _
        have hta : Cel (wr.alloc (.cells x.cells.toArray 38)) wr.heap.size x.cells := Cel.lit wr x.cells.toArray 38
        have hsz := HKP.out.size
        have HRa := Lib.hid (HRT.out.below hba (by omega))
        have HKa := Lib.hid (HKP.out.trans (Kp.of_below _ hba (Nat.le_refl _)))
        have HCa := Lib.hid (notfree_any b now x (wr.alloc (.cells x.cells.toArray 38)) ((HKa.out.cell (a := ⟨b, 0, none⟩) hlt hbg).trans HB.out))
        obtain ⟨R, hR⟩ : ∃ R, x.free now = R := ⟨_, rfl⟩
        rw [hR] at HS HSk HCa
        unfold T.val at HCa
        unfold T.cells at *
        have hgw : g < (wr.alloc (.cells #[.int .i64 x.id, .int .i64 x.ins, .int .i64 x.tok, .int .i64 x.nod, .string x.top, .int .i64 x.prio, .string x.wkr, .int .i64 x.epo, .int .i64 x.exp, .int .i64 x.aft, .int .i64 x.ret, .bool x.bro] 38)).heap.size := by have := hba.size; simp; omega
        obtain ⟨⟨k0', k1, k2, k3, k4, k5, k6, k7, k8, k9, k10, k11⟩, _⟩ := Ls.dz_facts hta
        have HTA := Lib.hid hta
        have hir : i < r.length := by omega
        clear hba hta
        cases R with
        | true =>
          go_wp2_with fail
          refine HCa.out.mono ?_
          rintro e w2 ⟨rfl, hb2⟩
          have htb := HTA.out.below hb2 (Nat.le_refl _)
          have HR2 := Lib.hid (HRa.out.below hb2 hgw)
          have HK2 := Lib.hid (HKa.out.trans (Kp.of_below _ hb2 (Nat.le_refl _)))
          clear t0 t1 t2 t3 t4 t5 t6 t7 t8 t9 t10 t11 k0' k1 k2 k3 k4 k5 k6 k7 k8 k9 k10 k11 hb2
          obtain ⟨⟨k0', k1, k2, k3, k4, k5, k6, k7, k8, k9, k10, k11⟩, _⟩ := Ls.dz_facts htb
          obtain ⟨⟨t0, t1, t2, t3, t4, t5, t6, t7, t8, t9, t10, t11⟩, f0, f1, f2, f3, f4, f5, f6, f7, f8, f9, f10, f11⟩ := rt_at HR2.out hir
          clear htb
          go_wp2
          have HRf := Lib.hid (HR2.out.set hir x)
          have HGf := Lib.hid (setCells_grown g x.cells (i * 12) (World.grownBy.refl w2 (some g)))
          go_roundw
          case rel => exact ⟨i + 1, j + 1, r.set i x, by go_num, by go_num, HS.out (by first | trivial | rfl | exact hR), HRf.out, HK2.out.trans (Kp.of_grown HGf.out (fun _ _ e => (Option.some.inj e).symm))⟩
          case measure =>
            simp only [intOf]
            omega
        | false =>
          go_wp2_with (go_at_fn 28; refine HCa.out.mono ?_; rintro e w2 ⟨rfl, hb2⟩)
          go_roundw
          case rel => exact ⟨i, j + 1, r, rfl, by go_num, HSk.out (by first | trivial | rfl | exact hR), HRa.out.below hb2 hgw, HKa.out.trans (Kp.of_below _ hb2 (Nat.le_refl _))⟩
          case measure =>
            simp only [intOf]
            omega
      · obtain rfl : j = zs.length := by omega
        have hI : ¬ (zs.length : Int) < (zs.length : Int) := by omega
        have hi := HKE.out.il
        have hh := HKE.out.head
        rw [List.take_length] at hi hh
        have HI := Lib.hid hi
        have HH := Lib.hid hh
        clear hi hh
        obtain ⟨vs, hcl⟩ : ∃ vs, ∀ ty, (Builtin.clear_ #[28] ty #[.slice (some ⟨g, i * 12, none⟩) (zs.length - i) (c - i)]).run Try.prog wr = .ok (.tuple #[]) (wr.setCells g (i * 12) vs) := by
          obtain ⟨vs, h⟩ := run_clear_tasks wr g (i * 12) (zs.length - i) (c - i) 0 (by omega) (fun t ht => HRT.out.isS (by omega))
          exact ⟨vs, fun ty => h⟩
        go_wp2
        go_ret
        refine ⟨by rw [HI.out]; rfl, ?_, HKP.out.trans (Kp.of_grown (setCells_grown g vs (i * 12) (World.grownBy.refl wr (some g))) (fun _ _ e => (Option.some.inj e).symm))⟩
        have h2 := HRT.out.take i
        rw [HH.out] at h2
        exact h2.past (by rw [← HI.out]; omega) vs
end Qu
end Go.Proofs.Ytglmhpmiphkjlaa
