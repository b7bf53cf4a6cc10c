/- Package state: what slices.DeleteFunc leaves of those that are of another instance. Made out of XLh, XLi, XLj. -/
import Derived.Test.YtdmbbbljamjhkaaLi
namespace Go.Proofs.Ytdmbbbljamjhkaa
open Go.RowKit

namespace St
open Ls (T)
open Qu (RT Kp tκ idx_spec rt_at run_clear_tasks RT.of_own setCells_grown)
/-- Is it of that instance? -/
def ofI (x : T) (k : Int) : Bool := decide (x.ins = k)
set_option maxHeartbeats 1600000 in
/-- The predicate that Of hands over. -/
theorem notof_any (b : Nat) (now : Int) (x : T) (w : World) (hb : w.cell? ⟨b, 0, none⟩ = some (.int .i64 now)) : Calls Try.prog 14 (#[x.val] ++ #[.pointer (some ⟨b, 0, none⟩)]) w fun e w' => e = .returned (.bool (!ofI x now)) ∧ Below w.heap.size w w' := by
  obtain ⟨hc, hbl⟩ := Ls.one_lit w #[.int .i64 x.id, .int .i64 x.ins, .int .i64 x.tok, .int .i64 x.nod, .string x.top, .int .i64 x.prio, .string x.wkr, .int .i64 x.epo, .int .i64 x.exp, .int .i64 x.aft, .int .i64 x.ret, .bool x.bro] 39
  have hlt : b < w.heap.size := by
    rcases Nat.lt_or_ge b w.heap.size with h | h
    · exact h
    · simp [World.cell?, Array.getElem?_eq_none h] at hb
  have hb2 := (hbl.cell (p := ⟨b, 0, none⟩) hlt).trans hb
  show Calls Try.prog 14 #[x.val, .pointer (some ⟨b, 0, none⟩)] w _
  obtain ⟨R, hR⟩ : ∃ R, ofI x now = R := ⟨_, rfl⟩
  rw [hR]
  unfold ofI at hR
  unfold T.val at *
  have HB := Lib.hid hbl
  obtain ⟨⟨k0, k1, k2, k3, k4, k5, k6, k7, k8, k9, k10, k11⟩, _⟩ := Ls.dz_facts hc
  clear hbl hc hb
  obtain ⟨id, ins, tok, nod, top, prio, wkr, epo, exp, aft, ret, bro⟩ := x
  dsimp only at *
  by_cases h : ins = now
  · subst h
    obtain rfl : R = true := by rw [← hR]; simp
    clear hR
    go_enter Try.func14, Try.ntmps14
    go_wp2
    go_ret
    exact ⟨by simp, HB.out⟩
  · obtain rfl : R = false := by rw [← hR]; simp [h]
    have h' : (ins != now) = true := by simpa using h
    clear hR
    go_enter Try.func14, Try.ntmps14
    go_wp2
    go_ret
    exact ⟨by simp, HB.out⟩
/-- slices.IndexFunc with it. -/
theorem ix_any (b g : Nat) (now : Int) (zs : List T) (n c : Nat) (w : World) (hz : zs.length = n) (hn : n ≤ 1000000) (hb : w.cell? ⟨b, 0, none⟩ = some (.int .i64 now)) (hg : g < w.heap.size) (hr : RT w g zs) :
    Calls Try.prog 26 #[.slice (some ⟨g, 0, none⟩) n c, .func (.func 14) #[] #[.pointer (some ⟨b, 0, none⟩)]] w fun e w' =>
      e = .returned (.int .i64 (Lib.idxBy (fun _ y => !ofI y now) zs default)) ∧ Below w.heap.size w w' := by
  have hlt : b < w.heap.size := by
    rcases Nat.lt_or_ge b w.heap.size with h | h
    · exact h
    · simp [World.cell?, Array.getElem?_eq_none h] at hb
  have h := AnyQ.slices_IndexFunc sgIx 12 Try.isAgg39 Try.sizeOf39 T.cells (fun _ => rfl) (fun y => !ofI y now) 14 #[.pointer (some ⟨b, 0, none⟩)] (enters_of Try.func14 (by kernel_rfl) rfl) g 0 n c zs w
    (fun W x hW => (notof_any b now x W ((hW.cell (p := ⟨b, 0, none⟩) hlt).trans hb)).mono fun e w' ⟨he, hb'⟩ => ⟨he, hW.trans (hb'.mono hW.size)⟩) (by omega) (by omega) hg (fun j hj i v hv => by rw [Nat.zero_add]; exact (hr j hj i v hv).1)
  rw [← hz, List.take_length] at h
  rw [← hz]
  exact h
theorem ix_none (c : Nat) (fv : Value) (w : World) : Calls Try.prog 26 #[.slice none 0 c, fv] w fun e w' => e = .returned (.int .i64 (-1)) ∧ w = w' := by
  go_enter Try.func26, Try.ntmps26
  go_wp2
  refine wp_loop_rounds 1 ?_
  rw [rounds_succ]
  go_wp2
  go_ret
  exact ⟨rfl, rfl⟩
structure Kept (now : Int) (zs r : List T) (i j : Nat) : Prop where
  len : r.length = zs.length
  head : r.take i = (zs.take j).filter (ofI · now)
  il : i = ((zs.take j).filter (ofI · now)).length
  rest : r.drop j = zs.drop j
  lt : i < j
  jl : j ≤ zs.length
theorem Kept.at_ {now : Int} {zs r : List T} {i j : Nat} (h : Kept now zs r i j) (hj : j < zs.length) : r[j]! = zs[j]! := by
  have h1 : j < r.length := by rw [h.len]; exact hj
  have h2 := h.rest
  rw [List.drop_eq_getElem_cons h1, List.drop_eq_getElem_cons hj] at h2
  rw [getElem!_pos r j h1, getElem!_pos zs j hj]
  exact (List.cons.inj h2).1
theorem Kept.skip {now : Int} {zs r : List T} {i j : Nat} (h : Kept now zs r i j) (hj : j < zs.length) (hf : ofI zs[j]! now = false) : Kept now zs r i (j + 1) := by
  have e : (zs.take (j + 1)).filter (ofI · now) = (zs.take j).filter (ofI · now) := by
    rw [List.take_succ_eq_append_getElem hj, List.filter_append, ← getElem!_pos zs j hj]
    generalize zs[j]! = x at hf ⊢
    simp [hf]
  have h1 : j < r.length := by rw [h.len]; exact hj
  have h2 := h.rest
  rw [List.drop_eq_getElem_cons h1, List.drop_eq_getElem_cons hj] at h2
  exact ⟨h.len, by rw [e]; exact h.head, by rw [e]; exact h.il, (List.cons.inj h2).2, Nat.lt_succ_of_lt h.lt, hj⟩
theorem Kept.keep {now : Int} {zs r : List T} {i j : Nat} (h : Kept now zs r i j) (hj : j < zs.length) (hf : ofI zs[j]! now = true) : Kept now zs (r.set i zs[j]!) (i + 1) (j + 1) := by
  have e : (zs.take (j + 1)).filter (ofI · now) = (zs.take j).filter (ofI · now) ++ [zs[j]!] := by
    rw [List.take_succ_eq_append_getElem hj, List.filter_append, ← getElem!_pos zs j hj]
    generalize zs[j]! = x at hf ⊢
    simp [hf]
  have h1 : j < r.length := by rw [h.len]; exact hj
  have hi : i < r.length := Nat.lt_trans h.lt h1
  have h2 := h.rest
  rw [List.drop_eq_getElem_cons h1, List.drop_eq_getElem_cons hj] at h2
  refine ⟨by rw [List.length_set]; exact h.len, ?_, ?_, ?_, Nat.succ_lt_succ h.lt, hj⟩
  · rw [e, ← h.head, List.take_succ_eq_append_getElem (by rw [List.length_set]; exact hi), List.getElem_set_self, List.take_set_of_le (Nat.le_refl _)]
  · rw [e, List.length_append, ← h.il]
    rfl
  · rw [List.drop_set_of_lt (by have := h.lt; omega)]
    exact (List.cons.inj h2).2
theorem Kept.start {now : Int} {zs : List T} {k : Nat} (hk : k < zs.length) (ha : ∀ j, j < k → ofI zs[j]! now = true) (hf : ofI zs[k]! now = false) : Kept now zs zs k (k + 1) := by
  have e1 : (zs.take k).filter (ofI · now) = zs.take k := by
    rw [List.filter_eq_self]
    intro x hx
    obtain ⟨j, hj, rfl⟩ := List.mem_iff_getElem.1 hx
    rw [List.length_take] at hj
    have := ha j (by omega)
    rw [getElem!_pos zs j (by omega)] at this
    rw [List.getElem_take]
    exact this
  have e2 : (zs.take (k + 1)).filter (ofI · now) = zs.take k := by
    rw [List.take_succ_eq_append_getElem hk, List.filter_append, e1, ← getElem!_pos zs k hk]
    generalize zs[k]! = x at hf ⊢
    simp [hf]
  exact ⟨rfl, by rw [e2], by rw [e2, List.length_take]; omega, rfl, Nat.lt_succ_self _, hk⟩
set_option maxRecDepth 100000 in
set_option maxHeartbeats 3200000 in
theorem delf_any (b g : Nat) (now : Int) (zs : List T) (n c : Nat) (w : World) (hz : zs.length = n) (hn : n ≤ 1000000) (hnc : n ≤ c) (hb : w.cell? ⟨b, 0, none⟩ = some (.int .i64 now)) (hbg : b ≠ g) (hg : g < w.heap.size) (hr : RT w g zs) :
    Calls Try.prog 12 #[.slice (some ⟨g, 0, none⟩) n c, .func (.func 14) #[] #[.pointer (some ⟨b, 0, none⟩)]] w fun e w' =>
      e = .returned (.slice (some ⟨g, 0, none⟩) (zs.filter (ofI · now)).length c) ∧ RT w' g (zs.filter (ofI · now)) ∧ Kp (· = g) w w' := by
  subst hz
  have eg : ∀ args w, (callFunc 14 args).run Try.prog w = .ok (.enter 14 args) w := enters_of Try.func14 (by kernel_rfl) rfl
  have HIX := Lib.hid (ix_any b g now zs zs.length c w rfl hn hb hg hr)
  have HB := Lib.hid hb
  have HR := Lib.hid hr
  have hlt : b < w.heap.size := by
    rcases Nat.lt_or_ge b w.heap.size with h | h
    · exact h
    · simp [World.cell?, Array.getElem?_eq_none h] at hb
  clear hb hr
  rcases idx_spec (fun (_ y : T) => !ofI y now) default zs 0 with ⟨e1, hall⟩ | ⟨k0, hk0, e1, ht, hall⟩
  · have e2 : Lib.idxBy (fun (_ y : T) => !ofI y now) zs default = -1 := e1
    rw [e2] at HIX
    have hf : zs.filter (ofI · now) = zs := by
      rw [List.filter_eq_self]
      intro x hx
      obtain ⟨j, hj, rfl⟩ := List.mem_iff_getElem.1 hx
      have := hall j hj
      rw [getElem!_pos zs j hj] at this
      simpa using this
    rw [hf]
    clear hall e1 e2 hf
    go_enter Try.func12, Try.ntmps12
    go_wp2_with fail
    refine HIX.out.mono ?_
    rintro e w1 ⟨rfl, hb1⟩
    go_wp2
    go_ret
    exact ⟨rfl, HR.out.below hb1 hg, Kp.of_below _ hb1 (Nat.le_refl _)⟩
  · have e2 : Lib.idxBy (fun (_ y : T) => !ofI y now) zs default = (k0 : Int) := by unfold Lib.idxBy; rw [e1]; simp
    rw [e2] at HIX
    have HK0 := Lib.hid (Kept.start (now := now) hk0 (fun j hj => by simpa using hall j hj) (by simpa using ht))
    have hne1 : ((k0 : Int) == -1) = false := beq_eq_false_iff_ne.2 (by omega)
    clear hall e1 e2 ht
    go_enter Try.func12, Try.ntmps12
    go_wp2_with fail
    refine HIX.out.mono ?_
    rintro e w1 ⟨rfl, hb1⟩
    have HR1 := Lib.hid (HR.out.below hb1 hg)
    have HK1 := Lib.hid (Kp.of_below (· = g) hb1 (Nat.le_refl _))
    clear hb1
    go_wp2_with fail
    go_loopw [5, 6] (fun s5 s6 wr => ∃ (i j : Nat) (r : List T), s5 = .int .i64 i ∧ s6 = .int .i64 j ∧ Kept now zs r i j ∧ RT wr g r ∧ Kp (· = g) w wr) (fun _ s6 _ => zs.length - (intOf s6).toNat)
    case atStart => exact ⟨k0, k0 + 1, zs, rfl, by go_num, HK0.out, HR1.out, HK1.out⟩
    case round =>
      obtain ⟨i, j, r, rfl, rfl, hkept, hrt, hkp⟩ := hrel
      have HKE := Lib.hid hkept
      have HRT := Lib.hid hrt
      have HKP := Lib.hid hkp
      have hij := hkept.lt
      have hjl := hkept.jl
      have hlen := hkept.len
      have hi0 : (0 : Int) ≤ (i : Int) := by omega
      have hj0 : (0 : Int) ≤ (j : Int) := by omega
      clear hkept hrt hkp
      by_cases hlj : j < zs.length
      · have hI : (j : Int) < (zs.length : Int) := by omega
        have hI2 : (i : Int) < (zs.length : Int) := by omega
        obtain ⟨⟨t0, t1, t2, t3, t4, t5, t6, t7, t8, t9, t10, t11⟩, _⟩ := rt_at HRT.out (j := j) (by omega)
        rw [HKE.out.at_ hlj] at t0 t1 t2 t3 t4 t5 t6 t7 t8 t9 t10 t11
        have HS : Hid (ofI zs[j]! now = true → Kept now zs (r.set i zs[j]!) (i + 1) (j + 1)) := Lib.hid (HKE.out.keep hlj)
        have HSk : Hid (ofI zs[j]! now = false → Kept now zs r i (j + 1)) := Lib.hid (HKE.out.skip hlj)
        generalize zs[j]! = x at *
        have hba : Below wr.heap.size wr (wr.alloc (.cells x.cells.toArray 39)) := (Below.refl _ _).alloc (Nat.le_refl _) _
        have hta : Cel (wr.alloc (.cells x.cells.toArray 39)) wr.heap.size x.cells := Cel.lit wr x.cells.toArray 39
        have hsz := HKP.out.size
        have HRa := Lib.hid (HRT.out.below hba (by omega))
        have HKa := Lib.hid (HKP.out.trans (Kp.of_below _ hba (Nat.le_refl _)))
        have HCa := Lib.hid (notof_any b now x (wr.alloc (.cells x.cells.toArray 39)) ((HKa.out.cell (a := ⟨b, 0, none⟩) hlt hbg).trans HB.out))
        obtain ⟨R, hR⟩ : ∃ R, ofI x now = R := ⟨_, rfl⟩
        rw [hR] at HS HSk HCa
        unfold T.val at HCa
        unfold T.cells at *
        have hgw : g < (wr.alloc (.cells #[.int .i64 x.id, .int .i64 x.ins, .int .i64 x.tok, .int .i64 x.nod, .string x.top, .int .i64 x.prio, .string x.wkr, .int .i64 x.epo, .int .i64 x.exp, .int .i64 x.aft, .int .i64 x.ret, .bool x.bro] 39)).heap.size := by have := hba.size; simp; omega
        obtain ⟨⟨k0', k1, k2, k3, k4, k5, k6, k7, k8, k9, k10, k11⟩, _⟩ := Ls.dz_facts hta
        have HTA := Lib.hid hta
        have hir : i < r.length := by omega
        clear hba hta
        cases R with
        | true =>
          go_wp2_with fail
          refine HCa.out.mono ?_
          rintro e w2 ⟨rfl, hb2⟩
          have htb := HTA.out.below hb2 (Nat.le_refl _)
          have HR2 := Lib.hid (HRa.out.below hb2 hgw)
          have HK2 := Lib.hid (HKa.out.trans (Kp.of_below _ hb2 (Nat.le_refl _)))
          clear t0 t1 t2 t3 t4 t5 t6 t7 t8 t9 t10 t11 k0' k1 k2 k3 k4 k5 k6 k7 k8 k9 k10 k11 hb2
          obtain ⟨⟨k0', k1, k2, k3, k4, k5, k6, k7, k8, k9, k10, k11⟩, _⟩ := Ls.dz_facts htb
          obtain ⟨⟨t0, t1, t2, t3, t4, t5, t6, t7, t8, t9, t10, t11⟩, f0, f1, f2, f3, f4, f5, f6, f7, f8, f9, f10, f11⟩ := rt_at HR2.out hir
          clear htb
          go_wp2
          have HRf := Lib.hid (HR2.out.set hir x)
          have HGf := Lib.hid (setCells_grown g x.cells (i * 12) (World.grownBy.refl w2 (some g)))
          go_roundw
          case rel => exact ⟨i + 1, j + 1, r.set i x, by go_num, by go_num, HS.out (by first | trivial | rfl | exact hR), HRf.out, HK2.out.trans (Kp.of_grown HGf.out (fun _ _ e => (Option.some.inj e).symm))⟩
          case measure =>
            simp only [intOf]
            omega
        | false =>
          go_wp2_with (go_at_fn 14; refine HCa.out.mono ?_; rintro e w2 ⟨rfl, hb2⟩)
          go_roundw
          case rel => exact ⟨i, j + 1, r, rfl, by go_num, HSk.out (by first | trivial | rfl | exact hR), HRa.out.below hb2 hgw, HKa.out.trans (Kp.of_below _ hb2 (Nat.le_refl _))⟩
          case measure =>
            simp only [intOf]
            omega
      · obtain rfl : j = zs.length := by omega
        have hI : ¬ (zs.length : Int) < (zs.length : Int) := by omega
        have hi := HKE.out.il
        have hh := HKE.out.head
        rw [List.take_length] at hi hh
        have HI := Lib.hid hi
        have HH := Lib.hid hh
        clear hi hh
        obtain ⟨vs, hcl⟩ : ∃ vs, ∀ ty, (Builtin.clear_ #[40] ty #[.slice (some ⟨g, i * 12, none⟩) (zs.length - i) (c - i)]).run Try.prog wr = .ok (.tuple #[]) (wr.setCells g (i * 12) vs) := by
          obtain ⟨vs, h⟩ := run_clear_tasks wr g (i * 12) (zs.length - i) (c - i) 0 (by omega) (fun t ht => HRT.out.isS (by omega))
          exact ⟨vs, fun ty => h⟩
        go_wp2
        go_ret
        refine ⟨by rw [HI.out]; rfl, ?_, HKP.out.trans (Kp.of_grown (setCells_grown g vs (i * 12) (World.grownBy.refl wr (some g))) (fun _ _ e => (Option.some.inj e).symm))⟩
        have h2 := HRT.out.take i
        rw [HH.out] at h2
        exact h2.past (by rw [← HI.out]; omega) vs
end St
end Go.Proofs.Ytdmbbbljamjhkaa
