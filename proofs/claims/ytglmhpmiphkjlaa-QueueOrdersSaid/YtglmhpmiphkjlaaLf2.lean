/- QueueOrders: the walk. -/
import Derived.Test.YtglmhpmiphkjlaaLe2
import Derived.Test.YtglmhpmiphkjlaaLx
import Derived.Test.YtglmhpmiphkjlaaRegion
import Derived.BigQuiet
namespace Go.Proofs.Ytglmhpmiphkjlaa
open Go.RowKit

namespace Qu
open Ls (T)
/-- Is an ID among the first k? -/
def sn (r : List T) (d : Int) : Nat → Bool
  | 0 => false
  | k + 1 => sn r d k || decide ((r[k]!).id = d)
theorem sn_not {r : List T} {d : Int} : ∀ {n : Nat}, sn r d n = false → ∀ k, k < n → (r[k]!).id ≠ d
  | 0, _, k, hk => by omega
  | n + 1, h, k, hk => by
    unfold sn at h
    rw [Bool.or_eq_false_iff, decide_eq_false_iff_not] at h
    by_cases e : k = n
    · subst e; exact h.2
    · exact sn_not h.1 k (by omega)
theorem below_drewN_le {B n : Nat} {w : World} (h : B ≤ w.heap.size) : Below B w (w.drewN n) := below_drewN ((Below.refl _ w).mono h) n
theorem wanted_undef {ops : Array Oper} {o : Oper} {a : Act} {g : Nat} {b : Bool} {d : Tmp} (h : o.guard = some (g, b)) (hd : Rg.dstOf ops g = some d) (hv : a.eval (.tmp d) = undef) : Region.wanted o (yielded ops a.tmps) = false := by
  have h1 : a.tmps[d]? = none ∨ a.tmps[d]? = some undef := by
    have hv' : a.tmps.getD d undef = undef := hv
    rw [Array.getD_eq_getD_getElem?] at hv'
    cases hx : a.tmps[d]? with
    | none => exact .inl rfl
    | some x => rw [hx] at hv'; simp at hv'; exact .inr (by rw [hv'])
  have h2 : yielded ops a.tmps g = none := by
    unfold yielded
    unfold Rg.dstOf at hd
    rcases h1 with h1 | h1 <;> simp [hd, h1, undef]
  cases b <;> simp [Region.wanted, h, h2]
end Qu
open Qu
open Ls (T)
set_option maxRecDepth 100000 in
set_option maxHeartbeats 6400000 in
theorem queueOrders_walk (A1 : Option Addr) (n1 c1 : Nat) (l1 : List Int) (A2 : Option Addr) (n2 c2 : Nat) (l2 : List Int) (now most which : Int) (w : World) (hin1 : InRow w 1 A1 n1 c1 (l1.map (Value.int .i64))) (hbd1 : ∀ y ∈ l1, -9223372036854775808 ≤ y ∧ y ≤ 9223372036854775807)
    (hin2 : InRow w 1 A2 n2 c2 (l2.map (Value.int .i64))) (hbd2 : ∀ y ∈ l2, -9223372036854775808 ≤ y ∧ y ≤ 9223372036854775807) (_ : -9223372036854775808 ≤ now) (_ : now ≤ 9223372036854775807) (_ : -9223372036854775808 ≤ most) (_ : most ≤ 9223372036854775807) (_ : -9223372036854775808 ≤ which) (_ : which ≤ 9223372036854775807) :
    Calls Try.prog 4 #[.slice A1 n1 c1, .slice A2 n2 c2, .int .i64 now, .int .i64 most, .int .i64 which] w fun e w' => e = .returned (.bool true) ∧ Below w.heap.size w w' := by
  have r1 : KRow nκ w w.heap.size A1 n1 l1 := nrow hin1.row
  have r2 : KRow nκ w w.heap.size A2 n2 l2 := nrow hin2.row
  have hmost1 := hin1.most
  have hcap1 := hin1.cap
  have hmost2 := hin2.most
  have hcap2 := hin2.cap
  unfold maxLen at hmost1 hmost2
  have HF := Lib.hid (first_any w)
  have HR1 := Lib.hid r1
  have HR2 := Lib.hid r2
  have HBD1 := Lib.hid hbd1
  have HBD2 := Lib.hid hbd2
  have hnb1 : (n1 : Int) ≤ 9223372036854775807 := by omega
  have hnb2 : (n2 : Int) ≤ 9223372036854775807 := by omega
  have HL1 := Lib.hid (r1.len (by decide))
  have HL2 := Lib.hid (r2.len (by decide))
  have N1 := Lib.hid (fun w => num_fn now 40 w (by decide) (by decide))
  have e1 : 0 ≤ now % 40 ∧ now % 40 < 40 := ⟨Int.emod_nonneg now (by decide), Int.emod_lt_of_pos now (by decide)⟩
  have N2 := Lib.hid (fun w => num_fn most 12 w (by decide) (by decide))
  have e2 : 0 ≤ most % 12 ∧ most % 12 < 12 := ⟨Int.emod_nonneg most (by decide), Int.emod_lt_of_pos most (by decide)⟩
  generalize now % 40 = t at *
  generalize most % 12 = mo at *
  clear hin1 hin2 hbd1 hbd2 r1 r2 hmost1 hcap1 hmost2 hcap2
  by_cases hok : n1 ≤ 30 ∧ n1 ≤ n2
  · obtain ⟨h20, h12⟩ := hok
    have hI : ¬ (30 : Int) < (n1 : Int) := by omega
    have hI2 : ¬ (n2 : Int) < (n1 : Int) := by omega
    go_enter Try.func4, Try.ntmps4
    go_wp2_with fail
    refine HF.out.mono ?_
    rintro e w1 ⟨rfl, hb1⟩
    have HB1 := Lib.hid hb1
    have hs1 := hb1.size
    clear hb1 HF
    go_wp2_with fail
    refine (N1.out _).mono ?_
    rintro e wy ⟨rfl, rfl⟩
    go_wp2_with fail
    refine (N2.out _).mono ?_
    rintro e wy ⟨rfl, rfl⟩
    clear N1 N2
    have HQ := Lib.hid (QAt.start hs1 26)
    have HBQ := Lib.hid (HB1.out.trans (((Below.refl wy.heap.size wy).alloc (Nat.le_refl _) (.cells #[.map none] 26)).mono hs1))
    go_wp2_with fail
    go_loopw [13] (fun s11 wr => ∃ (j : Nat) (L : List T), s11 = .int .i64 j ∧ j ≤ n1 ∧ L.length ≤ j ∧ AllOk L ∧ QAt w.heap.size wr wy.heap.size L ∧ Below w.heap.size w wr) (fun s11 _ => n1 - (intOf s11).toNat)
    case atStart => exact ⟨0, [], rfl, Nat.zero_le _, Nat.le_refl _, fun _ h => (by cases h), HQ.out, HBQ.out⟩
    case round =>
      obtain ⟨j, L, rfl, hj, hLj, hall, hq, hb⟩ := hrel
      have HALL := Lib.hid hall
      have HQR := Lib.hid hq
      have HBR := Lib.hid hb
      have hj0 : (0 : Int) ≤ (j : Int) := by omega
      have hLl : L.length ≤ 1000 := by omega
      have hsr := hb.size
      clear hall hq hb HQ HBQ
      by_cases hlt : j < n1
      · have hlI : (j : Int) < (n1 : Int) := by omega
        have hlI2 : (j : Int) < (n2 : Int) := by omega
        have hd : Below wr.heap.size wr wr.drew := (Below.refl _ _).drew
        have HBD := Lib.hid (HBR.out.trans (hd.mono hsr))
        have HQD := Lib.hid (HQR.out.below hd)
        obtain ⟨bz, oz, rfl, hbz, _⟩ := (HR1.out.below HBD.out (Nat.le_refl _)).2 (by omega)
        obtain ⟨by_, oy, rfl, hby, _⟩ := (HR2.out.below HBD.out (Nat.le_refl _)).2 (by omega)
        have c1 := n_at (HR1.out.below HBD.out (Nat.le_refl _)) hlt
        have c2 := n_at (HR2.out.below HBD.out (Nat.le_refl _)) (j := j) (by omega)
        have y1 := HBD1.out l1[j]! (by rw [getElem!_pos l1 j (by rw [HL1.out]; exact hlt)]; exact List.getElem_mem _)
        have y2 := HBD2.out l2[j]! (by rw [getElem!_pos l2 j (by rw [HL2.out]; omega)]; exact List.getElem_mem _)
        generalize l1[j]! = v1 at *
        generalize l2[j]! = v2 at *
        have HM := Lib.hid (fun w => made_any v1 v2 w y1.1 y1.2 y2.1 y2.2)
        have HOK := Lib.hid (mkx_ok v1 v2)
        generalize mkx v1 v2 = x at *
        have HI := Lib.hid (HALL.out.ins HQR.out.asc HOK.out)
        have hil := (len_ins (x := x) L).2
        unfold T.val at HM
        clear y1 y2 hd
        go_wp2_with fail
        go_region_held3 (fun w' => w'.cell? ⟨bz, oz + j, none⟩ = some (.int .i64 v1) ∧ w'.cell? ⟨by_, oy + j, none⟩ = some (.int .i64 v2)) (first | exact ⟨c1z, c2z⟩ | exact ⟨c1y, c2y⟩ | exact ⟨c1x, c2x⟩ | exact ⟨c1, c2⟩) (first
          | (go_at_call 9; refine (HM.out _).mono ?_; rintro e w2 ⟨rfl, hb2⟩; have HB2 := Lib.hid (HBD.out.trans (hb2.mono hsr)); have HP := Lib.hid (put_made w2 HOK.out (HQD.out.below hb2) HB2.out.size hLl); unfold T.cells at HP; have c1x := (hb2.cell (p := ⟨bz, oz + j, none⟩) (Nat.lt_of_lt_of_le hbz hsr)).trans c1; have c2x := (hb2.cell (p := ⟨by_, oy + j, none⟩) (Nat.lt_of_lt_of_le hby hsr)).trans c2; have hba : Below w2.heap.size w2 (w2.alloc (.cells x.cells.toArray 38)) := (Below.refl _ _).alloc (Nat.le_refl _) _; unfold T.cells at hba; have c1y := (hba.cell (p := ⟨bz, oz + j, none⟩) (by have := HB2.out.size; show bz < _; omega)).trans c1x; have c2y := (hba.cell (p := ⟨by_, oy + j, none⟩) (by have := HB2.out.size; show by_ < _; omega)).trans c2x; clear hba)
          | (go_at_call 8; refine HP.out.mono ?_; rintro e w3 ⟨rfl, hq3, hb3⟩; have c1z := (hb3.cell (p := ⟨bz, oz + j, none⟩) hbz).trans c1x; have c2z := (hb3.cell (p := ⟨by_, oy + j, none⟩) hby).trans c2x))
        go_wp2
        go_roundw
        case rel => exact ⟨j + 1, _, by go_num, by omega, by omega, HI.out, hq3, HB2.out.trans hb3⟩
        case measure =>
          simp only [intOf]
          omega
      · obtain rfl : j = n1 := by omega
        have hlI : ¬ (j : Int) < (j : Int) := by omega
        obtain ⟨hqb, m, hqc, _⟩ := HQR.out
        clear hqb
        go_wp2_with fail
        refine (topics_any which wr).mono ?_
        rintro e w2 ⟨⟨A, k, c, rfl, hown⟩, hb2⟩
        have hrow := hown.row
        have hts := tf_size which
        have htl : k ≤ 100000 := by
          rw [← hrow.len (by decide)]
          have := (tf_ok which).2
          omega
        generalize tf which 3 = ts at *
        have HB2 := Lib.hid (HBR.out.trans (hb2.mono hsr))
        have HQ2 := Lib.hid (hqc.below hb2)
        have HROW := Lib.hid hrow
        have HTS := Lib.hid hts
        have hLc : L.length ≤ 100000 := by omega
        clear hown hrow hts hb2 hqc HQR HBR
        have HP1 := Lib.hid (pick_any wy.heap.size m L t mo A k c ts w2 HQ2.out HROW.out HTS.out htl hLc)
        go_wp2_with fail
        refine HP1.out.mono ?_
        rintro e w3 ⟨⟨A3, k3, c3, r3, rfl, hp3, hr3, _⟩, hb3⟩
        have HP := Lib.hid (hp3.picked HQ2.out.asc (by omega))
        have hk3 := hr3.len (by decide)
        have hkm : (k3 : Int) ≤ mo := by have := HP.out.few; omega
        have hkm2 : ¬ mo < (k3 : Int) := by omega
        have HB3 := Lib.hid (HB2.out.trans (hb3.mono HB2.out.size))
        have HQ3 := Lib.hid (HQ2.out.below hb3)
        have HROW3 := Lib.hid ((HROW.out.below hb3 (Nat.le_refl _)).mono hb3.size)
        have HR3 := Lib.hid hr3
        have HK3 := Lib.hid hk3
        clear hp3 hr3 hb3 HP1 HQ2 HB2 HROW hk3
        go_wp2_with fail
        go_loopw [16] (fun s16 wr => ∃ j : Nat, s16 = .int .i64 j ∧ j ≤ k3 ∧ Below w3.heap.size w3 wr) (fun s16 _ => k3 - (intOf s16).toNat)
        case atStart => exact ⟨0, rfl, Nat.zero_le _, Below.refl _ _⟩
        case round =>
          obtain ⟨j, rfl, hj, hbx⟩ := hrel
          have HBX := Lib.hid hbx
          clear hbx
          have hj0 : (0 : Int) ≤ (j : Int) := by omega
          by_cases hlt : j < k3
          · have hjI : (j : Int) < (k3 : Int) := by omega
            have hZ := (HR3.out.below HBX.out (Nat.le_refl _)).mono HBX.out.size
            obtain ⟨ba, oa, rfl, hbaw, _⟩ := hZ.2 (by omega)
            obtain ⟨t0, t1, t2, t3, t4, t5, t6, t7, t8, t9, t10, t11⟩ := t_at hZ hlt
            obtain ⟨hf1, hf2⟩ := HP.out.free j (by rw [HK3.out]; exact hlt)
            have hord := HP.out.order j
            have hprev : 0 < j → wr.cell? ⟨ba, oa + (j - 1) * 12, none⟩ = some (.int .i64 (r3[j - 1]!).id) ∧ wr.cell? ⟨ba, oa + (j - 1) * 12 + 5, none⟩ = some (.int .i64 (r3[j - 1]!).prio) := fun h => ⟨(t_at hZ (show j - 1 < k3 by omega)).1, (t_at hZ (show j - 1 < k3 by omega)).2.2.2.2.2.1⟩
            rw [HK3.out] at hord
            generalize r3[j]! = x at *
            have FR : Hid (∀ W, Calls Try.prog 24 #[.agg #[.int .i64 x.id, .int .i64 x.ins, .int .i64 x.tok, .int .i64 x.nod, .string x.top, .int .i64 x.prio, .string x.wkr, .int .i64 x.epo, .int .i64 x.exp, .int .i64 x.aft, .int .i64 x.ret, .bool x.bro], .int .i64 t] W fun e w' => e = .returned (.bool true) ∧ Below W.heap.size W w') := fun W => by
              have h := dfree_any x t W
              rw [hf1] at h
              exact h
            have HT : Hid (∀ W, Below w3.heap.size w3 W → Calls Try.prog 25 #[.slice A k c, .string x.top] W fun e w' => e = .returned (.bool true) ∧ W = w') := fun W hW => by
              have h := hastext_any A k c ts w3.heap.size x.top W (HROW3.out.below hW (Nat.le_refl _)) htl
              rw [hf2] at h
              exact h
            clear hZ hf1 hf2
            go_wp2_with fail
            by_cases hi1 : j = 0
            · have hz0 : ¬ (0 : Int) < (j : Int) := by omega
              clear hord hprev hi1
              refine Rg.region_each (by kernel_rfl) (fun i => ([
                  (fun v _ => v = .slice (some ⟨ba, oa, none⟩) k3 c3),
                  (fun v _ => v = .int .i64 (j : Int)),
                  (fun v _ => v = .pointer (some ⟨ba, oa + j * 12, none⟩)),
                  (fun v _ => v = .agg #[.int .i64 x.id, .int .i64 x.ins, .int .i64 x.tok, .int .i64 x.nod, .string x.top, .int .i64 x.prio, .string x.wkr, .int .i64 x.epo, .int .i64 x.exp, .int .i64 x.aft, .int .i64 x.ret, .bool x.bro]),
                  (fun v _ => v = .int .i64 t),
                  (fun v _ => v = .bool true),
                  (fun v _ => v = .bool false),
                  (fun v _ => v = .bool false),
                  (fun v _ => v = .slice A k c),
                  (fun v _ => v = .slice (some ⟨ba, oa, none⟩) k3 c3),
                  (fun v _ => v = .int .i64 (j : Int)),
                  (fun v _ => v = .pointer (some ⟨ba, oa + j * 12, none⟩)),
                  (fun v _ => v = .pointer (some ⟨ba, oa + j * 12 + 4, none⟩)),
                  (fun v _ => v = .string x.top),
                  (fun v _ => v = .bool true),
                  (fun v _ => v = .bool false),
                  (fun v _ => v = .bool false),
                  (fun v _ => v = .bool false),
                  (fun v _ => v = .int .i64 (j : Int)),
                  (fun v _ => v = .bool false),
                  (fun v _ => v = .bool false),
                  (fun v _ => v = undef),
                  (fun v _ => v = undef),
                  (fun v _ => v = undef),
                  (fun v _ => v = undef),
                  (fun v _ => v = undef),
                  (fun v _ => v = undef),
                  (fun v _ => v = undef),
                  (fun v _ => v = undef),
                  (fun v _ => v = undef),
                  (fun v _ => v = undef),
                  (fun v _ => v = undef),
                  (fun v _ => v = undef),
                  (fun v _ => v = undef),
                  (fun v _ => v = undef),
                  (fun v _ => v = undef),
                  (fun v _ => v = undef),
                  (fun v _ => v = undef),
                  (fun v _ => v = undef),
                  (fun v _ => v = undef),
                  (fun v _ => v = undef),
                  (fun v _ => v = undef),
                  (fun v _ => v = undef),
                  (fun v _ => v = undef),
                  (fun v _ => v = undef),
                  (fun v _ => v = undef),
                  (fun v _ => v = undef),
                  (fun v _ => v = undef),
                  (fun v _ => v = undef),
                  (fun v _ => v = undef),
                  (fun v _ => v = undef),
                  (fun v _ => v = undef),
                  (fun v _ => v = undef),
                  (fun v _ => v = undef),
                  (fun v _ => v = undef),
                  (fun v _ => v = undef),
                  (fun v _ => v = undef),
                  (fun v _ => v = undef),
                  (fun v _ => v = undef),
                  (fun v _ => v = undef),
                  (fun v _ => v = undef),
                  (fun v _ => v = .bool false),
                  (fun v _ => v = .bool false)
                  ] : List (Value → World → Prop)).getD i (fun _ _ => True)) (by kernel_rfl) ?mono (Rg.by_each _ ⟨?s0, ?s1, ?s2, ?s3, ?s4, ?s5, ?s6, ?s7, ?s8, ?s9, ?s10, ?s11, ?s12, ?s13, ?s14, ?s15, ?s16, ?s17, ?s18, ?s19, ?s20, ?s21, ?s22, ?s23, ?s24, ?s25, ?s26, ?s27, ?s28, ?s29, ?s30, ?s31, ?s32, ?s33, ?s34, ?s35, ?s36, ?s37, ?s38, ?s39, ?s40, ?s41, ?s42, ?s43, ?s44, ?s45, ?s46, ?s47, ?s48, ?s49, ?s50, ?s51, ?s52, ?s53, ?s54, ?s55, ?s56, ?s57, ?s58, ?s59, ?s60, ?s61, ?s62, trivial⟩) ?fin
              case s0 =>
                intro a w' hp
                have e15 : a.eval (.tmp 15) = .slice (some ⟨ba, oa, none⟩) k3 c3 := hp.rest 15 (by rfl)
                exact Rg.step_run (v := a.eval (.tmp 15)) (w' := w') rfl (Rg.wanted_none rfl) (by simp) rfl e15 (Below.refl _ _)
              case s1 =>
                intro a w' hp
                have e16 : a.eval (.tmp 16) = .int .i64 (j : Int) := hp.rest 16 (by rfl)
                exact Rg.step_run (v := a.eval (.tmp 16)) (w' := w') rfl (Rg.wanted_none rfl) (by simp) rfl e16 (Below.refl _ _)
              case s2 =>
                intro a w' hp
                have e73 : a.eval (.tmp 73) = .slice (some ⟨ba, oa, none⟩) k3 c3 := hp.at_ 0 (by rfl)
                have e74 : a.eval (.tmp 74) = .int .i64 (j : Int) := hp.at_ 1 (by rfl)
                refine Rg.step_run (v := .pointer (some ⟨ba, oa + j * 12, none⟩)) (w' := w') rfl (Rg.wanted_none rfl) (by simp) ?_ rfl (Below.refl _ _)
                clear hp
                obtain ⟨ec, eg, ef⟩ := Rg.eval_at a
                generalize a.eval = ρ at *
                go_simp
              case s3 =>
                intro a w' hp
                have e75 : a.eval (.tmp 75) = .pointer (some ⟨ba, oa + j * 12, none⟩) := hp.at_ 2 (by rfl)
                have tq0 := (hp.grew.cell (p := ⟨ba, oa + j * 12, none⟩) hbaw).trans t0
                have tq1 := (hp.grew.cell (p := ⟨ba, oa + j * 12 + 1, none⟩) hbaw).trans t1
                have tq2 := (hp.grew.cell (p := ⟨ba, oa + j * 12 + 2, none⟩) hbaw).trans t2
                have tq3 := (hp.grew.cell (p := ⟨ba, oa + j * 12 + 3, none⟩) hbaw).trans t3
                have tq4 := (hp.grew.cell (p := ⟨ba, oa + j * 12 + 4, none⟩) hbaw).trans t4
                have tq5 := (hp.grew.cell (p := ⟨ba, oa + j * 12 + 5, none⟩) hbaw).trans t5
                have tq6 := (hp.grew.cell (p := ⟨ba, oa + j * 12 + 6, none⟩) hbaw).trans t6
                have tq7 := (hp.grew.cell (p := ⟨ba, oa + j * 12 + 7, none⟩) hbaw).trans t7
                have tq8 := (hp.grew.cell (p := ⟨ba, oa + j * 12 + 8, none⟩) hbaw).trans t8
                have tq9 := (hp.grew.cell (p := ⟨ba, oa + j * 12 + 9, none⟩) hbaw).trans t9
                have tq10 := (hp.grew.cell (p := ⟨ba, oa + j * 12 + 10, none⟩) hbaw).trans t10
                have tq11 := (hp.grew.cell (p := ⟨ba, oa + j * 12 + 11, none⟩) hbaw).trans t11
                refine Rg.step_run (v := .agg #[.int .i64 x.id, .int .i64 x.ins, .int .i64 x.tok, .int .i64 x.nod, .string x.top, .int .i64 x.prio, .string x.wkr, .int .i64 x.epo, .int .i64 x.exp, .int .i64 x.aft, .int .i64 x.ret, .bool x.bro]) (w' := w') rfl (Rg.wanted_none rfl) (by simp) ?_ rfl (Below.refl _ _)
                clear hp
                obtain ⟨ec, eg, ef⟩ := Rg.eval_at a
                generalize a.eval = ρ at *
                go_simp
              case s4 =>
                intro a w' hp
                have e2 : a.eval (.tmp 2) = .int .i64 t := hp.rest 2 (by rfl)
                exact Rg.step_run (v := a.eval (.tmp 2)) (w' := w') rfl (Rg.wanted_none rfl) (by simp) rfl e2 (Below.refl _ _)
              case s5 =>
                intro a w' hp
                have e76 : a.eval (.tmp 76) = .agg #[.int .i64 x.id, .int .i64 x.ins, .int .i64 x.tok, .int .i64 x.nod, .string x.top, .int .i64 x.prio, .string x.wkr, .int .i64 x.epo, .int .i64 x.exp, .int .i64 x.aft, .int .i64 x.ret, .bool x.bro] := hp.at_ 3 (by rfl)
                have e77 : a.eval (.tmp 77) = .int .i64 t := hp.at_ 4 (by rfl)
                refine Rg.step_call (f := 24) (args := #[.agg #[.int .i64 x.id, .int .i64 x.ins, .int .i64 x.tok, .int .i64 x.nod, .string x.top, .int .i64 x.prio, .string x.wkr, .int .i64 x.epo, .int .i64 x.exp, .int .i64 x.aft, .int .i64 x.ret, .bool x.bro], .int .i64 t]) rfl (Rg.wanted_none rfl) (by simp) (by clear hp; obtain ⟨ec, eg, ef⟩ := Rg.eval_at a; generalize a.eval = ρ at *; go_simp) ?_
                refine (FR.out w').mono ?_
                rintro e w2' ⟨rfl, hb2⟩
                exact ⟨_, rfl, rfl, hb2⟩
              case s6 =>
                intro a w' hp
                have e78 : a.eval (.tmp 78) = .bool true := hp.at_ 5 (by rfl)
                refine Rg.step_run (v := .bool false) (w' := w') rfl (Rg.wanted_none rfl) (by simp) ?_ rfl (Below.refl _ _)
                clear hp
                obtain ⟨ec, eg, ef⟩ := Rg.eval_at a
                generalize a.eval = ρ at *
                go_simp
              case s7 =>
                intro a w' hp
                have e79 : a.eval (.tmp 79) = .bool false := hp.at_ 6 (by rfl)
                exact Rg.step_run (v := a.eval (.tmp 79)) (w' := w') rfl (Rg.wanted_none rfl) (by simp) rfl e79 (Below.refl _ _)
              case s8 =>
                intro a w' hp
                have e14 : a.eval (.tmp 14) = .slice A k c := hp.rest 14 (by rfl)
                exact Rg.step_run (v := a.eval (.tmp 14)) (w' := w') rfl (Rg.wanted_some (g := 7) (b := false) (d := 80) rfl (by rfl) (hp.at_ 7 (by rfl))) (by simp) rfl e14 (Below.refl _ _)
              case s9 =>
                intro a w' hp
                have e15 : a.eval (.tmp 15) = .slice (some ⟨ba, oa, none⟩) k3 c3 := hp.rest 15 (by rfl)
                exact Rg.step_run (v := a.eval (.tmp 15)) (w' := w') rfl (Rg.wanted_some (g := 7) (b := false) (d := 80) rfl (by rfl) (hp.at_ 7 (by rfl))) (by simp) rfl e15 (Below.refl _ _)
              case s10 =>
                intro a w' hp
                have e16 : a.eval (.tmp 16) = .int .i64 (j : Int) := hp.rest 16 (by rfl)
                exact Rg.step_run (v := a.eval (.tmp 16)) (w' := w') rfl (Rg.wanted_some (g := 7) (b := false) (d := 80) rfl (by rfl) (hp.at_ 7 (by rfl))) (by simp) rfl e16 (Below.refl _ _)
              case s11 =>
                intro a w' hp
                have e82 : a.eval (.tmp 82) = .slice (some ⟨ba, oa, none⟩) k3 c3 := hp.at_ 9 (by rfl)
                have e83 : a.eval (.tmp 83) = .int .i64 (j : Int) := hp.at_ 10 (by rfl)
                refine Rg.step_run (v := .pointer (some ⟨ba, oa + j * 12, none⟩)) (w' := w') rfl (Rg.wanted_some (g := 7) (b := false) (d := 80) rfl (by rfl) (hp.at_ 7 (by rfl))) (by simp) ?_ rfl (Below.refl _ _)
                clear hp
                obtain ⟨ec, eg, ef⟩ := Rg.eval_at a
                generalize a.eval = ρ at *
                go_simp
              case s12 =>
                intro a w' hp
                have e84 : a.eval (.tmp 84) = .pointer (some ⟨ba, oa + j * 12, none⟩) := hp.at_ 11 (by rfl)
                refine Rg.step_run (v := .pointer (some ⟨ba, oa + j * 12 + 4, none⟩)) (w' := w') rfl (Rg.wanted_some (g := 7) (b := false) (d := 80) rfl (by rfl) (hp.at_ 7 (by rfl))) (by simp) ?_ rfl (Below.refl _ _)
                clear hp
                obtain ⟨ec, eg, ef⟩ := Rg.eval_at a
                generalize a.eval = ρ at *
                go_simp
              case s13 =>
                intro a w' hp
                have e85 : a.eval (.tmp 85) = .pointer (some ⟨ba, oa + j * 12 + 4, none⟩) := hp.at_ 12 (by rfl)
                have tq0 := (hp.grew.cell (p := ⟨ba, oa + j * 12 + 4, none⟩) hbaw).trans t4
                refine Rg.step_run (v := .string x.top) (w' := w') rfl (Rg.wanted_some (g := 7) (b := false) (d := 80) rfl (by rfl) (hp.at_ 7 (by rfl))) (by simp) ?_ rfl (Below.refl _ _)
                clear hp
                obtain ⟨ec, eg, ef⟩ := Rg.eval_at a
                generalize a.eval = ρ at *
                go_simp
              case s14 =>
                intro a w' hp
                have e81 : a.eval (.tmp 81) = .slice A k c := hp.at_ 8 (by rfl)
                have e86 : a.eval (.tmp 86) = .string x.top := hp.at_ 13 (by rfl)
                have hg : Below w3.heap.size w3 w' := HBX.out.trans (((Below.refl wr.heap.size wr).drew.trans hp.grew).mono HBX.out.size)
                refine Rg.step_call (f := 25) (args := #[.slice A k c, .string x.top]) rfl (Rg.wanted_some (g := 7) (b := false) (d := 80) rfl (by rfl) (hp.at_ 7 (by rfl))) (by simp) (by clear hp; obtain ⟨ec, eg, ef⟩ := Rg.eval_at a; generalize a.eval = ρ at *; go_simp) ?_
                refine (HT.out w' hg).mono ?_
                rintro e w2' ⟨rfl, rfl⟩
                exact ⟨_, rfl, rfl, Below.refl _ _⟩
              case s15 =>
                intro a w' hp
                have e87 : a.eval (.tmp 87) = .bool true := hp.at_ 14 (by rfl)
                refine Rg.step_run (v := .bool false) (w' := w') rfl (Rg.wanted_some (g := 7) (b := false) (d := 80) rfl (by rfl) (hp.at_ 7 (by rfl))) (by simp) ?_ rfl (Below.refl _ _)
                clear hp
                obtain ⟨ec, eg, ef⟩ := Rg.eval_at a
                generalize a.eval = ρ at *
                go_simp
              case s16 =>
                intro a w' hp
                have e80 : a.eval (.tmp 80) = .bool false := hp.at_ 7 (by rfl)
                have e88 : a.eval (.tmp 88) = .bool false := hp.at_ 15 (by rfl)
                refine Rg.step_run (v := .bool false) (w' := w') rfl (Rg.wanted_none rfl) (by simp) ?_ rfl (Below.refl _ _)
                clear hp
                obtain ⟨ec, eg, ef⟩ := Rg.eval_at a
                generalize a.eval = ρ at *
                go_simp
              case s17 =>
                intro a w' hp
                have e89 : a.eval (.tmp 89) = .bool false := hp.at_ 16 (by rfl)
                exact Rg.step_run (v := a.eval (.tmp 89)) (w' := w') rfl (Rg.wanted_none rfl) (by simp) rfl e89 (Below.refl _ _)
              case s18 =>
                intro a w' hp
                have e16 : a.eval (.tmp 16) = .int .i64 (j : Int) := hp.rest 16 (by rfl)
                exact Rg.step_run (v := a.eval (.tmp 16)) (w' := w') rfl (Rg.wanted_some (g := 17) (b := false) (d := 90) rfl (by rfl) (hp.at_ 17 (by rfl))) (by simp) rfl e16 (Below.refl _ _)
              case s19 =>
                intro a w' hp
                have e91 : a.eval (.tmp 91) = .int .i64 (j : Int) := hp.at_ 18 (by rfl)
                refine Rg.step_run (v := .bool false) (w' := w') rfl (Rg.wanted_some (g := 17) (b := false) (d := 90) rfl (by rfl) (hp.at_ 17 (by rfl))) (by simp) ?_ rfl (Below.refl _ _)
                clear hp
                obtain ⟨ec, eg, ef⟩ := Rg.eval_at a
                generalize a.eval = ρ at *
                go_simp
                omega
              case s20 =>
                intro a w' hp
                have e92 : a.eval (.tmp 92) = .bool false := hp.at_ 19 (by rfl)
                exact Rg.step_run (v := a.eval (.tmp 92)) (w' := w') rfl (Rg.wanted_some (g := 17) (b := false) (d := 90) rfl (by rfl) (hp.at_ 17 (by rfl))) (by simp) rfl e92 (Below.refl _ _)
              case s21 =>
                intro a w' hp
                have e15 : a.eval (.tmp 15) = .slice (some ⟨ba, oa, none⟩) k3 c3 := hp.rest 15 (by rfl)
                exact Rg.step_skip rfl (Rg.wanted_not rfl (by rfl) (hp.at_ 20 (by rfl))) rfl
              case s22 =>
                intro a w' hp
                have e16 : a.eval (.tmp 16) = .int .i64 (j : Int) := hp.rest 16 (by rfl)
                exact Rg.step_skip rfl (Rg.wanted_not rfl (by rfl) (hp.at_ 20 (by rfl))) rfl
              case s23 =>
                intro a w' hp
                have e94 : a.eval (.tmp 94) = undef := hp.at_ 21 (by rfl)
                have e95 : a.eval (.tmp 95) = undef := hp.at_ 22 (by rfl)
                exact Rg.step_skip rfl (Rg.wanted_not rfl (by rfl) (hp.at_ 20 (by rfl))) rfl
              case s24 =>
                intro a w' hp
                have e96 : a.eval (.tmp 96) = undef := hp.at_ 23 (by rfl)
                exact Rg.step_skip rfl (Rg.wanted_not rfl (by rfl) (hp.at_ 20 (by rfl))) rfl
              case s25 =>
                intro a w' hp
                have e97 : a.eval (.tmp 97) = undef := hp.at_ 24 (by rfl)
                exact Rg.step_skip rfl (Rg.wanted_not rfl (by rfl) (hp.at_ 20 (by rfl))) rfl
              case s26 =>
                intro a w' hp
                have e15 : a.eval (.tmp 15) = .slice (some ⟨ba, oa, none⟩) k3 c3 := hp.rest 15 (by rfl)
                exact Rg.step_skip rfl (Rg.wanted_not rfl (by rfl) (hp.at_ 20 (by rfl))) rfl
              case s27 =>
                intro a w' hp
                have e16 : a.eval (.tmp 16) = .int .i64 (j : Int) := hp.rest 16 (by rfl)
                exact Rg.step_skip rfl (Rg.wanted_not rfl (by rfl) (hp.at_ 20 (by rfl))) rfl
              case s28 =>
                intro a w' hp
                have e100 : a.eval (.tmp 100) = undef := hp.at_ 27 (by rfl)
                exact Rg.step_skip rfl (Rg.wanted_not rfl (by rfl) (hp.at_ 20 (by rfl))) rfl
              case s29 =>
                intro a w' hp
                have e99 : a.eval (.tmp 99) = undef := hp.at_ 26 (by rfl)
                have e101 : a.eval (.tmp 101) = undef := hp.at_ 28 (by rfl)
                exact Rg.step_skip rfl (Rg.wanted_not rfl (by rfl) (hp.at_ 20 (by rfl))) rfl
              case s30 =>
                intro a w' hp
                have e102 : a.eval (.tmp 102) = undef := hp.at_ 29 (by rfl)
                exact Rg.step_skip rfl (Rg.wanted_not rfl (by rfl) (hp.at_ 20 (by rfl))) rfl
              case s31 =>
                intro a w' hp
                have e103 : a.eval (.tmp 103) = undef := hp.at_ 30 (by rfl)
                exact Rg.step_skip rfl (Rg.wanted_not rfl (by rfl) (hp.at_ 20 (by rfl))) rfl
              case s32 =>
                intro a w' hp
                have e98 : a.eval (.tmp 98) = undef := hp.at_ 25 (by rfl)
                have e104 : a.eval (.tmp 104) = undef := hp.at_ 31 (by rfl)
                exact Rg.step_skip rfl (Rg.wanted_not rfl (by rfl) (hp.at_ 20 (by rfl))) rfl
              case s33 =>
                intro a w' hp
                have e105 : a.eval (.tmp 105) = undef := hp.at_ 32 (by rfl)
                exact Rg.step_skip rfl (Rg.wanted_not rfl (by rfl) (hp.at_ 20 (by rfl))) rfl
              case s34 =>
                intro a w' hp
                have e15 : a.eval (.tmp 15) = .slice (some ⟨ba, oa, none⟩) k3 c3 := hp.rest 15 (by rfl)
                exact Rg.step_skip rfl (wanted_undef rfl (by rfl) (hp.at_ 33 (by rfl))) rfl
              case s35 =>
                intro a w' hp
                have e16 : a.eval (.tmp 16) = .int .i64 (j : Int) := hp.rest 16 (by rfl)
                exact Rg.step_skip rfl (wanted_undef rfl (by rfl) (hp.at_ 33 (by rfl))) rfl
              case s36 =>
                intro a w' hp
                have e107 : a.eval (.tmp 107) = undef := hp.at_ 34 (by rfl)
                have e108 : a.eval (.tmp 108) = undef := hp.at_ 35 (by rfl)
                exact Rg.step_skip rfl (wanted_undef rfl (by rfl) (hp.at_ 33 (by rfl))) rfl
              case s37 =>
                intro a w' hp
                have e109 : a.eval (.tmp 109) = undef := hp.at_ 36 (by rfl)
                exact Rg.step_skip rfl (wanted_undef rfl (by rfl) (hp.at_ 33 (by rfl))) rfl
              case s38 =>
                intro a w' hp
                have e110 : a.eval (.tmp 110) = undef := hp.at_ 37 (by rfl)
                exact Rg.step_skip rfl (wanted_undef rfl (by rfl) (hp.at_ 33 (by rfl))) rfl
              case s39 =>
                intro a w' hp
                have e15 : a.eval (.tmp 15) = .slice (some ⟨ba, oa, none⟩) k3 c3 := hp.rest 15 (by rfl)
                exact Rg.step_skip rfl (wanted_undef rfl (by rfl) (hp.at_ 33 (by rfl))) rfl
              case s40 =>
                intro a w' hp
                have e16 : a.eval (.tmp 16) = .int .i64 (j : Int) := hp.rest 16 (by rfl)
                exact Rg.step_skip rfl (wanted_undef rfl (by rfl) (hp.at_ 33 (by rfl))) rfl
              case s41 =>
                intro a w' hp
                have e113 : a.eval (.tmp 113) = undef := hp.at_ 40 (by rfl)
                exact Rg.step_skip rfl (wanted_undef rfl (by rfl) (hp.at_ 33 (by rfl))) rfl
              case s42 =>
                intro a w' hp
                have e112 : a.eval (.tmp 112) = undef := hp.at_ 39 (by rfl)
                have e114 : a.eval (.tmp 114) = undef := hp.at_ 41 (by rfl)
                exact Rg.step_skip rfl (wanted_undef rfl (by rfl) (hp.at_ 33 (by rfl))) rfl
              case s43 =>
                intro a w' hp
                have e115 : a.eval (.tmp 115) = undef := hp.at_ 42 (by rfl)
                exact Rg.step_skip rfl (wanted_undef rfl (by rfl) (hp.at_ 33 (by rfl))) rfl
              case s44 =>
                intro a w' hp
                have e116 : a.eval (.tmp 116) = undef := hp.at_ 43 (by rfl)
                exact Rg.step_skip rfl (wanted_undef rfl (by rfl) (hp.at_ 33 (by rfl))) rfl
              case s45 =>
                intro a w' hp
                have e111 : a.eval (.tmp 111) = undef := hp.at_ 38 (by rfl)
                have e117 : a.eval (.tmp 117) = undef := hp.at_ 44 (by rfl)
                exact Rg.step_skip rfl (wanted_undef rfl (by rfl) (hp.at_ 33 (by rfl))) rfl
              case s46 =>
                intro a w' hp
                have e118 : a.eval (.tmp 118) = undef := hp.at_ 45 (by rfl)
                exact Rg.step_skip rfl (wanted_undef rfl (by rfl) (hp.at_ 33 (by rfl))) rfl
              case s47 =>
                intro a w' hp
                have e15 : a.eval (.tmp 15) = .slice (some ⟨ba, oa, none⟩) k3 c3 := hp.rest 15 (by rfl)
                exact Rg.step_skip rfl (wanted_undef rfl (by rfl) (hp.at_ 46 (by rfl))) rfl
              case s48 =>
                intro a w' hp
                have e16 : a.eval (.tmp 16) = .int .i64 (j : Int) := hp.rest 16 (by rfl)
                exact Rg.step_skip rfl (wanted_undef rfl (by rfl) (hp.at_ 46 (by rfl))) rfl
              case s49 =>
                intro a w' hp
                have e120 : a.eval (.tmp 120) = undef := hp.at_ 47 (by rfl)
                have e121 : a.eval (.tmp 121) = undef := hp.at_ 48 (by rfl)
                exact Rg.step_skip rfl (wanted_undef rfl (by rfl) (hp.at_ 46 (by rfl))) rfl
              case s50 =>
                intro a w' hp
                have e122 : a.eval (.tmp 122) = undef := hp.at_ 49 (by rfl)
                exact Rg.step_skip rfl (wanted_undef rfl (by rfl) (hp.at_ 46 (by rfl))) rfl
              case s51 =>
                intro a w' hp
                have e123 : a.eval (.tmp 123) = undef := hp.at_ 50 (by rfl)
                exact Rg.step_skip rfl (wanted_undef rfl (by rfl) (hp.at_ 46 (by rfl))) rfl
              case s52 =>
                intro a w' hp
                have e15 : a.eval (.tmp 15) = .slice (some ⟨ba, oa, none⟩) k3 c3 := hp.rest 15 (by rfl)
                exact Rg.step_skip rfl (wanted_undef rfl (by rfl) (hp.at_ 46 (by rfl))) rfl
              case s53 =>
                intro a w' hp
                have e16 : a.eval (.tmp 16) = .int .i64 (j : Int) := hp.rest 16 (by rfl)
                exact Rg.step_skip rfl (wanted_undef rfl (by rfl) (hp.at_ 46 (by rfl))) rfl
              case s54 =>
                intro a w' hp
                have e126 : a.eval (.tmp 126) = undef := hp.at_ 53 (by rfl)
                exact Rg.step_skip rfl (wanted_undef rfl (by rfl) (hp.at_ 46 (by rfl))) rfl
              case s55 =>
                intro a w' hp
                have e125 : a.eval (.tmp 125) = undef := hp.at_ 52 (by rfl)
                have e127 : a.eval (.tmp 127) = undef := hp.at_ 54 (by rfl)
                exact Rg.step_skip rfl (wanted_undef rfl (by rfl) (hp.at_ 46 (by rfl))) rfl
              case s56 =>
                intro a w' hp
                have e128 : a.eval (.tmp 128) = undef := hp.at_ 55 (by rfl)
                exact Rg.step_skip rfl (wanted_undef rfl (by rfl) (hp.at_ 46 (by rfl))) rfl
              case s57 =>
                intro a w' hp
                have e129 : a.eval (.tmp 129) = undef := hp.at_ 56 (by rfl)
                exact Rg.step_skip rfl (wanted_undef rfl (by rfl) (hp.at_ 46 (by rfl))) rfl
              case s58 =>
                intro a w' hp
                have e124 : a.eval (.tmp 124) = undef := hp.at_ 51 (by rfl)
                have e130 : a.eval (.tmp 130) = undef := hp.at_ 57 (by rfl)
                exact Rg.step_skip rfl (wanted_undef rfl (by rfl) (hp.at_ 46 (by rfl))) rfl
              case s59 =>
                intro a w' hp
                have e119 : a.eval (.tmp 119) = undef := hp.at_ 46 (by rfl)
                have e131 : a.eval (.tmp 131) = undef := hp.at_ 58 (by rfl)
                exact Rg.step_skip rfl (wanted_undef rfl (by rfl) (hp.at_ 33 (by rfl))) rfl
              case s60 =>
                intro a w' hp
                have e106 : a.eval (.tmp 106) = undef := hp.at_ 33 (by rfl)
                have e132 : a.eval (.tmp 132) = undef := hp.at_ 59 (by rfl)
                exact Rg.step_skip rfl (Rg.wanted_not rfl (by rfl) (hp.at_ 20 (by rfl))) rfl
              case s61 =>
                intro a w' hp
                have e93 : a.eval (.tmp 93) = .bool false := hp.at_ 20 (by rfl)
                have e133 : a.eval (.tmp 133) = undef := hp.at_ 60 (by rfl)
                refine Rg.step_run (v := .bool false) (w' := w') rfl (Rg.wanted_some (g := 17) (b := false) (d := 90) rfl (by rfl) (hp.at_ 17 (by rfl))) (by simp) ?_ rfl (Below.refl _ _)
                clear hp
                obtain ⟨ec, eg, ef⟩ := Rg.eval_at a
                generalize a.eval = ρ at *
                go_simp
              case s62 =>
                intro a w' hp
                have e90 : a.eval (.tmp 90) = .bool false := hp.at_ 17 (by rfl)
                have e134 : a.eval (.tmp 134) = .bool false := hp.at_ 61 (by rfl)
                refine Rg.step_run (v := .bool false) (w' := w') rfl (Rg.wanted_none rfl) (by simp) ?_ rfl (Below.refl _ _)
                clear hp
                obtain ⟨ec, eg, ef⟩ := Rg.eval_at a
                generalize a.eval = ρ at *
                go_simp
              case mono =>
                refine Rg.mono_getD _ ?_
                intro p hp
                repeat (rcases List.mem_cons.1 hp with rfl | hp; exact Rg.mono_eq _)
                cases hp
              case fin =>
                intro a w' hsz hdf hrest hdone hbf
                have hv : a.tmps.getD 135 undef = .bool false := hdone 62 (by decide)
                have ha := Rg.act_puts hsz hdf hrest [73, 74, 75, 76, 77, 78, 79, 80, 81, 82, 83, 84, 85, 86, 87, 88, 89, 90, 91, 92, 93, 94, 95, 96, 97, 98, 99, 100, 101, 102, 103, 104, 105, 106, 107, 108, 109, 110, 111, 112, 113, 114, 115, 116, 117, 118, 119, 120, 121, 122, 123, 124, 125, 126, 127, 128, 129, 130, 131, 132, 133, 134, 135] (by kernel_rfl)
                simp only [List.foldl_cons, List.foldl_nil, Act.put, List.setIfInBounds_toArray, List.set_cons_zero, List.set_cons_succ] at ha
                rw [hv] at ha
                clear hsz hdf hrest hdone hv
                rw [ha]
                clear ha
                go_wp2
                go_roundw
                case rel => exact ⟨j + 1, by first | rfl | go_num, by omega, HBX.out.trans (hbf.mono HBX.out.size)⟩
                case measure =>
                  simp only [intOf]
                  omega
            · have hz0 : (0 : Int) < (j : Int) := by omega
              obtain ⟨s0, s5⟩ := hprev (by omega)
              obtain ⟨ho1, ho2⟩ := hord (by omega) hlt
              have hi3 : ((j : Int) - 1).toNat = j - 1 := by omega
              have hi4 : (0 : Int) ≤ (j : Int) - 1 := by omega
              have hi5 : (j : Int) - 1 < (k3 : Int) := by omega
              have h0n : 0 < j := by omega
              generalize (r3[j - 1]!).prio = py at *
              generalize (r3[j - 1]!).id = iy at *
              have hq1 : ¬ py < x.prio := by omega
              clear hord hprev
              by_cases heq : x.prio = py
              · have hq2 : ¬ x.id ≤ iy := by have := ho2 heq; omega
                clear ho1 ho2
                refine Rg.region_each (by kernel_rfl) (fun i => ([
                    (fun v _ => v = .slice (some ⟨ba, oa, none⟩) k3 c3),
                    (fun v _ => v = .int .i64 (j : Int)),
                    (fun v _ => v = .pointer (some ⟨ba, oa + j * 12, none⟩)),
                    (fun v _ => v = .agg #[.int .i64 x.id, .int .i64 x.ins, .int .i64 x.tok, .int .i64 x.nod, .string x.top, .int .i64 x.prio, .string x.wkr, .int .i64 x.epo, .int .i64 x.exp, .int .i64 x.aft, .int .i64 x.ret, .bool x.bro]),
                    (fun v _ => v = .int .i64 t),
                    (fun v _ => v = .bool true),
                    (fun v _ => v = .bool false),
                    (fun v _ => v = .bool false),
                    (fun v _ => v = .slice A k c),
                    (fun v _ => v = .slice (some ⟨ba, oa, none⟩) k3 c3),
                    (fun v _ => v = .int .i64 (j : Int)),
                    (fun v _ => v = .pointer (some ⟨ba, oa + j * 12, none⟩)),
                    (fun v _ => v = .pointer (some ⟨ba, oa + j * 12 + 4, none⟩)),
                    (fun v _ => v = .string x.top),
                    (fun v _ => v = .bool true),
                    (fun v _ => v = .bool false),
                    (fun v _ => v = .bool false),
                    (fun v _ => v = .bool false),
                    (fun v _ => v = .int .i64 (j : Int)),
                    (fun v _ => v = .bool true),
                    (fun v _ => v = .bool true),
                    (fun v _ => v = .slice (some ⟨ba, oa, none⟩) k3 c3),
                    (fun v _ => v = .int .i64 (j : Int)),
                    (fun v _ => v = .pointer (some ⟨ba, oa + j * 12, none⟩)),
                    (fun v _ => v = .pointer (some ⟨ba, oa + j * 12 + 5, none⟩)),
                    (fun v _ => v = .int .i64 x.prio),
                    (fun v _ => v = .slice (some ⟨ba, oa, none⟩) k3 c3),
                    (fun v _ => v = .int .i64 (j : Int)),
                    (fun v _ => v = .int .i64 ((j : Int) - 1)),
                    (fun v _ => v = .pointer (some ⟨ba, oa + (j - 1) * 12, none⟩)),
                    (fun v _ => v = .pointer (some ⟨ba, oa + (j - 1) * 12 + 5, none⟩)),
                    (fun v _ => v = .int .i64 py),
                    (fun v _ => v = .bool false),
                    (fun v _ => v = .bool false),
                    (fun v _ => v = .slice (some ⟨ba, oa, none⟩) k3 c3),
                    (fun v _ => v = .int .i64 (j : Int)),
                    (fun v _ => v = .pointer (some ⟨ba, oa + j * 12, none⟩)),
                    (fun v _ => v = .pointer (some ⟨ba, oa + j * 12 + 5, none⟩)),
                    (fun v _ => v = .int .i64 x.prio),
                    (fun v _ => v = .slice (some ⟨ba, oa, none⟩) k3 c3),
                    (fun v _ => v = .int .i64 (j : Int)),
                    (fun v _ => v = .int .i64 ((j : Int) - 1)),
                    (fun v _ => v = .pointer (some ⟨ba, oa + (j - 1) * 12, none⟩)),
                    (fun v _ => v = .pointer (some ⟨ba, oa + (j - 1) * 12 + 5, none⟩)),
                    (fun v _ => v = .int .i64 py),
                    (fun v _ => v = .bool true),
                    (fun v _ => v = .bool true),
                    (fun v _ => v = .slice (some ⟨ba, oa, none⟩) k3 c3),
                    (fun v _ => v = .int .i64 (j : Int)),
                    (fun v _ => v = .pointer (some ⟨ba, oa + j * 12, none⟩)),
                    (fun v _ => v = .pointer (some ⟨ba, oa + j * 12, none⟩)),
                    (fun v _ => v = .int .i64 x.id),
                    (fun v _ => v = .slice (some ⟨ba, oa, none⟩) k3 c3),
                    (fun v _ => v = .int .i64 (j : Int)),
                    (fun v _ => v = .int .i64 ((j : Int) - 1)),
                    (fun v _ => v = .pointer (some ⟨ba, oa + (j - 1) * 12, none⟩)),
                    (fun v _ => v = .pointer (some ⟨ba, oa + (j - 1) * 12, none⟩)),
                    (fun v _ => v = .int .i64 iy),
                    (fun v _ => v = .bool false),
                    (fun v _ => v = .bool false),
                    (fun v _ => v = .bool false),
                    (fun v _ => v = .bool false),
                    (fun v _ => v = .bool false)
                    ] : List (Value → World → Prop)).getD i (fun _ _ => True)) (by kernel_rfl) ?mono (Rg.by_each _ ⟨?s0, ?s1, ?s2, ?s3, ?s4, ?s5, ?s6, ?s7, ?s8, ?s9, ?s10, ?s11, ?s12, ?s13, ?s14, ?s15, ?s16, ?s17, ?s18, ?s19, ?s20, ?s21, ?s22, ?s23, ?s24, ?s25, ?s26, ?s27, ?s28, ?s29, ?s30, ?s31, ?s32, ?s33, ?s34, ?s35, ?s36, ?s37, ?s38, ?s39, ?s40, ?s41, ?s42, ?s43, ?s44, ?s45, ?s46, ?s47, ?s48, ?s49, ?s50, ?s51, ?s52, ?s53, ?s54, ?s55, ?s56, ?s57, ?s58, ?s59, ?s60, ?s61, ?s62, trivial⟩) ?fin
                case s0 =>
                  intro a w' hp
                  have e15 : a.eval (.tmp 15) = .slice (some ⟨ba, oa, none⟩) k3 c3 := hp.rest 15 (by rfl)
                  exact Rg.step_run (v := a.eval (.tmp 15)) (w' := w') rfl (Rg.wanted_none rfl) (by simp) rfl e15 (Below.refl _ _)
                case s1 =>
                  intro a w' hp
                  have e16 : a.eval (.tmp 16) = .int .i64 (j : Int) := hp.rest 16 (by rfl)
                  exact Rg.step_run (v := a.eval (.tmp 16)) (w' := w') rfl (Rg.wanted_none rfl) (by simp) rfl e16 (Below.refl _ _)
                case s2 =>
                  intro a w' hp
                  have e73 : a.eval (.tmp 73) = .slice (some ⟨ba, oa, none⟩) k3 c3 := hp.at_ 0 (by rfl)
                  have e74 : a.eval (.tmp 74) = .int .i64 (j : Int) := hp.at_ 1 (by rfl)
                  refine Rg.step_run (v := .pointer (some ⟨ba, oa + j * 12, none⟩)) (w' := w') rfl (Rg.wanted_none rfl) (by simp) ?_ rfl (Below.refl _ _)
                  clear hp
                  obtain ⟨ec, eg, ef⟩ := Rg.eval_at a
                  generalize a.eval = ρ at *
                  go_simp
                case s3 =>
                  intro a w' hp
                  have e75 : a.eval (.tmp 75) = .pointer (some ⟨ba, oa + j * 12, none⟩) := hp.at_ 2 (by rfl)
                  have tq0 := (hp.grew.cell (p := ⟨ba, oa + j * 12, none⟩) hbaw).trans t0
                  have tq1 := (hp.grew.cell (p := ⟨ba, oa + j * 12 + 1, none⟩) hbaw).trans t1
                  have tq2 := (hp.grew.cell (p := ⟨ba, oa + j * 12 + 2, none⟩) hbaw).trans t2
                  have tq3 := (hp.grew.cell (p := ⟨ba, oa + j * 12 + 3, none⟩) hbaw).trans t3
                  have tq4 := (hp.grew.cell (p := ⟨ba, oa + j * 12 + 4, none⟩) hbaw).trans t4
                  have tq5 := (hp.grew.cell (p := ⟨ba, oa + j * 12 + 5, none⟩) hbaw).trans t5
                  have tq6 := (hp.grew.cell (p := ⟨ba, oa + j * 12 + 6, none⟩) hbaw).trans t6
                  have tq7 := (hp.grew.cell (p := ⟨ba, oa + j * 12 + 7, none⟩) hbaw).trans t7
                  have tq8 := (hp.grew.cell (p := ⟨ba, oa + j * 12 + 8, none⟩) hbaw).trans t8
                  have tq9 := (hp.grew.cell (p := ⟨ba, oa + j * 12 + 9, none⟩) hbaw).trans t9
                  have tq10 := (hp.grew.cell (p := ⟨ba, oa + j * 12 + 10, none⟩) hbaw).trans t10
                  have tq11 := (hp.grew.cell (p := ⟨ba, oa + j * 12 + 11, none⟩) hbaw).trans t11
                  refine Rg.step_run (v := .agg #[.int .i64 x.id, .int .i64 x.ins, .int .i64 x.tok, .int .i64 x.nod, .string x.top, .int .i64 x.prio, .string x.wkr, .int .i64 x.epo, .int .i64 x.exp, .int .i64 x.aft, .int .i64 x.ret, .bool x.bro]) (w' := w') rfl (Rg.wanted_none rfl) (by simp) ?_ rfl (Below.refl _ _)
                  clear hp
                  obtain ⟨ec, eg, ef⟩ := Rg.eval_at a
                  generalize a.eval = ρ at *
                  go_simp
                case s4 =>
                  intro a w' hp
                  have e2 : a.eval (.tmp 2) = .int .i64 t := hp.rest 2 (by rfl)
                  exact Rg.step_run (v := a.eval (.tmp 2)) (w' := w') rfl (Rg.wanted_none rfl) (by simp) rfl e2 (Below.refl _ _)
                case s5 =>
                  intro a w' hp
                  have e76 : a.eval (.tmp 76) = .agg #[.int .i64 x.id, .int .i64 x.ins, .int .i64 x.tok, .int .i64 x.nod, .string x.top, .int .i64 x.prio, .string x.wkr, .int .i64 x.epo, .int .i64 x.exp, .int .i64 x.aft, .int .i64 x.ret, .bool x.bro] := hp.at_ 3 (by rfl)
                  have e77 : a.eval (.tmp 77) = .int .i64 t := hp.at_ 4 (by rfl)
                  refine Rg.step_call (f := 24) (args := #[.agg #[.int .i64 x.id, .int .i64 x.ins, .int .i64 x.tok, .int .i64 x.nod, .string x.top, .int .i64 x.prio, .string x.wkr, .int .i64 x.epo, .int .i64 x.exp, .int .i64 x.aft, .int .i64 x.ret, .bool x.bro], .int .i64 t]) rfl (Rg.wanted_none rfl) (by simp) (by clear hp; obtain ⟨ec, eg, ef⟩ := Rg.eval_at a; generalize a.eval = ρ at *; go_simp) ?_
                  refine (FR.out w').mono ?_
                  rintro e w2' ⟨rfl, hb2⟩
                  exact ⟨_, rfl, rfl, hb2⟩
                case s6 =>
                  intro a w' hp
                  have e78 : a.eval (.tmp 78) = .bool true := hp.at_ 5 (by rfl)
                  refine Rg.step_run (v := .bool false) (w' := w') rfl (Rg.wanted_none rfl) (by simp) ?_ rfl (Below.refl _ _)
                  clear hp
                  obtain ⟨ec, eg, ef⟩ := Rg.eval_at a
                  generalize a.eval = ρ at *
                  go_simp
                case s7 =>
                  intro a w' hp
                  have e79 : a.eval (.tmp 79) = .bool false := hp.at_ 6 (by rfl)
                  exact Rg.step_run (v := a.eval (.tmp 79)) (w' := w') rfl (Rg.wanted_none rfl) (by simp) rfl e79 (Below.refl _ _)
                case s8 =>
                  intro a w' hp
                  have e14 : a.eval (.tmp 14) = .slice A k c := hp.rest 14 (by rfl)
                  exact Rg.step_run (v := a.eval (.tmp 14)) (w' := w') rfl (Rg.wanted_some (g := 7) (b := false) (d := 80) rfl (by rfl) (hp.at_ 7 (by rfl))) (by simp) rfl e14 (Below.refl _ _)
                case s9 =>
                  intro a w' hp
                  have e15 : a.eval (.tmp 15) = .slice (some ⟨ba, oa, none⟩) k3 c3 := hp.rest 15 (by rfl)
                  exact Rg.step_run (v := a.eval (.tmp 15)) (w' := w') rfl (Rg.wanted_some (g := 7) (b := false) (d := 80) rfl (by rfl) (hp.at_ 7 (by rfl))) (by simp) rfl e15 (Below.refl _ _)
                case s10 =>
                  intro a w' hp
                  have e16 : a.eval (.tmp 16) = .int .i64 (j : Int) := hp.rest 16 (by rfl)
                  exact Rg.step_run (v := a.eval (.tmp 16)) (w' := w') rfl (Rg.wanted_some (g := 7) (b := false) (d := 80) rfl (by rfl) (hp.at_ 7 (by rfl))) (by simp) rfl e16 (Below.refl _ _)
                case s11 =>
                  intro a w' hp
                  have e82 : a.eval (.tmp 82) = .slice (some ⟨ba, oa, none⟩) k3 c3 := hp.at_ 9 (by rfl)
                  have e83 : a.eval (.tmp 83) = .int .i64 (j : Int) := hp.at_ 10 (by rfl)
                  refine Rg.step_run (v := .pointer (some ⟨ba, oa + j * 12, none⟩)) (w' := w') rfl (Rg.wanted_some (g := 7) (b := false) (d := 80) rfl (by rfl) (hp.at_ 7 (by rfl))) (by simp) ?_ rfl (Below.refl _ _)
                  clear hp
                  obtain ⟨ec, eg, ef⟩ := Rg.eval_at a
                  generalize a.eval = ρ at *
                  go_simp
                case s12 =>
                  intro a w' hp
                  have e84 : a.eval (.tmp 84) = .pointer (some ⟨ba, oa + j * 12, none⟩) := hp.at_ 11 (by rfl)
                  refine Rg.step_run (v := .pointer (some ⟨ba, oa + j * 12 + 4, none⟩)) (w' := w') rfl (Rg.wanted_some (g := 7) (b := false) (d := 80) rfl (by rfl) (hp.at_ 7 (by rfl))) (by simp) ?_ rfl (Below.refl _ _)
                  clear hp
                  obtain ⟨ec, eg, ef⟩ := Rg.eval_at a
                  generalize a.eval = ρ at *
                  go_simp
                case s13 =>
                  intro a w' hp
                  have e85 : a.eval (.tmp 85) = .pointer (some ⟨ba, oa + j * 12 + 4, none⟩) := hp.at_ 12 (by rfl)
                  have tq0 := (hp.grew.cell (p := ⟨ba, oa + j * 12 + 4, none⟩) hbaw).trans t4
                  refine Rg.step_run (v := .string x.top) (w' := w') rfl (Rg.wanted_some (g := 7) (b := false) (d := 80) rfl (by rfl) (hp.at_ 7 (by rfl))) (by simp) ?_ rfl (Below.refl _ _)
                  clear hp
                  obtain ⟨ec, eg, ef⟩ := Rg.eval_at a
                  generalize a.eval = ρ at *
                  go_simp
                case s14 =>
                  intro a w' hp
                  have e81 : a.eval (.tmp 81) = .slice A k c := hp.at_ 8 (by rfl)
                  have e86 : a.eval (.tmp 86) = .string x.top := hp.at_ 13 (by rfl)
                  have hg : Below w3.heap.size w3 w' := HBX.out.trans (((Below.refl wr.heap.size wr).drew.trans hp.grew).mono HBX.out.size)
                  refine Rg.step_call (f := 25) (args := #[.slice A k c, .string x.top]) rfl (Rg.wanted_some (g := 7) (b := false) (d := 80) rfl (by rfl) (hp.at_ 7 (by rfl))) (by simp) (by clear hp; obtain ⟨ec, eg, ef⟩ := Rg.eval_at a; generalize a.eval = ρ at *; go_simp) ?_
                  refine (HT.out w' hg).mono ?_
                  rintro e w2' ⟨rfl, rfl⟩
                  exact ⟨_, rfl, rfl, Below.refl _ _⟩
                case s15 =>
                  intro a w' hp
                  have e87 : a.eval (.tmp 87) = .bool true := hp.at_ 14 (by rfl)
                  refine Rg.step_run (v := .bool false) (w' := w') rfl (Rg.wanted_some (g := 7) (b := false) (d := 80) rfl (by rfl) (hp.at_ 7 (by rfl))) (by simp) ?_ rfl (Below.refl _ _)
                  clear hp
                  obtain ⟨ec, eg, ef⟩ := Rg.eval_at a
                  generalize a.eval = ρ at *
                  go_simp
                case s16 =>
                  intro a w' hp
                  have e80 : a.eval (.tmp 80) = .bool false := hp.at_ 7 (by rfl)
                  have e88 : a.eval (.tmp 88) = .bool false := hp.at_ 15 (by rfl)
                  refine Rg.step_run (v := .bool false) (w' := w') rfl (Rg.wanted_none rfl) (by simp) ?_ rfl (Below.refl _ _)
                  clear hp
                  obtain ⟨ec, eg, ef⟩ := Rg.eval_at a
                  generalize a.eval = ρ at *
                  go_simp
                case s17 =>
                  intro a w' hp
                  have e89 : a.eval (.tmp 89) = .bool false := hp.at_ 16 (by rfl)
                  exact Rg.step_run (v := a.eval (.tmp 89)) (w' := w') rfl (Rg.wanted_none rfl) (by simp) rfl e89 (Below.refl _ _)
                case s18 =>
                  intro a w' hp
                  have e16 : a.eval (.tmp 16) = .int .i64 (j : Int) := hp.rest 16 (by rfl)
                  exact Rg.step_run (v := a.eval (.tmp 16)) (w' := w') rfl (Rg.wanted_some (g := 17) (b := false) (d := 90) rfl (by rfl) (hp.at_ 17 (by rfl))) (by simp) rfl e16 (Below.refl _ _)
                case s19 =>
                  intro a w' hp
                  have e91 : a.eval (.tmp 91) = .int .i64 (j : Int) := hp.at_ 18 (by rfl)
                  refine Rg.step_run (v := .bool true) (w' := w') rfl (Rg.wanted_some (g := 17) (b := false) (d := 90) rfl (by rfl) (hp.at_ 17 (by rfl))) (by simp) ?_ rfl (Below.refl _ _)
                  clear hp
                  obtain ⟨ec, eg, ef⟩ := Rg.eval_at a
                  generalize a.eval = ρ at *
                  go_simp
                case s20 =>
                  intro a w' hp
                  have e92 : a.eval (.tmp 92) = .bool true := hp.at_ 19 (by rfl)
                  exact Rg.step_run (v := a.eval (.tmp 92)) (w' := w') rfl (Rg.wanted_some (g := 17) (b := false) (d := 90) rfl (by rfl) (hp.at_ 17 (by rfl))) (by simp) rfl e92 (Below.refl _ _)
                case s21 =>
                  intro a w' hp
                  have e15 : a.eval (.tmp 15) = .slice (some ⟨ba, oa, none⟩) k3 c3 := hp.rest 15 (by rfl)
                  exact Rg.step_run (v := a.eval (.tmp 15)) (w' := w') rfl (Rg.wanted_some (g := 20) (b := true) (d := 93) rfl (by rfl) (hp.at_ 20 (by rfl))) (by simp) rfl e15 (Below.refl _ _)
                case s22 =>
                  intro a w' hp
                  have e16 : a.eval (.tmp 16) = .int .i64 (j : Int) := hp.rest 16 (by rfl)
                  exact Rg.step_run (v := a.eval (.tmp 16)) (w' := w') rfl (Rg.wanted_some (g := 20) (b := true) (d := 93) rfl (by rfl) (hp.at_ 20 (by rfl))) (by simp) rfl e16 (Below.refl _ _)
                case s23 =>
                  intro a w' hp
                  have e94 : a.eval (.tmp 94) = .slice (some ⟨ba, oa, none⟩) k3 c3 := hp.at_ 21 (by rfl)
                  have e95 : a.eval (.tmp 95) = .int .i64 (j : Int) := hp.at_ 22 (by rfl)
                  refine Rg.step_run (v := .pointer (some ⟨ba, oa + j * 12, none⟩)) (w' := w') rfl (Rg.wanted_some (g := 20) (b := true) (d := 93) rfl (by rfl) (hp.at_ 20 (by rfl))) (by simp) ?_ rfl (Below.refl _ _)
                  clear hp
                  obtain ⟨ec, eg, ef⟩ := Rg.eval_at a
                  generalize a.eval = ρ at *
                  go_simp
                case s24 =>
                  intro a w' hp
                  have e96 : a.eval (.tmp 96) = .pointer (some ⟨ba, oa + j * 12, none⟩) := hp.at_ 23 (by rfl)
                  refine Rg.step_run (v := .pointer (some ⟨ba, oa + j * 12 + 5, none⟩)) (w' := w') rfl (Rg.wanted_some (g := 20) (b := true) (d := 93) rfl (by rfl) (hp.at_ 20 (by rfl))) (by simp) ?_ rfl (Below.refl _ _)
                  clear hp
                  obtain ⟨ec, eg, ef⟩ := Rg.eval_at a
                  generalize a.eval = ρ at *
                  go_simp
                case s25 =>
                  intro a w' hp
                  have e97 : a.eval (.tmp 97) = .pointer (some ⟨ba, oa + j * 12 + 5, none⟩) := hp.at_ 24 (by rfl)
                  have tq0 := (hp.grew.cell (p := ⟨ba, oa + j * 12 + 5, none⟩) hbaw).trans t5
                  refine Rg.step_run (v := .int .i64 x.prio) (w' := w') rfl (Rg.wanted_some (g := 20) (b := true) (d := 93) rfl (by rfl) (hp.at_ 20 (by rfl))) (by simp) ?_ rfl (Below.refl _ _)
                  clear hp
                  obtain ⟨ec, eg, ef⟩ := Rg.eval_at a
                  generalize a.eval = ρ at *
                  go_simp
                case s26 =>
                  intro a w' hp
                  have e15 : a.eval (.tmp 15) = .slice (some ⟨ba, oa, none⟩) k3 c3 := hp.rest 15 (by rfl)
                  exact Rg.step_run (v := a.eval (.tmp 15)) (w' := w') rfl (Rg.wanted_some (g := 20) (b := true) (d := 93) rfl (by rfl) (hp.at_ 20 (by rfl))) (by simp) rfl e15 (Below.refl _ _)
                case s27 =>
                  intro a w' hp
                  have e16 : a.eval (.tmp 16) = .int .i64 (j : Int) := hp.rest 16 (by rfl)
                  exact Rg.step_run (v := a.eval (.tmp 16)) (w' := w') rfl (Rg.wanted_some (g := 20) (b := true) (d := 93) rfl (by rfl) (hp.at_ 20 (by rfl))) (by simp) rfl e16 (Below.refl _ _)
                case s28 =>
                  intro a w' hp
                  have e100 : a.eval (.tmp 100) = .int .i64 (j : Int) := hp.at_ 27 (by rfl)
                  have hwi : IntKind.i64.wrap ((j : Int) - 1) = (j : Int) - 1 := wrapQ (by omega) (by omega)
                  refine Rg.step_run (v := .int .i64 ((j : Int) - 1)) (w' := w') rfl (Rg.wanted_some (g := 20) (b := true) (d := 93) rfl (by rfl) (hp.at_ 20 (by rfl))) (by simp) ?_ rfl (Below.refl _ _)
                  clear hp
                  obtain ⟨ec, eg, ef⟩ := Rg.eval_at a
                  generalize a.eval = ρ at *
                  go_simp
                case s29 =>
                  intro a w' hp
                  have e99 : a.eval (.tmp 99) = .slice (some ⟨ba, oa, none⟩) k3 c3 := hp.at_ 26 (by rfl)
                  have e101 : a.eval (.tmp 101) = .int .i64 ((j : Int) - 1) := hp.at_ 28 (by rfl)
                  have hge : ¬ (j : Int) < 1 := by omega
                  refine Rg.step_run (v := .pointer (some ⟨ba, oa + (j - 1) * 12, none⟩)) (w' := w') rfl (Rg.wanted_some (g := 20) (b := true) (d := 93) rfl (by rfl) (hp.at_ 20 (by rfl))) (by simp) ?_ rfl (Below.refl _ _)
                  clear hp
                  obtain ⟨ec, eg, ef⟩ := Rg.eval_at a
                  generalize a.eval = ρ at *
                  go_simp
                case s30 =>
                  intro a w' hp
                  have e102 : a.eval (.tmp 102) = .pointer (some ⟨ba, oa + (j - 1) * 12, none⟩) := hp.at_ 29 (by rfl)
                  refine Rg.step_run (v := .pointer (some ⟨ba, oa + (j - 1) * 12 + 5, none⟩)) (w' := w') rfl (Rg.wanted_some (g := 20) (b := true) (d := 93) rfl (by rfl) (hp.at_ 20 (by rfl))) (by simp) ?_ rfl (Below.refl _ _)
                  clear hp
                  obtain ⟨ec, eg, ef⟩ := Rg.eval_at a
                  generalize a.eval = ρ at *
                  go_simp
                case s31 =>
                  intro a w' hp
                  have e103 : a.eval (.tmp 103) = .pointer (some ⟨ba, oa + (j - 1) * 12 + 5, none⟩) := hp.at_ 30 (by rfl)
                  have tq0 := (hp.grew.cell (p := ⟨ba, oa + (j - 1) * 12 + 5, none⟩) hbaw).trans s5
                  refine Rg.step_run (v := .int .i64 py) (w' := w') rfl (Rg.wanted_some (g := 20) (b := true) (d := 93) rfl (by rfl) (hp.at_ 20 (by rfl))) (by simp) ?_ rfl (Below.refl _ _)
                  clear hp
                  obtain ⟨ec, eg, ef⟩ := Rg.eval_at a
                  generalize a.eval = ρ at *
                  go_simp
                case s32 =>
                  intro a w' hp
                  have e98 : a.eval (.tmp 98) = .int .i64 x.prio := hp.at_ 25 (by rfl)
                  have e104 : a.eval (.tmp 104) = .int .i64 py := hp.at_ 31 (by rfl)
                  refine Rg.step_run (v := .bool false) (w' := w') rfl (Rg.wanted_some (g := 20) (b := true) (d := 93) rfl (by rfl) (hp.at_ 20 (by rfl))) (by simp) ?_ rfl (Below.refl _ _)
                  clear hp
                  obtain ⟨ec, eg, ef⟩ := Rg.eval_at a
                  generalize a.eval = ρ at *
                  go_simp
                case s33 =>
                  intro a w' hp
                  have e105 : a.eval (.tmp 105) = .bool false := hp.at_ 32 (by rfl)
                  exact Rg.step_run (v := a.eval (.tmp 105)) (w' := w') rfl (Rg.wanted_some (g := 20) (b := true) (d := 93) rfl (by rfl) (hp.at_ 20 (by rfl))) (by simp) rfl e105 (Below.refl _ _)
                case s34 =>
                  intro a w' hp
                  have e15 : a.eval (.tmp 15) = .slice (some ⟨ba, oa, none⟩) k3 c3 := hp.rest 15 (by rfl)
                  exact Rg.step_run (v := a.eval (.tmp 15)) (w' := w') rfl (Rg.wanted_some (g := 33) (b := false) (d := 106) rfl (by rfl) (hp.at_ 33 (by rfl))) (by simp) rfl e15 (Below.refl _ _)
                case s35 =>
                  intro a w' hp
                  have e16 : a.eval (.tmp 16) = .int .i64 (j : Int) := hp.rest 16 (by rfl)
                  exact Rg.step_run (v := a.eval (.tmp 16)) (w' := w') rfl (Rg.wanted_some (g := 33) (b := false) (d := 106) rfl (by rfl) (hp.at_ 33 (by rfl))) (by simp) rfl e16 (Below.refl _ _)
                case s36 =>
                  intro a w' hp
                  have e107 : a.eval (.tmp 107) = .slice (some ⟨ba, oa, none⟩) k3 c3 := hp.at_ 34 (by rfl)
                  have e108 : a.eval (.tmp 108) = .int .i64 (j : Int) := hp.at_ 35 (by rfl)
                  refine Rg.step_run (v := .pointer (some ⟨ba, oa + j * 12, none⟩)) (w' := w') rfl (Rg.wanted_some (g := 33) (b := false) (d := 106) rfl (by rfl) (hp.at_ 33 (by rfl))) (by simp) ?_ rfl (Below.refl _ _)
                  clear hp
                  obtain ⟨ec, eg, ef⟩ := Rg.eval_at a
                  generalize a.eval = ρ at *
                  go_simp
                case s37 =>
                  intro a w' hp
                  have e109 : a.eval (.tmp 109) = .pointer (some ⟨ba, oa + j * 12, none⟩) := hp.at_ 36 (by rfl)
                  refine Rg.step_run (v := .pointer (some ⟨ba, oa + j * 12 + 5, none⟩)) (w' := w') rfl (Rg.wanted_some (g := 33) (b := false) (d := 106) rfl (by rfl) (hp.at_ 33 (by rfl))) (by simp) ?_ rfl (Below.refl _ _)
                  clear hp
                  obtain ⟨ec, eg, ef⟩ := Rg.eval_at a
                  generalize a.eval = ρ at *
                  go_simp
                case s38 =>
                  intro a w' hp
                  have e110 : a.eval (.tmp 110) = .pointer (some ⟨ba, oa + j * 12 + 5, none⟩) := hp.at_ 37 (by rfl)
                  have tq0 := (hp.grew.cell (p := ⟨ba, oa + j * 12 + 5, none⟩) hbaw).trans t5
                  refine Rg.step_run (v := .int .i64 x.prio) (w' := w') rfl (Rg.wanted_some (g := 33) (b := false) (d := 106) rfl (by rfl) (hp.at_ 33 (by rfl))) (by simp) ?_ rfl (Below.refl _ _)
                  clear hp
                  obtain ⟨ec, eg, ef⟩ := Rg.eval_at a
                  generalize a.eval = ρ at *
                  go_simp
                case s39 =>
                  intro a w' hp
                  have e15 : a.eval (.tmp 15) = .slice (some ⟨ba, oa, none⟩) k3 c3 := hp.rest 15 (by rfl)
                  exact Rg.step_run (v := a.eval (.tmp 15)) (w' := w') rfl (Rg.wanted_some (g := 33) (b := false) (d := 106) rfl (by rfl) (hp.at_ 33 (by rfl))) (by simp) rfl e15 (Below.refl _ _)
                case s40 =>
                  intro a w' hp
                  have e16 : a.eval (.tmp 16) = .int .i64 (j : Int) := hp.rest 16 (by rfl)
                  exact Rg.step_run (v := a.eval (.tmp 16)) (w' := w') rfl (Rg.wanted_some (g := 33) (b := false) (d := 106) rfl (by rfl) (hp.at_ 33 (by rfl))) (by simp) rfl e16 (Below.refl _ _)
                case s41 =>
                  intro a w' hp
                  have e113 : a.eval (.tmp 113) = .int .i64 (j : Int) := hp.at_ 40 (by rfl)
                  have hwi : IntKind.i64.wrap ((j : Int) - 1) = (j : Int) - 1 := wrapQ (by omega) (by omega)
                  refine Rg.step_run (v := .int .i64 ((j : Int) - 1)) (w' := w') rfl (Rg.wanted_some (g := 33) (b := false) (d := 106) rfl (by rfl) (hp.at_ 33 (by rfl))) (by simp) ?_ rfl (Below.refl _ _)
                  clear hp
                  obtain ⟨ec, eg, ef⟩ := Rg.eval_at a
                  generalize a.eval = ρ at *
                  go_simp
                case s42 =>
                  intro a w' hp
                  have e112 : a.eval (.tmp 112) = .slice (some ⟨ba, oa, none⟩) k3 c3 := hp.at_ 39 (by rfl)
                  have e114 : a.eval (.tmp 114) = .int .i64 ((j : Int) - 1) := hp.at_ 41 (by rfl)
                  have hge : ¬ (j : Int) < 1 := by omega
                  refine Rg.step_run (v := .pointer (some ⟨ba, oa + (j - 1) * 12, none⟩)) (w' := w') rfl (Rg.wanted_some (g := 33) (b := false) (d := 106) rfl (by rfl) (hp.at_ 33 (by rfl))) (by simp) ?_ rfl (Below.refl _ _)
                  clear hp
                  obtain ⟨ec, eg, ef⟩ := Rg.eval_at a
                  generalize a.eval = ρ at *
                  go_simp
                case s43 =>
                  intro a w' hp
                  have e115 : a.eval (.tmp 115) = .pointer (some ⟨ba, oa + (j - 1) * 12, none⟩) := hp.at_ 42 (by rfl)
                  refine Rg.step_run (v := .pointer (some ⟨ba, oa + (j - 1) * 12 + 5, none⟩)) (w' := w') rfl (Rg.wanted_some (g := 33) (b := false) (d := 106) rfl (by rfl) (hp.at_ 33 (by rfl))) (by simp) ?_ rfl (Below.refl _ _)
                  clear hp
                  obtain ⟨ec, eg, ef⟩ := Rg.eval_at a
                  generalize a.eval = ρ at *
                  go_simp
                case s44 =>
                  intro a w' hp
                  have e116 : a.eval (.tmp 116) = .pointer (some ⟨ba, oa + (j - 1) * 12 + 5, none⟩) := hp.at_ 43 (by rfl)
                  have tq0 := (hp.grew.cell (p := ⟨ba, oa + (j - 1) * 12 + 5, none⟩) hbaw).trans s5
                  refine Rg.step_run (v := .int .i64 py) (w' := w') rfl (Rg.wanted_some (g := 33) (b := false) (d := 106) rfl (by rfl) (hp.at_ 33 (by rfl))) (by simp) ?_ rfl (Below.refl _ _)
                  clear hp
                  obtain ⟨ec, eg, ef⟩ := Rg.eval_at a
                  generalize a.eval = ρ at *
                  go_simp
                case s45 =>
                  intro a w' hp
                  have e111 : a.eval (.tmp 111) = .int .i64 x.prio := hp.at_ 38 (by rfl)
                  have e117 : a.eval (.tmp 117) = .int .i64 py := hp.at_ 44 (by rfl)
                  refine Rg.step_run (v := .bool true) (w' := w') rfl (Rg.wanted_some (g := 33) (b := false) (d := 106) rfl (by rfl) (hp.at_ 33 (by rfl))) (by simp) ?_ rfl (Below.refl _ _)
                  clear hp
                  obtain ⟨ec, eg, ef⟩ := Rg.eval_at a
                  generalize a.eval = ρ at *
                  go_simp
                case s46 =>
                  intro a w' hp
                  have e118 : a.eval (.tmp 118) = .bool true := hp.at_ 45 (by rfl)
                  exact Rg.step_run (v := a.eval (.tmp 118)) (w' := w') rfl (Rg.wanted_some (g := 33) (b := false) (d := 106) rfl (by rfl) (hp.at_ 33 (by rfl))) (by simp) rfl e118 (Below.refl _ _)
                case s47 =>
                  intro a w' hp
                  have e15 : a.eval (.tmp 15) = .slice (some ⟨ba, oa, none⟩) k3 c3 := hp.rest 15 (by rfl)
                  exact Rg.step_run (v := a.eval (.tmp 15)) (w' := w') rfl (Rg.wanted_some (g := 46) (b := true) (d := 119) rfl (by rfl) (hp.at_ 46 (by rfl))) (by simp) rfl e15 (Below.refl _ _)
                case s48 =>
                  intro a w' hp
                  have e16 : a.eval (.tmp 16) = .int .i64 (j : Int) := hp.rest 16 (by rfl)
                  exact Rg.step_run (v := a.eval (.tmp 16)) (w' := w') rfl (Rg.wanted_some (g := 46) (b := true) (d := 119) rfl (by rfl) (hp.at_ 46 (by rfl))) (by simp) rfl e16 (Below.refl _ _)
                case s49 =>
                  intro a w' hp
                  have e120 : a.eval (.tmp 120) = .slice (some ⟨ba, oa, none⟩) k3 c3 := hp.at_ 47 (by rfl)
                  have e121 : a.eval (.tmp 121) = .int .i64 (j : Int) := hp.at_ 48 (by rfl)
                  refine Rg.step_run (v := .pointer (some ⟨ba, oa + j * 12, none⟩)) (w' := w') rfl (Rg.wanted_some (g := 46) (b := true) (d := 119) rfl (by rfl) (hp.at_ 46 (by rfl))) (by simp) ?_ rfl (Below.refl _ _)
                  clear hp
                  obtain ⟨ec, eg, ef⟩ := Rg.eval_at a
                  generalize a.eval = ρ at *
                  go_simp
                case s50 =>
                  intro a w' hp
                  have e122 : a.eval (.tmp 122) = .pointer (some ⟨ba, oa + j * 12, none⟩) := hp.at_ 49 (by rfl)
                  refine Rg.step_run (v := .pointer (some ⟨ba, oa + j * 12, none⟩)) (w' := w') rfl (Rg.wanted_some (g := 46) (b := true) (d := 119) rfl (by rfl) (hp.at_ 46 (by rfl))) (by simp) ?_ rfl (Below.refl _ _)
                  clear hp
                  obtain ⟨ec, eg, ef⟩ := Rg.eval_at a
                  generalize a.eval = ρ at *
                  go_simp
                case s51 =>
                  intro a w' hp
                  have e123 : a.eval (.tmp 123) = .pointer (some ⟨ba, oa + j * 12, none⟩) := hp.at_ 50 (by rfl)
                  have tq0 := (hp.grew.cell (p := ⟨ba, oa + j * 12, none⟩) hbaw).trans t0
                  refine Rg.step_run (v := .int .i64 x.id) (w' := w') rfl (Rg.wanted_some (g := 46) (b := true) (d := 119) rfl (by rfl) (hp.at_ 46 (by rfl))) (by simp) ?_ rfl (Below.refl _ _)
                  clear hp
                  obtain ⟨ec, eg, ef⟩ := Rg.eval_at a
                  generalize a.eval = ρ at *
                  go_simp
                case s52 =>
                  intro a w' hp
                  have e15 : a.eval (.tmp 15) = .slice (some ⟨ba, oa, none⟩) k3 c3 := hp.rest 15 (by rfl)
                  exact Rg.step_run (v := a.eval (.tmp 15)) (w' := w') rfl (Rg.wanted_some (g := 46) (b := true) (d := 119) rfl (by rfl) (hp.at_ 46 (by rfl))) (by simp) rfl e15 (Below.refl _ _)
                case s53 =>
                  intro a w' hp
                  have e16 : a.eval (.tmp 16) = .int .i64 (j : Int) := hp.rest 16 (by rfl)
                  exact Rg.step_run (v := a.eval (.tmp 16)) (w' := w') rfl (Rg.wanted_some (g := 46) (b := true) (d := 119) rfl (by rfl) (hp.at_ 46 (by rfl))) (by simp) rfl e16 (Below.refl _ _)
                case s54 =>
                  intro a w' hp
                  have e126 : a.eval (.tmp 126) = .int .i64 (j : Int) := hp.at_ 53 (by rfl)
                  have hwi : IntKind.i64.wrap ((j : Int) - 1) = (j : Int) - 1 := wrapQ (by omega) (by omega)
                  refine Rg.step_run (v := .int .i64 ((j : Int) - 1)) (w' := w') rfl (Rg.wanted_some (g := 46) (b := true) (d := 119) rfl (by rfl) (hp.at_ 46 (by rfl))) (by simp) ?_ rfl (Below.refl _ _)
                  clear hp
                  obtain ⟨ec, eg, ef⟩ := Rg.eval_at a
                  generalize a.eval = ρ at *
                  go_simp
                case s55 =>
                  intro a w' hp
                  have e125 : a.eval (.tmp 125) = .slice (some ⟨ba, oa, none⟩) k3 c3 := hp.at_ 52 (by rfl)
                  have e127 : a.eval (.tmp 127) = .int .i64 ((j : Int) - 1) := hp.at_ 54 (by rfl)
                  have hge : ¬ (j : Int) < 1 := by omega
                  refine Rg.step_run (v := .pointer (some ⟨ba, oa + (j - 1) * 12, none⟩)) (w' := w') rfl (Rg.wanted_some (g := 46) (b := true) (d := 119) rfl (by rfl) (hp.at_ 46 (by rfl))) (by simp) ?_ rfl (Below.refl _ _)
                  clear hp
                  obtain ⟨ec, eg, ef⟩ := Rg.eval_at a
                  generalize a.eval = ρ at *
                  go_simp
                case s56 =>
                  intro a w' hp
                  have e128 : a.eval (.tmp 128) = .pointer (some ⟨ba, oa + (j - 1) * 12, none⟩) := hp.at_ 55 (by rfl)
                  refine Rg.step_run (v := .pointer (some ⟨ba, oa + (j - 1) * 12, none⟩)) (w' := w') rfl (Rg.wanted_some (g := 46) (b := true) (d := 119) rfl (by rfl) (hp.at_ 46 (by rfl))) (by simp) ?_ rfl (Below.refl _ _)
                  clear hp
                  obtain ⟨ec, eg, ef⟩ := Rg.eval_at a
                  generalize a.eval = ρ at *
                  go_simp
                case s57 =>
                  intro a w' hp
                  have e129 : a.eval (.tmp 129) = .pointer (some ⟨ba, oa + (j - 1) * 12, none⟩) := hp.at_ 56 (by rfl)
                  have tq0 := (hp.grew.cell (p := ⟨ba, oa + (j - 1) * 12, none⟩) hbaw).trans s0
                  refine Rg.step_run (v := .int .i64 iy) (w' := w') rfl (Rg.wanted_some (g := 46) (b := true) (d := 119) rfl (by rfl) (hp.at_ 46 (by rfl))) (by simp) ?_ rfl (Below.refl _ _)
                  clear hp
                  obtain ⟨ec, eg, ef⟩ := Rg.eval_at a
                  generalize a.eval = ρ at *
                  go_simp
                case s58 =>
                  intro a w' hp
                  have e124 : a.eval (.tmp 124) = .int .i64 x.id := hp.at_ 51 (by rfl)
                  have e130 : a.eval (.tmp 130) = .int .i64 iy := hp.at_ 57 (by rfl)
                  refine Rg.step_run (v := .bool false) (w' := w') rfl (Rg.wanted_some (g := 46) (b := true) (d := 119) rfl (by rfl) (hp.at_ 46 (by rfl))) (by simp) ?_ rfl (Below.refl _ _)
                  clear hp
                  obtain ⟨ec, eg, ef⟩ := Rg.eval_at a
                  generalize a.eval = ρ at *
                  go_simp
                case s59 =>
                  intro a w' hp
                  have e119 : a.eval (.tmp 119) = .bool true := hp.at_ 46 (by rfl)
                  have e131 : a.eval (.tmp 131) = .bool false := hp.at_ 58 (by rfl)
                  refine Rg.step_run (v := .bool false) (w' := w') rfl (Rg.wanted_some (g := 33) (b := false) (d := 106) rfl (by rfl) (hp.at_ 33 (by rfl))) (by simp) ?_ rfl (Below.refl _ _)
                  clear hp
                  obtain ⟨ec, eg, ef⟩ := Rg.eval_at a
                  generalize a.eval = ρ at *
                  go_simp
                case s60 =>
                  intro a w' hp
                  have e106 : a.eval (.tmp 106) = .bool false := hp.at_ 33 (by rfl)
                  have e132 : a.eval (.tmp 132) = .bool false := hp.at_ 59 (by rfl)
                  refine Rg.step_run (v := .bool false) (w' := w') rfl (Rg.wanted_some (g := 20) (b := true) (d := 93) rfl (by rfl) (hp.at_ 20 (by rfl))) (by simp) ?_ rfl (Below.refl _ _)
                  clear hp
                  obtain ⟨ec, eg, ef⟩ := Rg.eval_at a
                  generalize a.eval = ρ at *
                  go_simp
                case s61 =>
                  intro a w' hp
                  have e93 : a.eval (.tmp 93) = .bool true := hp.at_ 20 (by rfl)
                  have e133 : a.eval (.tmp 133) = .bool false := hp.at_ 60 (by rfl)
                  refine Rg.step_run (v := .bool false) (w' := w') rfl (Rg.wanted_some (g := 17) (b := false) (d := 90) rfl (by rfl) (hp.at_ 17 (by rfl))) (by simp) ?_ rfl (Below.refl _ _)
                  clear hp
                  obtain ⟨ec, eg, ef⟩ := Rg.eval_at a
                  generalize a.eval = ρ at *
                  go_simp
                case s62 =>
                  intro a w' hp
                  have e90 : a.eval (.tmp 90) = .bool false := hp.at_ 17 (by rfl)
                  have e134 : a.eval (.tmp 134) = .bool false := hp.at_ 61 (by rfl)
                  refine Rg.step_run (v := .bool false) (w' := w') rfl (Rg.wanted_none rfl) (by simp) ?_ rfl (Below.refl _ _)
                  clear hp
                  obtain ⟨ec, eg, ef⟩ := Rg.eval_at a
                  generalize a.eval = ρ at *
                  go_simp
                case mono =>
                  refine Rg.mono_getD _ ?_
                  intro p hp
                  repeat (rcases List.mem_cons.1 hp with rfl | hp; exact Rg.mono_eq _)
                  cases hp
                case fin =>
                  intro a w' hsz hdf hrest hdone hbf
                  have hv : a.tmps.getD 135 undef = .bool false := hdone 62 (by decide)
                  have ha := Rg.act_puts hsz hdf hrest [73, 74, 75, 76, 77, 78, 79, 80, 81, 82, 83, 84, 85, 86, 87, 88, 89, 90, 91, 92, 93, 94, 95, 96, 97, 98, 99, 100, 101, 102, 103, 104, 105, 106, 107, 108, 109, 110, 111, 112, 113, 114, 115, 116, 117, 118, 119, 120, 121, 122, 123, 124, 125, 126, 127, 128, 129, 130, 131, 132, 133, 134, 135] (by kernel_rfl)
                  simp only [List.foldl_cons, List.foldl_nil, Act.put, List.setIfInBounds_toArray, List.set_cons_zero, List.set_cons_succ] at ha
                  rw [hv] at ha
                  clear hsz hdf hrest hdone hv
                  rw [ha]
                  clear ha
                  go_wp2
                  go_roundw
                  case rel => exact ⟨j + 1, by first | rfl | go_num, by omega, HBX.out.trans (hbf.mono HBX.out.size)⟩
                  case measure =>
                    simp only [intOf]
                    omega
              · clear ho1 ho2
                refine Rg.region_each (by kernel_rfl) (fun i => ([
                    (fun v _ => v = .slice (some ⟨ba, oa, none⟩) k3 c3),
                    (fun v _ => v = .int .i64 (j : Int)),
                    (fun v _ => v = .pointer (some ⟨ba, oa + j * 12, none⟩)),
                    (fun v _ => v = .agg #[.int .i64 x.id, .int .i64 x.ins, .int .i64 x.tok, .int .i64 x.nod, .string x.top, .int .i64 x.prio, .string x.wkr, .int .i64 x.epo, .int .i64 x.exp, .int .i64 x.aft, .int .i64 x.ret, .bool x.bro]),
                    (fun v _ => v = .int .i64 t),
                    (fun v _ => v = .bool true),
                    (fun v _ => v = .bool false),
                    (fun v _ => v = .bool false),
                    (fun v _ => v = .slice A k c),
                    (fun v _ => v = .slice (some ⟨ba, oa, none⟩) k3 c3),
                    (fun v _ => v = .int .i64 (j : Int)),
                    (fun v _ => v = .pointer (some ⟨ba, oa + j * 12, none⟩)),
                    (fun v _ => v = .pointer (some ⟨ba, oa + j * 12 + 4, none⟩)),
                    (fun v _ => v = .string x.top),
                    (fun v _ => v = .bool true),
                    (fun v _ => v = .bool false),
                    (fun v _ => v = .bool false),
                    (fun v _ => v = .bool false),
                    (fun v _ => v = .int .i64 (j : Int)),
                    (fun v _ => v = .bool true),
                    (fun v _ => v = .bool true),
                    (fun v _ => v = .slice (some ⟨ba, oa, none⟩) k3 c3),
                    (fun v _ => v = .int .i64 (j : Int)),
                    (fun v _ => v = .pointer (some ⟨ba, oa + j * 12, none⟩)),
                    (fun v _ => v = .pointer (some ⟨ba, oa + j * 12 + 5, none⟩)),
                    (fun v _ => v = .int .i64 x.prio),
                    (fun v _ => v = .slice (some ⟨ba, oa, none⟩) k3 c3),
                    (fun v _ => v = .int .i64 (j : Int)),
                    (fun v _ => v = .int .i64 ((j : Int) - 1)),
                    (fun v _ => v = .pointer (some ⟨ba, oa + (j - 1) * 12, none⟩)),
                    (fun v _ => v = .pointer (some ⟨ba, oa + (j - 1) * 12 + 5, none⟩)),
                    (fun v _ => v = .int .i64 py),
                    (fun v _ => v = .bool false),
                    (fun v _ => v = .bool false),
                    (fun v _ => v = .slice (some ⟨ba, oa, none⟩) k3 c3),
                    (fun v _ => v = .int .i64 (j : Int)),
                    (fun v _ => v = .pointer (some ⟨ba, oa + j * 12, none⟩)),
                    (fun v _ => v = .pointer (some ⟨ba, oa + j * 12 + 5, none⟩)),
                    (fun v _ => v = .int .i64 x.prio),
                    (fun v _ => v = .slice (some ⟨ba, oa, none⟩) k3 c3),
                    (fun v _ => v = .int .i64 (j : Int)),
                    (fun v _ => v = .int .i64 ((j : Int) - 1)),
                    (fun v _ => v = .pointer (some ⟨ba, oa + (j - 1) * 12, none⟩)),
                    (fun v _ => v = .pointer (some ⟨ba, oa + (j - 1) * 12 + 5, none⟩)),
                    (fun v _ => v = .int .i64 py),
                    (fun v _ => v = .bool false),
                    (fun v _ => v = .bool false),
                    (fun v _ => v = undef),
                    (fun v _ => v = undef),
                    (fun v _ => v = undef),
                    (fun v _ => v = undef),
                    (fun v _ => v = undef),
                    (fun v _ => v = undef),
                    (fun v _ => v = undef),
                    (fun v _ => v = undef),
                    (fun v _ => v = undef),
                    (fun v _ => v = undef),
                    (fun v _ => v = undef),
                    (fun v _ => v = undef),
                    (fun v _ => v = .bool false),
                    (fun v _ => v = .bool false),
                    (fun v _ => v = .bool false),
                    (fun v _ => v = .bool false)
                    ] : List (Value → World → Prop)).getD i (fun _ _ => True)) (by kernel_rfl) ?mono (Rg.by_each _ ⟨?s0, ?s1, ?s2, ?s3, ?s4, ?s5, ?s6, ?s7, ?s8, ?s9, ?s10, ?s11, ?s12, ?s13, ?s14, ?s15, ?s16, ?s17, ?s18, ?s19, ?s20, ?s21, ?s22, ?s23, ?s24, ?s25, ?s26, ?s27, ?s28, ?s29, ?s30, ?s31, ?s32, ?s33, ?s34, ?s35, ?s36, ?s37, ?s38, ?s39, ?s40, ?s41, ?s42, ?s43, ?s44, ?s45, ?s46, ?s47, ?s48, ?s49, ?s50, ?s51, ?s52, ?s53, ?s54, ?s55, ?s56, ?s57, ?s58, ?s59, ?s60, ?s61, ?s62, trivial⟩) ?fin
                case s0 =>
                  intro a w' hp
                  have e15 : a.eval (.tmp 15) = .slice (some ⟨ba, oa, none⟩) k3 c3 := hp.rest 15 (by rfl)
                  exact Rg.step_run (v := a.eval (.tmp 15)) (w' := w') rfl (Rg.wanted_none rfl) (by simp) rfl e15 (Below.refl _ _)
                case s1 =>
                  intro a w' hp
                  have e16 : a.eval (.tmp 16) = .int .i64 (j : Int) := hp.rest 16 (by rfl)
                  exact Rg.step_run (v := a.eval (.tmp 16)) (w' := w') rfl (Rg.wanted_none rfl) (by simp) rfl e16 (Below.refl _ _)
                case s2 =>
                  intro a w' hp
                  have e73 : a.eval (.tmp 73) = .slice (some ⟨ba, oa, none⟩) k3 c3 := hp.at_ 0 (by rfl)
                  have e74 : a.eval (.tmp 74) = .int .i64 (j : Int) := hp.at_ 1 (by rfl)
                  refine Rg.step_run (v := .pointer (some ⟨ba, oa + j * 12, none⟩)) (w' := w') rfl (Rg.wanted_none rfl) (by simp) ?_ rfl (Below.refl _ _)
                  clear hp
                  obtain ⟨ec, eg, ef⟩ := Rg.eval_at a
                  generalize a.eval = ρ at *
                  go_simp
                case s3 =>
                  intro a w' hp
                  have e75 : a.eval (.tmp 75) = .pointer (some ⟨ba, oa + j * 12, none⟩) := hp.at_ 2 (by rfl)
                  have tq0 := (hp.grew.cell (p := ⟨ba, oa + j * 12, none⟩) hbaw).trans t0
                  have tq1 := (hp.grew.cell (p := ⟨ba, oa + j * 12 + 1, none⟩) hbaw).trans t1
                  have tq2 := (hp.grew.cell (p := ⟨ba, oa + j * 12 + 2, none⟩) hbaw).trans t2
                  have tq3 := (hp.grew.cell (p := ⟨ba, oa + j * 12 + 3, none⟩) hbaw).trans t3
                  have tq4 := (hp.grew.cell (p := ⟨ba, oa + j * 12 + 4, none⟩) hbaw).trans t4
                  have tq5 := (hp.grew.cell (p := ⟨ba, oa + j * 12 + 5, none⟩) hbaw).trans t5
                  have tq6 := (hp.grew.cell (p := ⟨ba, oa + j * 12 + 6, none⟩) hbaw).trans t6
                  have tq7 := (hp.grew.cell (p := ⟨ba, oa + j * 12 + 7, none⟩) hbaw).trans t7
                  have tq8 := (hp.grew.cell (p := ⟨ba, oa + j * 12 + 8, none⟩) hbaw).trans t8
                  have tq9 := (hp.grew.cell (p := ⟨ba, oa + j * 12 + 9, none⟩) hbaw).trans t9
                  have tq10 := (hp.grew.cell (p := ⟨ba, oa + j * 12 + 10, none⟩) hbaw).trans t10
                  have tq11 := (hp.grew.cell (p := ⟨ba, oa + j * 12 + 11, none⟩) hbaw).trans t11
                  refine Rg.step_run (v := .agg #[.int .i64 x.id, .int .i64 x.ins, .int .i64 x.tok, .int .i64 x.nod, .string x.top, .int .i64 x.prio, .string x.wkr, .int .i64 x.epo, .int .i64 x.exp, .int .i64 x.aft, .int .i64 x.ret, .bool x.bro]) (w' := w') rfl (Rg.wanted_none rfl) (by simp) ?_ rfl (Below.refl _ _)
                  clear hp
                  obtain ⟨ec, eg, ef⟩ := Rg.eval_at a
                  generalize a.eval = ρ at *
                  go_simp
                case s4 =>
                  intro a w' hp
                  have e2 : a.eval (.tmp 2) = .int .i64 t := hp.rest 2 (by rfl)
                  exact Rg.step_run (v := a.eval (.tmp 2)) (w' := w') rfl (Rg.wanted_none rfl) (by simp) rfl e2 (Below.refl _ _)
                case s5 =>
                  intro a w' hp
                  have e76 : a.eval (.tmp 76) = .agg #[.int .i64 x.id, .int .i64 x.ins, .int .i64 x.tok, .int .i64 x.nod, .string x.top, .int .i64 x.prio, .string x.wkr, .int .i64 x.epo, .int .i64 x.exp, .int .i64 x.aft, .int .i64 x.ret, .bool x.bro] := hp.at_ 3 (by rfl)
                  have e77 : a.eval (.tmp 77) = .int .i64 t := hp.at_ 4 (by rfl)
                  refine Rg.step_call (f := 24) (args := #[.agg #[.int .i64 x.id, .int .i64 x.ins, .int .i64 x.tok, .int .i64 x.nod, .string x.top, .int .i64 x.prio, .string x.wkr, .int .i64 x.epo, .int .i64 x.exp, .int .i64 x.aft, .int .i64 x.ret, .bool x.bro], .int .i64 t]) rfl (Rg.wanted_none rfl) (by simp) (by clear hp; obtain ⟨ec, eg, ef⟩ := Rg.eval_at a; generalize a.eval = ρ at *; go_simp) ?_
                  refine (FR.out w').mono ?_
                  rintro e w2' ⟨rfl, hb2⟩
                  exact ⟨_, rfl, rfl, hb2⟩
                case s6 =>
                  intro a w' hp
                  have e78 : a.eval (.tmp 78) = .bool true := hp.at_ 5 (by rfl)
                  refine Rg.step_run (v := .bool false) (w' := w') rfl (Rg.wanted_none rfl) (by simp) ?_ rfl (Below.refl _ _)
                  clear hp
                  obtain ⟨ec, eg, ef⟩ := Rg.eval_at a
                  generalize a.eval = ρ at *
                  go_simp
                case s7 =>
                  intro a w' hp
                  have e79 : a.eval (.tmp 79) = .bool false := hp.at_ 6 (by rfl)
                  exact Rg.step_run (v := a.eval (.tmp 79)) (w' := w') rfl (Rg.wanted_none rfl) (by simp) rfl e79 (Below.refl _ _)
                case s8 =>
                  intro a w' hp
                  have e14 : a.eval (.tmp 14) = .slice A k c := hp.rest 14 (by rfl)
                  exact Rg.step_run (v := a.eval (.tmp 14)) (w' := w') rfl (Rg.wanted_some (g := 7) (b := false) (d := 80) rfl (by rfl) (hp.at_ 7 (by rfl))) (by simp) rfl e14 (Below.refl _ _)
                case s9 =>
                  intro a w' hp
                  have e15 : a.eval (.tmp 15) = .slice (some ⟨ba, oa, none⟩) k3 c3 := hp.rest 15 (by rfl)
                  exact Rg.step_run (v := a.eval (.tmp 15)) (w' := w') rfl (Rg.wanted_some (g := 7) (b := false) (d := 80) rfl (by rfl) (hp.at_ 7 (by rfl))) (by simp) rfl e15 (Below.refl _ _)
                case s10 =>
                  intro a w' hp
                  have e16 : a.eval (.tmp 16) = .int .i64 (j : Int) := hp.rest 16 (by rfl)
                  exact Rg.step_run (v := a.eval (.tmp 16)) (w' := w') rfl (Rg.wanted_some (g := 7) (b := false) (d := 80) rfl (by rfl) (hp.at_ 7 (by rfl))) (by simp) rfl e16 (Below.refl _ _)
                case s11 =>
                  intro a w' hp
                  have e82 : a.eval (.tmp 82) = .slice (some ⟨ba, oa, none⟩) k3 c3 := hp.at_ 9 (by rfl)
                  have e83 : a.eval (.tmp 83) = .int .i64 (j : Int) := hp.at_ 10 (by rfl)
                  refine Rg.step_run (v := .pointer (some ⟨ba, oa + j * 12, none⟩)) (w' := w') rfl (Rg.wanted_some (g := 7) (b := false) (d := 80) rfl (by rfl) (hp.at_ 7 (by rfl))) (by simp) ?_ rfl (Below.refl _ _)
                  clear hp
                  obtain ⟨ec, eg, ef⟩ := Rg.eval_at a
                  generalize a.eval = ρ at *
                  go_simp
                case s12 =>
                  intro a w' hp
                  have e84 : a.eval (.tmp 84) = .pointer (some ⟨ba, oa + j * 12, none⟩) := hp.at_ 11 (by rfl)
                  refine Rg.step_run (v := .pointer (some ⟨ba, oa + j * 12 + 4, none⟩)) (w' := w') rfl (Rg.wanted_some (g := 7) (b := false) (d := 80) rfl (by rfl) (hp.at_ 7 (by rfl))) (by simp) ?_ rfl (Below.refl _ _)
                  clear hp
                  obtain ⟨ec, eg, ef⟩ := Rg.eval_at a
                  generalize a.eval = ρ at *
                  go_simp
                case s13 =>
                  intro a w' hp
                  have e85 : a.eval (.tmp 85) = .pointer (some ⟨ba, oa + j * 12 + 4, none⟩) := hp.at_ 12 (by rfl)
                  have tq0 := (hp.grew.cell (p := ⟨ba, oa + j * 12 + 4, none⟩) hbaw).trans t4
                  refine Rg.step_run (v := .string x.top) (w' := w') rfl (Rg.wanted_some (g := 7) (b := false) (d := 80) rfl (by rfl) (hp.at_ 7 (by rfl))) (by simp) ?_ rfl (Below.refl _ _)
                  clear hp
                  obtain ⟨ec, eg, ef⟩ := Rg.eval_at a
                  generalize a.eval = ρ at *
                  go_simp
                case s14 =>
                  intro a w' hp
                  have e81 : a.eval (.tmp 81) = .slice A k c := hp.at_ 8 (by rfl)
                  have e86 : a.eval (.tmp 86) = .string x.top := hp.at_ 13 (by rfl)
                  have hg : Below w3.heap.size w3 w' := HBX.out.trans (((Below.refl wr.heap.size wr).drew.trans hp.grew).mono HBX.out.size)
                  refine Rg.step_call (f := 25) (args := #[.slice A k c, .string x.top]) rfl (Rg.wanted_some (g := 7) (b := false) (d := 80) rfl (by rfl) (hp.at_ 7 (by rfl))) (by simp) (by clear hp; obtain ⟨ec, eg, ef⟩ := Rg.eval_at a; generalize a.eval = ρ at *; go_simp) ?_
                  refine (HT.out w' hg).mono ?_
                  rintro e w2' ⟨rfl, rfl⟩
                  exact ⟨_, rfl, rfl, Below.refl _ _⟩
                case s15 =>
                  intro a w' hp
                  have e87 : a.eval (.tmp 87) = .bool true := hp.at_ 14 (by rfl)
                  refine Rg.step_run (v := .bool false) (w' := w') rfl (Rg.wanted_some (g := 7) (b := false) (d := 80) rfl (by rfl) (hp.at_ 7 (by rfl))) (by simp) ?_ rfl (Below.refl _ _)
                  clear hp
                  obtain ⟨ec, eg, ef⟩ := Rg.eval_at a
                  generalize a.eval = ρ at *
                  go_simp
                case s16 =>
                  intro a w' hp
                  have e80 : a.eval (.tmp 80) = .bool false := hp.at_ 7 (by rfl)
                  have e88 : a.eval (.tmp 88) = .bool false := hp.at_ 15 (by rfl)
                  refine Rg.step_run (v := .bool false) (w' := w') rfl (Rg.wanted_none rfl) (by simp) ?_ rfl (Below.refl _ _)
                  clear hp
                  obtain ⟨ec, eg, ef⟩ := Rg.eval_at a
                  generalize a.eval = ρ at *
                  go_simp
                case s17 =>
                  intro a w' hp
                  have e89 : a.eval (.tmp 89) = .bool false := hp.at_ 16 (by rfl)
                  exact Rg.step_run (v := a.eval (.tmp 89)) (w' := w') rfl (Rg.wanted_none rfl) (by simp) rfl e89 (Below.refl _ _)
                case s18 =>
                  intro a w' hp
                  have e16 : a.eval (.tmp 16) = .int .i64 (j : Int) := hp.rest 16 (by rfl)
                  exact Rg.step_run (v := a.eval (.tmp 16)) (w' := w') rfl (Rg.wanted_some (g := 17) (b := false) (d := 90) rfl (by rfl) (hp.at_ 17 (by rfl))) (by simp) rfl e16 (Below.refl _ _)
                case s19 =>
                  intro a w' hp
                  have e91 : a.eval (.tmp 91) = .int .i64 (j : Int) := hp.at_ 18 (by rfl)
                  refine Rg.step_run (v := .bool true) (w' := w') rfl (Rg.wanted_some (g := 17) (b := false) (d := 90) rfl (by rfl) (hp.at_ 17 (by rfl))) (by simp) ?_ rfl (Below.refl _ _)
                  clear hp
                  obtain ⟨ec, eg, ef⟩ := Rg.eval_at a
                  generalize a.eval = ρ at *
                  go_simp
                case s20 =>
                  intro a w' hp
                  have e92 : a.eval (.tmp 92) = .bool true := hp.at_ 19 (by rfl)
                  exact Rg.step_run (v := a.eval (.tmp 92)) (w' := w') rfl (Rg.wanted_some (g := 17) (b := false) (d := 90) rfl (by rfl) (hp.at_ 17 (by rfl))) (by simp) rfl e92 (Below.refl _ _)
                case s21 =>
                  intro a w' hp
                  have e15 : a.eval (.tmp 15) = .slice (some ⟨ba, oa, none⟩) k3 c3 := hp.rest 15 (by rfl)
                  exact Rg.step_run (v := a.eval (.tmp 15)) (w' := w') rfl (Rg.wanted_some (g := 20) (b := true) (d := 93) rfl (by rfl) (hp.at_ 20 (by rfl))) (by simp) rfl e15 (Below.refl _ _)
                case s22 =>
                  intro a w' hp
                  have e16 : a.eval (.tmp 16) = .int .i64 (j : Int) := hp.rest 16 (by rfl)
                  exact Rg.step_run (v := a.eval (.tmp 16)) (w' := w') rfl (Rg.wanted_some (g := 20) (b := true) (d := 93) rfl (by rfl) (hp.at_ 20 (by rfl))) (by simp) rfl e16 (Below.refl _ _)
                case s23 =>
                  intro a w' hp
                  have e94 : a.eval (.tmp 94) = .slice (some ⟨ba, oa, none⟩) k3 c3 := hp.at_ 21 (by rfl)
                  have e95 : a.eval (.tmp 95) = .int .i64 (j : Int) := hp.at_ 22 (by rfl)
                  refine Rg.step_run (v := .pointer (some ⟨ba, oa + j * 12, none⟩)) (w' := w') rfl (Rg.wanted_some (g := 20) (b := true) (d := 93) rfl (by rfl) (hp.at_ 20 (by rfl))) (by simp) ?_ rfl (Below.refl _ _)
                  clear hp
                  obtain ⟨ec, eg, ef⟩ := Rg.eval_at a
                  generalize a.eval = ρ at *
                  go_simp
                case s24 =>
                  intro a w' hp
                  have e96 : a.eval (.tmp 96) = .pointer (some ⟨ba, oa + j * 12, none⟩) := hp.at_ 23 (by rfl)
                  refine Rg.step_run (v := .pointer (some ⟨ba, oa + j * 12 + 5, none⟩)) (w' := w') rfl (Rg.wanted_some (g := 20) (b := true) (d := 93) rfl (by rfl) (hp.at_ 20 (by rfl))) (by simp) ?_ rfl (Below.refl _ _)
                  clear hp
                  obtain ⟨ec, eg, ef⟩ := Rg.eval_at a
                  generalize a.eval = ρ at *
                  go_simp
                case s25 =>
                  intro a w' hp
                  have e97 : a.eval (.tmp 97) = .pointer (some ⟨ba, oa + j * 12 + 5, none⟩) := hp.at_ 24 (by rfl)
                  have tq0 := (hp.grew.cell (p := ⟨ba, oa + j * 12 + 5, none⟩) hbaw).trans t5
                  refine Rg.step_run (v := .int .i64 x.prio) (w' := w') rfl (Rg.wanted_some (g := 20) (b := true) (d := 93) rfl (by rfl) (hp.at_ 20 (by rfl))) (by simp) ?_ rfl (Below.refl _ _)
                  clear hp
                  obtain ⟨ec, eg, ef⟩ := Rg.eval_at a
                  generalize a.eval = ρ at *
                  go_simp
                case s26 =>
                  intro a w' hp
                  have e15 : a.eval (.tmp 15) = .slice (some ⟨ba, oa, none⟩) k3 c3 := hp.rest 15 (by rfl)
                  exact Rg.step_run (v := a.eval (.tmp 15)) (w' := w') rfl (Rg.wanted_some (g := 20) (b := true) (d := 93) rfl (by rfl) (hp.at_ 20 (by rfl))) (by simp) rfl e15 (Below.refl _ _)
                case s27 =>
                  intro a w' hp
                  have e16 : a.eval (.tmp 16) = .int .i64 (j : Int) := hp.rest 16 (by rfl)
                  exact Rg.step_run (v := a.eval (.tmp 16)) (w' := w') rfl (Rg.wanted_some (g := 20) (b := true) (d := 93) rfl (by rfl) (hp.at_ 20 (by rfl))) (by simp) rfl e16 (Below.refl _ _)
                case s28 =>
                  intro a w' hp
                  have e100 : a.eval (.tmp 100) = .int .i64 (j : Int) := hp.at_ 27 (by rfl)
                  have hwi : IntKind.i64.wrap ((j : Int) - 1) = (j : Int) - 1 := wrapQ (by omega) (by omega)
                  refine Rg.step_run (v := .int .i64 ((j : Int) - 1)) (w' := w') rfl (Rg.wanted_some (g := 20) (b := true) (d := 93) rfl (by rfl) (hp.at_ 20 (by rfl))) (by simp) ?_ rfl (Below.refl _ _)
                  clear hp
                  obtain ⟨ec, eg, ef⟩ := Rg.eval_at a
                  generalize a.eval = ρ at *
                  go_simp
                case s29 =>
                  intro a w' hp
                  have e99 : a.eval (.tmp 99) = .slice (some ⟨ba, oa, none⟩) k3 c3 := hp.at_ 26 (by rfl)
                  have e101 : a.eval (.tmp 101) = .int .i64 ((j : Int) - 1) := hp.at_ 28 (by rfl)
                  have hge : ¬ (j : Int) < 1 := by omega
                  refine Rg.step_run (v := .pointer (some ⟨ba, oa + (j - 1) * 12, none⟩)) (w' := w') rfl (Rg.wanted_some (g := 20) (b := true) (d := 93) rfl (by rfl) (hp.at_ 20 (by rfl))) (by simp) ?_ rfl (Below.refl _ _)
                  clear hp
                  obtain ⟨ec, eg, ef⟩ := Rg.eval_at a
                  generalize a.eval = ρ at *
                  go_simp
                case s30 =>
                  intro a w' hp
                  have e102 : a.eval (.tmp 102) = .pointer (some ⟨ba, oa + (j - 1) * 12, none⟩) := hp.at_ 29 (by rfl)
                  refine Rg.step_run (v := .pointer (some ⟨ba, oa + (j - 1) * 12 + 5, none⟩)) (w' := w') rfl (Rg.wanted_some (g := 20) (b := true) (d := 93) rfl (by rfl) (hp.at_ 20 (by rfl))) (by simp) ?_ rfl (Below.refl _ _)
                  clear hp
                  obtain ⟨ec, eg, ef⟩ := Rg.eval_at a
                  generalize a.eval = ρ at *
                  go_simp
                case s31 =>
                  intro a w' hp
                  have e103 : a.eval (.tmp 103) = .pointer (some ⟨ba, oa + (j - 1) * 12 + 5, none⟩) := hp.at_ 30 (by rfl)
                  have tq0 := (hp.grew.cell (p := ⟨ba, oa + (j - 1) * 12 + 5, none⟩) hbaw).trans s5
                  refine Rg.step_run (v := .int .i64 py) (w' := w') rfl (Rg.wanted_some (g := 20) (b := true) (d := 93) rfl (by rfl) (hp.at_ 20 (by rfl))) (by simp) ?_ rfl (Below.refl _ _)
                  clear hp
                  obtain ⟨ec, eg, ef⟩ := Rg.eval_at a
                  generalize a.eval = ρ at *
                  go_simp
                case s32 =>
                  intro a w' hp
                  have e98 : a.eval (.tmp 98) = .int .i64 x.prio := hp.at_ 25 (by rfl)
                  have e104 : a.eval (.tmp 104) = .int .i64 py := hp.at_ 31 (by rfl)
                  refine Rg.step_run (v := .bool false) (w' := w') rfl (Rg.wanted_some (g := 20) (b := true) (d := 93) rfl (by rfl) (hp.at_ 20 (by rfl))) (by simp) ?_ rfl (Below.refl _ _)
                  clear hp
                  obtain ⟨ec, eg, ef⟩ := Rg.eval_at a
                  generalize a.eval = ρ at *
                  go_simp
                case s33 =>
                  intro a w' hp
                  have e105 : a.eval (.tmp 105) = .bool false := hp.at_ 32 (by rfl)
                  exact Rg.step_run (v := a.eval (.tmp 105)) (w' := w') rfl (Rg.wanted_some (g := 20) (b := true) (d := 93) rfl (by rfl) (hp.at_ 20 (by rfl))) (by simp) rfl e105 (Below.refl _ _)
                case s34 =>
                  intro a w' hp
                  have e15 : a.eval (.tmp 15) = .slice (some ⟨ba, oa, none⟩) k3 c3 := hp.rest 15 (by rfl)
                  exact Rg.step_run (v := a.eval (.tmp 15)) (w' := w') rfl (Rg.wanted_some (g := 33) (b := false) (d := 106) rfl (by rfl) (hp.at_ 33 (by rfl))) (by simp) rfl e15 (Below.refl _ _)
                case s35 =>
                  intro a w' hp
                  have e16 : a.eval (.tmp 16) = .int .i64 (j : Int) := hp.rest 16 (by rfl)
                  exact Rg.step_run (v := a.eval (.tmp 16)) (w' := w') rfl (Rg.wanted_some (g := 33) (b := false) (d := 106) rfl (by rfl) (hp.at_ 33 (by rfl))) (by simp) rfl e16 (Below.refl _ _)
                case s36 =>
                  intro a w' hp
                  have e107 : a.eval (.tmp 107) = .slice (some ⟨ba, oa, none⟩) k3 c3 := hp.at_ 34 (by rfl)
                  have e108 : a.eval (.tmp 108) = .int .i64 (j : Int) := hp.at_ 35 (by rfl)
                  refine Rg.step_run (v := .pointer (some ⟨ba, oa + j * 12, none⟩)) (w' := w') rfl (Rg.wanted_some (g := 33) (b := false) (d := 106) rfl (by rfl) (hp.at_ 33 (by rfl))) (by simp) ?_ rfl (Below.refl _ _)
                  clear hp
                  obtain ⟨ec, eg, ef⟩ := Rg.eval_at a
                  generalize a.eval = ρ at *
                  go_simp
                case s37 =>
                  intro a w' hp
                  have e109 : a.eval (.tmp 109) = .pointer (some ⟨ba, oa + j * 12, none⟩) := hp.at_ 36 (by rfl)
                  refine Rg.step_run (v := .pointer (some ⟨ba, oa + j * 12 + 5, none⟩)) (w' := w') rfl (Rg.wanted_some (g := 33) (b := false) (d := 106) rfl (by rfl) (hp.at_ 33 (by rfl))) (by simp) ?_ rfl (Below.refl _ _)
                  clear hp
                  obtain ⟨ec, eg, ef⟩ := Rg.eval_at a
                  generalize a.eval = ρ at *
                  go_simp
                case s38 =>
                  intro a w' hp
                  have e110 : a.eval (.tmp 110) = .pointer (some ⟨ba, oa + j * 12 + 5, none⟩) := hp.at_ 37 (by rfl)
                  have tq0 := (hp.grew.cell (p := ⟨ba, oa + j * 12 + 5, none⟩) hbaw).trans t5
                  refine Rg.step_run (v := .int .i64 x.prio) (w' := w') rfl (Rg.wanted_some (g := 33) (b := false) (d := 106) rfl (by rfl) (hp.at_ 33 (by rfl))) (by simp) ?_ rfl (Below.refl _ _)
                  clear hp
                  obtain ⟨ec, eg, ef⟩ := Rg.eval_at a
                  generalize a.eval = ρ at *
                  go_simp
                case s39 =>
                  intro a w' hp
                  have e15 : a.eval (.tmp 15) = .slice (some ⟨ba, oa, none⟩) k3 c3 := hp.rest 15 (by rfl)
                  exact Rg.step_run (v := a.eval (.tmp 15)) (w' := w') rfl (Rg.wanted_some (g := 33) (b := false) (d := 106) rfl (by rfl) (hp.at_ 33 (by rfl))) (by simp) rfl e15 (Below.refl _ _)
                case s40 =>
                  intro a w' hp
                  have e16 : a.eval (.tmp 16) = .int .i64 (j : Int) := hp.rest 16 (by rfl)
                  exact Rg.step_run (v := a.eval (.tmp 16)) (w' := w') rfl (Rg.wanted_some (g := 33) (b := false) (d := 106) rfl (by rfl) (hp.at_ 33 (by rfl))) (by simp) rfl e16 (Below.refl _ _)
                case s41 =>
                  intro a w' hp
                  have e113 : a.eval (.tmp 113) = .int .i64 (j : Int) := hp.at_ 40 (by rfl)
                  have hwi : IntKind.i64.wrap ((j : Int) - 1) = (j : Int) - 1 := wrapQ (by omega) (by omega)
                  refine Rg.step_run (v := .int .i64 ((j : Int) - 1)) (w' := w') rfl (Rg.wanted_some (g := 33) (b := false) (d := 106) rfl (by rfl) (hp.at_ 33 (by rfl))) (by simp) ?_ rfl (Below.refl _ _)
                  clear hp
                  obtain ⟨ec, eg, ef⟩ := Rg.eval_at a
                  generalize a.eval = ρ at *
                  go_simp
                case s42 =>
                  intro a w' hp
                  have e112 : a.eval (.tmp 112) = .slice (some ⟨ba, oa, none⟩) k3 c3 := hp.at_ 39 (by rfl)
                  have e114 : a.eval (.tmp 114) = .int .i64 ((j : Int) - 1) := hp.at_ 41 (by rfl)
                  have hge : ¬ (j : Int) < 1 := by omega
                  refine Rg.step_run (v := .pointer (some ⟨ba, oa + (j - 1) * 12, none⟩)) (w' := w') rfl (Rg.wanted_some (g := 33) (b := false) (d := 106) rfl (by rfl) (hp.at_ 33 (by rfl))) (by simp) ?_ rfl (Below.refl _ _)
                  clear hp
                  obtain ⟨ec, eg, ef⟩ := Rg.eval_at a
                  generalize a.eval = ρ at *
                  go_simp
                case s43 =>
                  intro a w' hp
                  have e115 : a.eval (.tmp 115) = .pointer (some ⟨ba, oa + (j - 1) * 12, none⟩) := hp.at_ 42 (by rfl)
                  refine Rg.step_run (v := .pointer (some ⟨ba, oa + (j - 1) * 12 + 5, none⟩)) (w' := w') rfl (Rg.wanted_some (g := 33) (b := false) (d := 106) rfl (by rfl) (hp.at_ 33 (by rfl))) (by simp) ?_ rfl (Below.refl _ _)
                  clear hp
                  obtain ⟨ec, eg, ef⟩ := Rg.eval_at a
                  generalize a.eval = ρ at *
                  go_simp
                case s44 =>
                  intro a w' hp
                  have e116 : a.eval (.tmp 116) = .pointer (some ⟨ba, oa + (j - 1) * 12 + 5, none⟩) := hp.at_ 43 (by rfl)
                  have tq0 := (hp.grew.cell (p := ⟨ba, oa + (j - 1) * 12 + 5, none⟩) hbaw).trans s5
                  refine Rg.step_run (v := .int .i64 py) (w' := w') rfl (Rg.wanted_some (g := 33) (b := false) (d := 106) rfl (by rfl) (hp.at_ 33 (by rfl))) (by simp) ?_ rfl (Below.refl _ _)
                  clear hp
                  obtain ⟨ec, eg, ef⟩ := Rg.eval_at a
                  generalize a.eval = ρ at *
                  go_simp
                case s45 =>
                  intro a w' hp
                  have e111 : a.eval (.tmp 111) = .int .i64 x.prio := hp.at_ 38 (by rfl)
                  have e117 : a.eval (.tmp 117) = .int .i64 py := hp.at_ 44 (by rfl)
                  refine Rg.step_run (v := .bool false) (w' := w') rfl (Rg.wanted_some (g := 33) (b := false) (d := 106) rfl (by rfl) (hp.at_ 33 (by rfl))) (by simp) ?_ rfl (Below.refl _ _)
                  clear hp
                  obtain ⟨ec, eg, ef⟩ := Rg.eval_at a
                  generalize a.eval = ρ at *
                  go_simp
                case s46 =>
                  intro a w' hp
                  have e118 : a.eval (.tmp 118) = .bool false := hp.at_ 45 (by rfl)
                  exact Rg.step_run (v := a.eval (.tmp 118)) (w' := w') rfl (Rg.wanted_some (g := 33) (b := false) (d := 106) rfl (by rfl) (hp.at_ 33 (by rfl))) (by simp) rfl e118 (Below.refl _ _)
                case s47 =>
                  intro a w' hp
                  have e15 : a.eval (.tmp 15) = .slice (some ⟨ba, oa, none⟩) k3 c3 := hp.rest 15 (by rfl)
                  exact Rg.step_skip rfl (Rg.wanted_not rfl (by rfl) (hp.at_ 46 (by rfl))) rfl
                case s48 =>
                  intro a w' hp
                  have e16 : a.eval (.tmp 16) = .int .i64 (j : Int) := hp.rest 16 (by rfl)
                  exact Rg.step_skip rfl (Rg.wanted_not rfl (by rfl) (hp.at_ 46 (by rfl))) rfl
                case s49 =>
                  intro a w' hp
                  have e120 : a.eval (.tmp 120) = undef := hp.at_ 47 (by rfl)
                  have e121 : a.eval (.tmp 121) = undef := hp.at_ 48 (by rfl)
                  exact Rg.step_skip rfl (Rg.wanted_not rfl (by rfl) (hp.at_ 46 (by rfl))) rfl
                case s50 =>
                  intro a w' hp
                  have e122 : a.eval (.tmp 122) = undef := hp.at_ 49 (by rfl)
                  exact Rg.step_skip rfl (Rg.wanted_not rfl (by rfl) (hp.at_ 46 (by rfl))) rfl
                case s51 =>
                  intro a w' hp
                  have e123 : a.eval (.tmp 123) = undef := hp.at_ 50 (by rfl)
                  exact Rg.step_skip rfl (Rg.wanted_not rfl (by rfl) (hp.at_ 46 (by rfl))) rfl
                case s52 =>
                  intro a w' hp
                  have e15 : a.eval (.tmp 15) = .slice (some ⟨ba, oa, none⟩) k3 c3 := hp.rest 15 (by rfl)
                  exact Rg.step_skip rfl (Rg.wanted_not rfl (by rfl) (hp.at_ 46 (by rfl))) rfl
                case s53 =>
                  intro a w' hp
                  have e16 : a.eval (.tmp 16) = .int .i64 (j : Int) := hp.rest 16 (by rfl)
                  exact Rg.step_skip rfl (Rg.wanted_not rfl (by rfl) (hp.at_ 46 (by rfl))) rfl
                case s54 =>
                  intro a w' hp
                  have e126 : a.eval (.tmp 126) = undef := hp.at_ 53 (by rfl)
                  exact Rg.step_skip rfl (Rg.wanted_not rfl (by rfl) (hp.at_ 46 (by rfl))) rfl
                case s55 =>
                  intro a w' hp
                  have e125 : a.eval (.tmp 125) = undef := hp.at_ 52 (by rfl)
                  have e127 : a.eval (.tmp 127) = undef := hp.at_ 54 (by rfl)
                  exact Rg.step_skip rfl (Rg.wanted_not rfl (by rfl) (hp.at_ 46 (by rfl))) rfl
                case s56 =>
                  intro a w' hp
                  have e128 : a.eval (.tmp 128) = undef := hp.at_ 55 (by rfl)
                  exact Rg.step_skip rfl (Rg.wanted_not rfl (by rfl) (hp.at_ 46 (by rfl))) rfl
                case s57 =>
                  intro a w' hp
                  have e129 : a.eval (.tmp 129) = undef := hp.at_ 56 (by rfl)
                  exact Rg.step_skip rfl (Rg.wanted_not rfl (by rfl) (hp.at_ 46 (by rfl))) rfl
                case s58 =>
                  intro a w' hp
                  have e124 : a.eval (.tmp 124) = undef := hp.at_ 51 (by rfl)
                  have e130 : a.eval (.tmp 130) = undef := hp.at_ 57 (by rfl)
                  exact Rg.step_skip rfl (Rg.wanted_not rfl (by rfl) (hp.at_ 46 (by rfl))) rfl
                case s59 =>
                  intro a w' hp
                  have e119 : a.eval (.tmp 119) = .bool false := hp.at_ 46 (by rfl)
                  have e131 : a.eval (.tmp 131) = undef := hp.at_ 58 (by rfl)
                  refine Rg.step_run (v := .bool false) (w' := w') rfl (Rg.wanted_some (g := 33) (b := false) (d := 106) rfl (by rfl) (hp.at_ 33 (by rfl))) (by simp) ?_ rfl (Below.refl _ _)
                  clear hp
                  obtain ⟨ec, eg, ef⟩ := Rg.eval_at a
                  generalize a.eval = ρ at *
                  go_simp
                case s60 =>
                  intro a w' hp
                  have e106 : a.eval (.tmp 106) = .bool false := hp.at_ 33 (by rfl)
                  have e132 : a.eval (.tmp 132) = .bool false := hp.at_ 59 (by rfl)
                  refine Rg.step_run (v := .bool false) (w' := w') rfl (Rg.wanted_some (g := 20) (b := true) (d := 93) rfl (by rfl) (hp.at_ 20 (by rfl))) (by simp) ?_ rfl (Below.refl _ _)
                  clear hp
                  obtain ⟨ec, eg, ef⟩ := Rg.eval_at a
                  generalize a.eval = ρ at *
                  go_simp
                case s61 =>
                  intro a w' hp
                  have e93 : a.eval (.tmp 93) = .bool true := hp.at_ 20 (by rfl)
                  have e133 : a.eval (.tmp 133) = .bool false := hp.at_ 60 (by rfl)
                  refine Rg.step_run (v := .bool false) (w' := w') rfl (Rg.wanted_some (g := 17) (b := false) (d := 90) rfl (by rfl) (hp.at_ 17 (by rfl))) (by simp) ?_ rfl (Below.refl _ _)
                  clear hp
                  obtain ⟨ec, eg, ef⟩ := Rg.eval_at a
                  generalize a.eval = ρ at *
                  go_simp
                case s62 =>
                  intro a w' hp
                  have e90 : a.eval (.tmp 90) = .bool false := hp.at_ 17 (by rfl)
                  have e134 : a.eval (.tmp 134) = .bool false := hp.at_ 61 (by rfl)
                  refine Rg.step_run (v := .bool false) (w' := w') rfl (Rg.wanted_none rfl) (by simp) ?_ rfl (Below.refl _ _)
                  clear hp
                  obtain ⟨ec, eg, ef⟩ := Rg.eval_at a
                  generalize a.eval = ρ at *
                  go_simp
                case mono =>
                  refine Rg.mono_getD _ ?_
                  intro p hp
                  repeat (rcases List.mem_cons.1 hp with rfl | hp; exact Rg.mono_eq _)
                  cases hp
                case fin =>
                  intro a w' hsz hdf hrest hdone hbf
                  have hv : a.tmps.getD 135 undef = .bool false := hdone 62 (by decide)
                  have ha := Rg.act_puts hsz hdf hrest [73, 74, 75, 76, 77, 78, 79, 80, 81, 82, 83, 84, 85, 86, 87, 88, 89, 90, 91, 92, 93, 94, 95, 96, 97, 98, 99, 100, 101, 102, 103, 104, 105, 106, 107, 108, 109, 110, 111, 112, 113, 114, 115, 116, 117, 118, 119, 120, 121, 122, 123, 124, 125, 126, 127, 128, 129, 130, 131, 132, 133, 134, 135] (by kernel_rfl)
                  simp only [List.foldl_cons, List.foldl_nil, Act.put, List.setIfInBounds_toArray, List.set_cons_zero, List.set_cons_succ] at ha
                  rw [hv] at ha
                  clear hsz hdf hrest hdone hv
                  rw [ha]
                  clear ha
                  go_wp2
                  go_roundw
                  case rel => exact ⟨j + 1, by first | rfl | go_num, by omega, HBX.out.trans (hbf.mono HBX.out.size)⟩
                  case measure =>
                    simp only [intOf]
                    omega
          · obtain rfl : j = k3 := by omega
            have hjI : ¬ (j : Int) < (j : Int) := by omega
            have HB4 := Lib.hid (HB3.out.trans (HBX.out.mono HB3.out.size))
            have HQ4 := Lib.hid (HQ3.out.below HBX.out)
            have HR4 := Lib.hid ((HR3.out.below HBX.out (Nat.le_refl _)).mono HBX.out.size)
            have HROW4 := Lib.hid ((HROW3.out.below HBX.out (Nat.le_refl _)).mono HBX.out.size)
            clear HB3 HQ3 HR3 HROW3 HBX
            have HA := Lib.hid (all_any wy.heap.size m L wr HQ4.out hLc)
            go_wp2_with fail
            refine HA.out.mono ?_
            rintro e w5 ⟨⟨A5, n5, c5, rfl, hr5, _⟩, hb5⟩
            have HB5 := Lib.hid (HB4.out.trans (hb5.mono HB4.out.size))
            have HR5 := Lib.hid hr5
            have HR4b := Lib.hid ((HR4.out.below hb5 (Nat.le_refl _)).mono hb5.size)
            have HROW5 := Lib.hid ((HROW4.out.below hb5 (Nat.le_refl _)).mono hb5.size)
            have HN5 := Lib.hid (hr5.len (by decide))
            have hn5 : n5 ≤ 1000 := by rw [← HN5.out]; exact hLl
            clear hr5 hb5 HA HB4 HQ4 HR4 HROW4
            go_wp2_with fail
            go_loopw [18] (fun s18 wr => ∃ i : Nat, s18 = .int .i64 i ∧ i ≤ n5 ∧ Below w5.heap.size w5 wr) (fun s18 _ => n5 - (intOf s18).toNat)
            case atStart => exact ⟨0, rfl, Nat.zero_le _, Below.refl _ _⟩
            case round =>
              obtain ⟨ii, rfl, hi, hbx⟩ := hrel
              have HBX := Lib.hid hbx
              clear hbx
              have hi0 : (0 : Int) ≤ (ii : Int) := by omega
              by_cases hlt : ii < n5
              · have hiI : (ii : Int) < (n5 : Int) := by omega
                have hZ := (HR5.out.below HBX.out (Nat.le_refl _)).mono HBX.out.size
                obtain ⟨bb, ob, rfl, hbb, _⟩ := hZ.2 (by omega)
                obtain ⟨t0, t1, t2, t3, t4, t5, t6, t7, t8, t9, t10, t11⟩ := t_at hZ hlt
                have hxL : L[ii]! ∈ L := by rw [getElem!_pos L ii (by rw [HN5.out]; exact hlt)]; exact List.getElem_mem _
                have HXL := Lib.hid hxL
                clear hZ hxL
                generalize L[ii]! = x at *
                have HC := Lib.hid (Cel.lit wr #[.int .i64 x.id, .int .i64 x.ins, .int .i64 x.tok, .int .i64 x.nod, .string x.top, .int .i64 x.prio, .string x.wkr, .int .i64 x.epo, .int .i64 x.exp, .int .i64 x.aft, .int .i64 x.ret, .bool x.bro] 38)
                have HBA := Lib.hid ((Below.refl wr.heap.size wr).alloc (Nat.le_refl _) (.cells #[.int .i64 x.id, .int .i64 x.ins, .int .i64 x.tok, .int .i64 x.nod, .string x.top, .int .i64 x.prio, .string x.wkr, .int .i64 x.epo, .int .i64 x.exp, .int .i64 x.aft, .int .i64 x.ret, .bool x.bro] 38))
                go_upto_region 27 with (fail)
                generalize wr.alloc _ = wb at *
                have HBB := Lib.hid (HBX.out.trans (HBA.out.mono HBX.out.size))
                clear t0 t1 t2 t3 t4 t5 t6 t7 t8 t9 t10 t11 HBA hbb HBX
                generalize wr.heap.size = bx at *
                go_wp2_with fail
                go_loopw [20, 21] (fun s20 s21 wr => ∃ kk : Nat, s20 = .bool (sn r3 x.id kk) ∧ s21 = .int .i64 kk ∧ kk ≤ j ∧ Below wb.heap.size wb wr) (fun _ s21 _ => j - (intOf s21).toNat)
                case atStart => exact ⟨0, rfl, rfl, Nat.zero_le _, Below.refl _ _⟩
                case round =>
                  obtain ⟨kk, rfl, rfl, hk, hbz⟩ := hrel
                  have HBZ := Lib.hid hbz
                  have HBQ := Lib.hid (HBB.out.trans (hbz.mono HBB.out.size))
                  have HCZ := Lib.hid (HC.out.below hbz (Nat.le_refl _))
                  have hk0 : (0 : Int) ≤ (kk : Int) := by omega
                  clear hbz
                  by_cases hltk : kk < j
                  · have hkI : (kk : Int) < (j : Int) := by omega
                    have hY := (HR4b.out.below HBQ.out (Nat.le_refl _)).mono HBQ.out.size
                    obtain ⟨ba, oa, rfl, hba, _⟩ := hY.2 (by omega)
                    have s0 := (t_at hY hltk).1
                    have c0 := HCZ.out.cell 0 _ rfl
                    have HSN : Hid (sn r3 x.id (kk + 1) = (sn r3 x.id kk || decide ((r3[kk]!).id = x.id))) := Lib.hid rfl
                    clear hY
                    generalize (r3[kk]!).id = iy at *
                    go_wp2_with fail
                    generalize sn r3 x.id kk = b at *
                    cases b with
                    | true =>
                      go_quiet (fail)
                      go_wp2
                      go_roundw
                      case rel => exact ⟨kk + 1, by rw [HSN.out]; rfl, by go_num, by omega, HBZ.out.trans (below_drewN_le HBZ.out.size)⟩
                      case measure =>
                        simp only [intOf]
                        omega
                    | false =>
                      go_quiet (fail)
                      go_wp2
                      go_roundw
                      case rel => exact ⟨kk + 1, by rw [HSN.out]; exact congrArg Value.bool (by rw [Bool.eq_iff_iff]; simp), by go_num, by omega, HBZ.out.trans (below_drewN_le HBZ.out.size)⟩
                      case measure =>
                        simp only [intOf]
                        omega
                  · obtain rfl : kk = j := by omega
                    have hkI : ¬ (kk : Int) < (kk : Int) := by omega
                    have HSNK := Lib.hid (fun (h : sn r3 x.id kk = false) => sn_not h)
                    obtain ⟨⟨c0, c1, c2, c3, c4, c5, c6, c7, c8, c9, c10, c11⟩, _⟩ := Ls.dz_facts HCZ.out
                    have HC4 := Lib.hid c4
                    generalize sn r3 x.id kk = b at *
                    cases b with
                    | true =>
                      go_wp2
                      go_roundw
                      case rel => exact ⟨ii + 1, by go_num, by omega, HBQ.out⟩
                      case measure =>
                        simp only [intOf]
                        omega
                    | false =>
                      have HNO := Lib.hid (HSNK.out rfl)
                      have FR := Lib.hid (fun W => dfree_any x t W)
                      unfold T.val at FR
                      go_wp2_with fail
                      refine (FR.out _).mono ?_
                      rintro e w6 ⟨rfl, hb6⟩
                      have HB6 := Lib.hid (HBQ.out.trans (hb6.mono HBQ.out.size))
                      have HCX := Lib.hid (HCZ.out.below hb6 (Nat.le_refl _))
                      clear c0 c1 c2 c3 c4 c5 c6 c7 c8 c9 c10 c11 hb6 HCZ HC4 FR HSNK
                      obtain ⟨⟨d0, d1, d2, d3, d4, d5, d6, d7, d8, d9, d10, d11⟩, _⟩ := Ls.dz_facts HCX.out
                      have HFX := Lib.hid (rfl : x.free t = x.free t)
                      obtain ⟨f, hf⟩ : ∃ f, x.free t = f := ⟨_, rfl⟩
                      rw [hf]
                      cases f with
                      | false =>
                        go_wp2
                        go_roundw
                        case rel => exact ⟨ii + 1, by go_num, by omega, HB6.out⟩
                        case measure =>
                          simp only [intOf]
                          omega
                      | true =>
                        have HT := Lib.hid (hastext_any A k c ts w5.heap.size x.top w6 (HROW5.out.below HB6.out (Nat.le_refl _)) htl)
                        go_wp2_with fail
                        refine HT.out.mono ?_
                        rintro e w7 ⟨rfl, rfl⟩
                        obtain ⟨g, hg⟩ : ∃ g, asks ts x.top = g := ⟨_, rfl⟩
                        rw [hg]
                        cases g with
                        | false =>
                          go_wp2
                          go_roundw
                          case rel => exact ⟨ii + 1, by go_num, by omega, HB6.out⟩
                          case measure =>
                            simp only [intOf]
                            omega
                        | true =>
                          obtain ⟨hm1, hm2⟩ := HP.out.rest x HXL.out hf hg (by rw [HK3.out]; exact HNO.out)
                          rw [HK3.out] at hm1
                          obtain rfl : mo = (kk : Int) := hm1.symm
                          have hl1 : ¬ (kk : Int) < (kk : Int) := by omega
                          clear HT HNO hf hg
                          by_cases hk1 : kk = 0
                          · have hz0 : ¬ (0 : Int) < (kk : Int) := by omega
                            have hz2 : ¬ 0 < kk := by omega
                            clear hm2 hk1
                            go_wp2_with fail
                            refine Rg.region_each (by kernel_rfl) (fun i => ([
                                (fun v _ => v = .slice A3 kk c3),
                                (fun v _ => v = .int .i64 (kk : Int)),
                                (fun v _ => v = .int .i64 (kk : Int)),
                                (fun v _ => v = .bool false),
                                (fun v _ => v = .bool false),
                                (fun v _ => v = .int .i64 (kk : Int)),
                                (fun v _ => v = .bool false),
                                (fun v _ => v = .bool false),
                                (fun v _ => v = undef),
                                (fun v _ => v = undef),
                                (fun v _ => v = undef),
                                (fun v _ => v = undef),
                                (fun v _ => v = undef),
                                (fun v _ => v = undef),
                                (fun v _ => v = undef),
                                (fun v _ => v = undef),
                                (fun v _ => v = undef),
                                (fun v _ => v = undef),
                                (fun v _ => v = undef),
                                (fun v _ => v = undef),
                                (fun v _ => v = undef),
                                (fun v _ => v = undef),
                                (fun v _ => v = undef),
                                (fun v _ => v = undef),
                                (fun v _ => v = undef),
                                (fun v _ => v = undef),
                                (fun v _ => v = undef),
                                (fun v _ => v = undef),
                                (fun v _ => v = undef),
                                (fun v _ => v = undef),
                                (fun v _ => v = undef),
                                (fun v _ => v = undef),
                                (fun v _ => v = undef),
                                (fun v _ => v = undef),
                                (fun v _ => v = undef),
                                (fun v _ => v = undef),
                                (fun v _ => v = undef),
                                (fun v _ => v = undef),
                                (fun v _ => v = undef),
                                (fun v _ => v = .bool false),
                                (fun v _ => v = .bool false)
                                ] : List (Value → World → Prop)).getD i (fun _ _ => True)) (by kernel_rfl) ?mono (Rg.by_each _ ⟨?s0, ?s1, ?s2, ?s3, ?s4, ?s5, ?s6, ?s7, ?s8, ?s9, ?s10, ?s11, ?s12, ?s13, ?s14, ?s15, ?s16, ?s17, ?s18, ?s19, ?s20, ?s21, ?s22, ?s23, ?s24, ?s25, ?s26, ?s27, ?s28, ?s29, ?s30, ?s31, ?s32, ?s33, ?s34, ?s35, ?s36, ?s37, ?s38, ?s39, ?s40, trivial⟩) ?fin
                            case s0 =>
                              intro a w' hp
                              have e15 : a.eval (.tmp 15) = .slice A3 kk c3 := hp.rest 15 (by rfl)
                              exact Rg.step_run (v := a.eval (.tmp 15)) (w' := w') rfl (Rg.wanted_none rfl) (by simp) rfl e15 (Below.refl _ _)
                            case s1 =>
                              intro a w' hp
                              have e178 : a.eval (.tmp 178) = .slice A3 kk c3 := hp.at_ 0 (by rfl)
                              refine Rg.step_run (v := .int .i64 (kk : Int)) (w' := w') rfl (Rg.wanted_none rfl) (by simp) ?_ rfl (Below.refl _ _)
                              clear hp
                              obtain ⟨ec, eg, ef⟩ := Rg.eval_at a
                              generalize a.eval = ρ at *
                              go_simp
                            case s2 =>
                              intro a w' hp
                              have e3 : a.eval (.tmp 3) = .int .i64 (kk : Int) := hp.rest 3 (by rfl)
                              exact Rg.step_run (v := a.eval (.tmp 3)) (w' := w') rfl (Rg.wanted_none rfl) (by simp) rfl e3 (Below.refl _ _)
                            case s3 =>
                              intro a w' hp
                              have e179 : a.eval (.tmp 179) = .int .i64 (kk : Int) := hp.at_ 1 (by rfl)
                              have e180 : a.eval (.tmp 180) = .int .i64 (kk : Int) := hp.at_ 2 (by rfl)
                              refine Rg.step_run (v := .bool false) (w' := w') rfl (Rg.wanted_none rfl) (by simp) ?_ rfl (Below.refl _ _)
                              clear hp
                              obtain ⟨ec, eg, ef⟩ := Rg.eval_at a
                              generalize a.eval = ρ at *
                              go_simp
                            case s4 =>
                              intro a w' hp
                              have e181 : a.eval (.tmp 181) = .bool false := hp.at_ 3 (by rfl)
                              exact Rg.step_run (v := a.eval (.tmp 181)) (w' := w') rfl (Rg.wanted_none rfl) (by simp) rfl e181 (Below.refl _ _)
                            case s5 =>
                              intro a w' hp
                              have e3 : a.eval (.tmp 3) = .int .i64 (kk : Int) := hp.rest 3 (by rfl)
                              exact Rg.step_run (v := a.eval (.tmp 3)) (w' := w') rfl (Rg.wanted_some (g := 4) (b := false) (d := 182) rfl (by rfl) (hp.at_ 4 (by rfl))) (by simp) rfl e3 (Below.refl _ _)
                            case s6 =>
                              intro a w' hp
                              have e183 : a.eval (.tmp 183) = .int .i64 (kk : Int) := hp.at_ 5 (by rfl)
                              refine Rg.step_run (v := .bool false) (w' := w') rfl (Rg.wanted_some (g := 4) (b := false) (d := 182) rfl (by rfl) (hp.at_ 4 (by rfl))) (by simp) ?_ rfl (Below.refl _ _)
                              clear hp
                              obtain ⟨ec, eg, ef⟩ := Rg.eval_at a
                              generalize a.eval = ρ at *
                              go_simp
                              all_goals omega
                            case s7 =>
                              intro a w' hp
                              have e184 : a.eval (.tmp 184) = .bool false := hp.at_ 6 (by rfl)
                              exact Rg.step_run (v := a.eval (.tmp 184)) (w' := w') rfl (Rg.wanted_some (g := 4) (b := false) (d := 182) rfl (by rfl) (hp.at_ 4 (by rfl))) (by simp) rfl e184 (Below.refl _ _)
                            case s8 =>
                              intro a w' hp
                              have e19 : a.eval (.tmp 19) = .pointer (some ⟨bx, 0, none⟩) := hp.rest 19 (by rfl)
                              exact Rg.step_skip rfl (Rg.wanted_not rfl (by rfl) (hp.at_ 7 (by rfl))) rfl
                            case s9 =>
                              intro a w' hp
                              have e186 : a.eval (.tmp 186) = undef := hp.at_ 8 (by rfl)
                              exact Rg.step_skip rfl (Rg.wanted_not rfl (by rfl) (hp.at_ 7 (by rfl))) rfl
                            case s10 =>
                              intro a w' hp
                              have e15 : a.eval (.tmp 15) = .slice A3 kk c3 := hp.rest 15 (by rfl)
                              exact Rg.step_skip rfl (Rg.wanted_not rfl (by rfl) (hp.at_ 7 (by rfl))) rfl
                            case s11 =>
                              intro a w' hp
                              have e3 : a.eval (.tmp 3) = .int .i64 (kk : Int) := hp.rest 3 (by rfl)
                              exact Rg.step_skip rfl (Rg.wanted_not rfl (by rfl) (hp.at_ 7 (by rfl))) rfl
                            case s12 =>
                              intro a w' hp
                              have e189 : a.eval (.tmp 189) = undef := hp.at_ 11 (by rfl)
                              exact Rg.step_skip rfl (Rg.wanted_not rfl (by rfl) (hp.at_ 7 (by rfl))) rfl
                            case s13 =>
                              intro a w' hp
                              have e188 : a.eval (.tmp 188) = undef := hp.at_ 10 (by rfl)
                              have e190 : a.eval (.tmp 190) = undef := hp.at_ 12 (by rfl)
                              exact Rg.step_skip rfl (Rg.wanted_not rfl (by rfl) (hp.at_ 7 (by rfl))) rfl
                            case s14 =>
                              intro a w' hp
                              have e191 : a.eval (.tmp 191) = undef := hp.at_ 13 (by rfl)
                              exact Rg.step_skip rfl (Rg.wanted_not rfl (by rfl) (hp.at_ 7 (by rfl))) rfl
                            case s15 =>
                              intro a w' hp
                              have e192 : a.eval (.tmp 192) = undef := hp.at_ 14 (by rfl)
                              exact Rg.step_skip rfl (Rg.wanted_not rfl (by rfl) (hp.at_ 7 (by rfl))) rfl
                            case s16 =>
                              intro a w' hp
                              have e187 : a.eval (.tmp 187) = undef := hp.at_ 9 (by rfl)
                              have e193 : a.eval (.tmp 193) = undef := hp.at_ 15 (by rfl)
                              exact Rg.step_skip rfl (Rg.wanted_not rfl (by rfl) (hp.at_ 7 (by rfl))) rfl
                            case s17 =>
                              intro a w' hp
                              have e194 : a.eval (.tmp 194) = undef := hp.at_ 16 (by rfl)
                              exact Rg.step_skip rfl (Rg.wanted_not rfl (by rfl) (hp.at_ 7 (by rfl))) rfl
                            case s18 =>
                              intro a w' hp
                              have e19 : a.eval (.tmp 19) = .pointer (some ⟨bx, 0, none⟩) := hp.rest 19 (by rfl)
                              exact Rg.step_skip rfl (wanted_undef rfl (by rfl) (hp.at_ 17 (by rfl))) rfl
                            case s19 =>
                              intro a w' hp
                              have e196 : a.eval (.tmp 196) = undef := hp.at_ 18 (by rfl)
                              exact Rg.step_skip rfl (wanted_undef rfl (by rfl) (hp.at_ 17 (by rfl))) rfl
                            case s20 =>
                              intro a w' hp
                              have e15 : a.eval (.tmp 15) = .slice A3 kk c3 := hp.rest 15 (by rfl)
                              exact Rg.step_skip rfl (wanted_undef rfl (by rfl) (hp.at_ 17 (by rfl))) rfl
                            case s21 =>
                              intro a w' hp
                              have e3 : a.eval (.tmp 3) = .int .i64 (kk : Int) := hp.rest 3 (by rfl)
                              exact Rg.step_skip rfl (wanted_undef rfl (by rfl) (hp.at_ 17 (by rfl))) rfl
                            case s22 =>
                              intro a w' hp
                              have e199 : a.eval (.tmp 199) = undef := hp.at_ 21 (by rfl)
                              exact Rg.step_skip rfl (wanted_undef rfl (by rfl) (hp.at_ 17 (by rfl))) rfl
                            case s23 =>
                              intro a w' hp
                              have e198 : a.eval (.tmp 198) = undef := hp.at_ 20 (by rfl)
                              have e200 : a.eval (.tmp 200) = undef := hp.at_ 22 (by rfl)
                              exact Rg.step_skip rfl (wanted_undef rfl (by rfl) (hp.at_ 17 (by rfl))) rfl
                            case s24 =>
                              intro a w' hp
                              have e201 : a.eval (.tmp 201) = undef := hp.at_ 23 (by rfl)
                              exact Rg.step_skip rfl (wanted_undef rfl (by rfl) (hp.at_ 17 (by rfl))) rfl
                            case s25 =>
                              intro a w' hp
                              have e202 : a.eval (.tmp 202) = undef := hp.at_ 24 (by rfl)
                              exact Rg.step_skip rfl (wanted_undef rfl (by rfl) (hp.at_ 17 (by rfl))) rfl
                            case s26 =>
                              intro a w' hp
                              have e197 : a.eval (.tmp 197) = undef := hp.at_ 19 (by rfl)
                              have e203 : a.eval (.tmp 203) = undef := hp.at_ 25 (by rfl)
                              exact Rg.step_skip rfl (wanted_undef rfl (by rfl) (hp.at_ 17 (by rfl))) rfl
                            case s27 =>
                              intro a w' hp
                              have e204 : a.eval (.tmp 204) = undef := hp.at_ 26 (by rfl)
                              exact Rg.step_skip rfl (wanted_undef rfl (by rfl) (hp.at_ 17 (by rfl))) rfl
                            case s28 =>
                              intro a w' hp
                              have e19 : a.eval (.tmp 19) = .pointer (some ⟨bx, 0, none⟩) := hp.rest 19 (by rfl)
                              exact Rg.step_skip rfl (wanted_undef rfl (by rfl) (hp.at_ 27 (by rfl))) rfl
                            case s29 =>
                              intro a w' hp
                              have e206 : a.eval (.tmp 206) = undef := hp.at_ 28 (by rfl)
                              exact Rg.step_skip rfl (wanted_undef rfl (by rfl) (hp.at_ 27 (by rfl))) rfl
                            case s30 =>
                              intro a w' hp
                              have e15 : a.eval (.tmp 15) = .slice A3 kk c3 := hp.rest 15 (by rfl)
                              exact Rg.step_skip rfl (wanted_undef rfl (by rfl) (hp.at_ 27 (by rfl))) rfl
                            case s31 =>
                              intro a w' hp
                              have e3 : a.eval (.tmp 3) = .int .i64 (kk : Int) := hp.rest 3 (by rfl)
                              exact Rg.step_skip rfl (wanted_undef rfl (by rfl) (hp.at_ 27 (by rfl))) rfl
                            case s32 =>
                              intro a w' hp
                              have e209 : a.eval (.tmp 209) = undef := hp.at_ 31 (by rfl)
                              exact Rg.step_skip rfl (wanted_undef rfl (by rfl) (hp.at_ 27 (by rfl))) rfl
                            case s33 =>
                              intro a w' hp
                              have e208 : a.eval (.tmp 208) = undef := hp.at_ 30 (by rfl)
                              have e210 : a.eval (.tmp 210) = undef := hp.at_ 32 (by rfl)
                              exact Rg.step_skip rfl (wanted_undef rfl (by rfl) (hp.at_ 27 (by rfl))) rfl
                            case s34 =>
                              intro a w' hp
                              have e211 : a.eval (.tmp 211) = undef := hp.at_ 33 (by rfl)
                              exact Rg.step_skip rfl (wanted_undef rfl (by rfl) (hp.at_ 27 (by rfl))) rfl
                            case s35 =>
                              intro a w' hp
                              have e212 : a.eval (.tmp 212) = undef := hp.at_ 34 (by rfl)
                              exact Rg.step_skip rfl (wanted_undef rfl (by rfl) (hp.at_ 27 (by rfl))) rfl
                            case s36 =>
                              intro a w' hp
                              have e207 : a.eval (.tmp 207) = undef := hp.at_ 29 (by rfl)
                              have e213 : a.eval (.tmp 213) = undef := hp.at_ 35 (by rfl)
                              exact Rg.step_skip rfl (wanted_undef rfl (by rfl) (hp.at_ 27 (by rfl))) rfl
                            case s37 =>
                              intro a w' hp
                              have e205 : a.eval (.tmp 205) = undef := hp.at_ 27 (by rfl)
                              have e214 : a.eval (.tmp 214) = undef := hp.at_ 36 (by rfl)
                              exact Rg.step_skip rfl (wanted_undef rfl (by rfl) (hp.at_ 17 (by rfl))) rfl
                            case s38 =>
                              intro a w' hp
                              have e195 : a.eval (.tmp 195) = undef := hp.at_ 17 (by rfl)
                              have e215 : a.eval (.tmp 215) = undef := hp.at_ 37 (by rfl)
                              exact Rg.step_skip rfl (Rg.wanted_not rfl (by rfl) (hp.at_ 7 (by rfl))) rfl
                            case s39 =>
                              intro a w' hp
                              have e185 : a.eval (.tmp 185) = .bool false := hp.at_ 7 (by rfl)
                              have e216 : a.eval (.tmp 216) = undef := hp.at_ 38 (by rfl)
                              refine Rg.step_run (v := .bool false) (w' := w') rfl (Rg.wanted_some (g := 4) (b := false) (d := 182) rfl (by rfl) (hp.at_ 4 (by rfl))) (by simp) ?_ rfl (Below.refl _ _)
                              clear hp
                              obtain ⟨ec, eg, ef⟩ := Rg.eval_at a
                              generalize a.eval = ρ at *
                              go_simp
                            case s40 =>
                              intro a w' hp
                              have e182 : a.eval (.tmp 182) = .bool false := hp.at_ 4 (by rfl)
                              have e217 : a.eval (.tmp 217) = .bool false := hp.at_ 39 (by rfl)
                              refine Rg.step_run (v := .bool false) (w' := w') rfl (Rg.wanted_none rfl) (by simp) ?_ rfl (Below.refl _ _)
                              clear hp
                              obtain ⟨ec, eg, ef⟩ := Rg.eval_at a
                              generalize a.eval = ρ at *
                              go_simp
                            case mono =>
                              refine Rg.mono_getD _ ?_
                              intro p hp
                              repeat (rcases List.mem_cons.1 hp with rfl | hp; exact Rg.mono_eq _)
                              cases hp
                            case fin =>
                              intro a w' hsz hdf hrest hdone hbf
                              have hv : a.tmps.getD 218 undef = .bool false := hdone 40 (by decide)
                              have ha := Rg.act_puts hsz hdf hrest [178, 179, 180, 181, 182, 183, 184, 185, 186, 187, 188, 189, 190, 191, 192, 193, 194, 195, 196, 197, 198, 199, 200, 201, 202, 203, 204, 205, 206, 207, 208, 209, 210, 211, 212, 213, 214, 215, 216, 217, 218] (by kernel_rfl)
                              simp only [List.foldl_cons, List.foldl_nil, Act.put, List.setIfInBounds_toArray, List.set_cons_zero, List.set_cons_succ] at ha
                              rw [hv] at ha
                              clear hsz hdf hrest hdone hv
                              rw [ha]
                              clear ha
                              go_wp2
                              go_roundw
                              case rel =>
                                have e66 : decide ((kk : Int) < (kk : Int)) = false := decide_eq_false (by omega)
                                rw [e66]
                                repeat apply Exists.intro
                                refine ⟨?_, rfl⟩
                                exact ⟨ii + 1, by first | rfl | go_num, by omega, HB6.out.trans (hbf.mono HB6.out.size)⟩
                              case measure =>
                                change n5 - ((ii : Int) + 1).toNat < n5 - ((ii : Int)).toNat
                                omega
                          · have hz0 : (0 : Int) < (kk : Int) := by omega
                            have hz2 : 0 < kk := by omega
                            obtain ⟨hm3, hm4⟩ := hm2 hz0
                            have hi4 : ((kk : Int) - 1).toNat = kk - 1 := by omega
                            have hi5 : (kk : Int) - 1 < (kk : Int) := by omega
                            have hi6 : ¬ (kk : Int) < 1 := by omega
                            have hi7 : (0 : Int) ≤ (kk : Int) - 1 := by omega
                            have hwi : IntKind.i64.wrap ((kk : Int) - 1) = (kk : Int) - 1 := wrapQ (by omega) (by omega)
                            rw [Int.toNat_natCast] at hm3 hm4
                            have hY := (HR4b.out.below HB6.out (Nat.le_refl _)).mono HB6.out.size
                            obtain ⟨ba, oa, rfl, hba, _⟩ := hY.2 (by omega)
                            obtain ⟨s0, _, _, _, _, s5, _⟩ := t_at hY (show kk - 1 < kk by omega)
                            clear hY
                            generalize (r3[kk - 1]!).prio = py at *
                            generalize (r3[kk - 1]!).id = iy at *
                            have hq1 : ¬ py < x.prio := by omega
                            by_cases heq : x.prio = py
                            · have hq2 : ¬ x.id < iy := by have := hm4 heq; omega
                              have hbxw := HCX.out.lt
                              clear hm3 hm4
                              go_wp2_with fail
                              refine Rg.region_each (by kernel_rfl) (fun i => ([
                                  (fun v _ => v = .slice (some ⟨ba, oa, none⟩) kk c3),
                                  (fun v _ => v = .int .i64 (kk : Int)),
                                  (fun v _ => v = .int .i64 (kk : Int)),
                                  (fun v _ => v = .bool false),
                                  (fun v _ => v = .bool false),
                                  (fun v _ => v = .int .i64 (kk : Int)),
                                  (fun v _ => v = .bool true),
                                  (fun v _ => v = .bool true),
                                  (fun v _ => v = .pointer (some ⟨bx, 5, none⟩)),
                                  (fun v _ => v = .int .i64 x.prio),
                                  (fun v _ => v = .slice (some ⟨ba, oa, none⟩) kk c3),
                                  (fun v _ => v = .int .i64 (kk : Int)),
                                  (fun v _ => v = .int .i64 ((kk : Int) - 1)),
                                  (fun v _ => v = .pointer (some ⟨ba, oa + (kk - 1) * 12, none⟩)),
                                  (fun v _ => v = .pointer (some ⟨ba, oa + (kk - 1) * 12 + 5, none⟩)),
                                  (fun v _ => v = .int .i64 py),
                                  (fun v _ => v = .bool false),
                                  (fun v _ => v = .bool false),
                                  (fun v _ => v = .pointer (some ⟨bx, 5, none⟩)),
                                  (fun v _ => v = .int .i64 x.prio),
                                  (fun v _ => v = .slice (some ⟨ba, oa, none⟩) kk c3),
                                  (fun v _ => v = .int .i64 (kk : Int)),
                                  (fun v _ => v = .int .i64 ((kk : Int) - 1)),
                                  (fun v _ => v = .pointer (some ⟨ba, oa + (kk - 1) * 12, none⟩)),
                                  (fun v _ => v = .pointer (some ⟨ba, oa + (kk - 1) * 12 + 5, none⟩)),
                                  (fun v _ => v = .int .i64 py),
                                  (fun v _ => v = .bool true),
                                  (fun v _ => v = .bool true),
                                  (fun v _ => v = .pointer (some ⟨bx, 0, none⟩)),
                                  (fun v _ => v = .int .i64 x.id),
                                  (fun v _ => v = .slice (some ⟨ba, oa, none⟩) kk c3),
                                  (fun v _ => v = .int .i64 (kk : Int)),
                                  (fun v _ => v = .int .i64 ((kk : Int) - 1)),
                                  (fun v _ => v = .pointer (some ⟨ba, oa + (kk - 1) * 12, none⟩)),
                                  (fun v _ => v = .pointer (some ⟨ba, oa + (kk - 1) * 12, none⟩)),
                                  (fun v _ => v = .int .i64 iy),
                                  (fun v _ => v = .bool false),
                                  (fun v _ => v = .bool false),
                                  (fun v _ => v = .bool false),
                                  (fun v _ => v = .bool false),
                                  (fun v _ => v = .bool false)
                                  ] : List (Value → World → Prop)).getD i (fun _ _ => True)) (by kernel_rfl) ?mono (Rg.by_each _ ⟨?s0, ?s1, ?s2, ?s3, ?s4, ?s5, ?s6, ?s7, ?s8, ?s9, ?s10, ?s11, ?s12, ?s13, ?s14, ?s15, ?s16, ?s17, ?s18, ?s19, ?s20, ?s21, ?s22, ?s23, ?s24, ?s25, ?s26, ?s27, ?s28, ?s29, ?s30, ?s31, ?s32, ?s33, ?s34, ?s35, ?s36, ?s37, ?s38, ?s39, ?s40, trivial⟩) ?fin
                              case s0 =>
                                intro a w' hp
                                have e15 : a.eval (.tmp 15) = .slice (some ⟨ba, oa, none⟩) kk c3 := hp.rest 15 (by rfl)
                                exact Rg.step_run (v := a.eval (.tmp 15)) (w' := w') rfl (Rg.wanted_none rfl) (by simp) rfl e15 (Below.refl _ _)
                              case s1 =>
                                intro a w' hp
                                have e178 : a.eval (.tmp 178) = .slice (some ⟨ba, oa, none⟩) kk c3 := hp.at_ 0 (by rfl)
                                refine Rg.step_run (v := .int .i64 (kk : Int)) (w' := w') rfl (Rg.wanted_none rfl) (by simp) ?_ rfl (Below.refl _ _)
                                clear hp
                                obtain ⟨ec, eg, ef⟩ := Rg.eval_at a
                                generalize a.eval = ρ at *
                                go_simp
                              case s2 =>
                                intro a w' hp
                                have e3 : a.eval (.tmp 3) = .int .i64 (kk : Int) := hp.rest 3 (by rfl)
                                exact Rg.step_run (v := a.eval (.tmp 3)) (w' := w') rfl (Rg.wanted_none rfl) (by simp) rfl e3 (Below.refl _ _)
                              case s3 =>
                                intro a w' hp
                                have e179 : a.eval (.tmp 179) = .int .i64 (kk : Int) := hp.at_ 1 (by rfl)
                                have e180 : a.eval (.tmp 180) = .int .i64 (kk : Int) := hp.at_ 2 (by rfl)
                                refine Rg.step_run (v := .bool false) (w' := w') rfl (Rg.wanted_none rfl) (by simp) ?_ rfl (Below.refl _ _)
                                clear hp
                                obtain ⟨ec, eg, ef⟩ := Rg.eval_at a
                                generalize a.eval = ρ at *
                                go_simp
                              case s4 =>
                                intro a w' hp
                                have e181 : a.eval (.tmp 181) = .bool false := hp.at_ 3 (by rfl)
                                exact Rg.step_run (v := a.eval (.tmp 181)) (w' := w') rfl (Rg.wanted_none rfl) (by simp) rfl e181 (Below.refl _ _)
                              case s5 =>
                                intro a w' hp
                                have e3 : a.eval (.tmp 3) = .int .i64 (kk : Int) := hp.rest 3 (by rfl)
                                exact Rg.step_run (v := a.eval (.tmp 3)) (w' := w') rfl (Rg.wanted_some (g := 4) (b := false) (d := 182) rfl (by rfl) (hp.at_ 4 (by rfl))) (by simp) rfl e3 (Below.refl _ _)
                              case s6 =>
                                intro a w' hp
                                have e183 : a.eval (.tmp 183) = .int .i64 (kk : Int) := hp.at_ 5 (by rfl)
                                refine Rg.step_run (v := .bool true) (w' := w') rfl (Rg.wanted_some (g := 4) (b := false) (d := 182) rfl (by rfl) (hp.at_ 4 (by rfl))) (by simp) ?_ rfl (Below.refl _ _)
                                clear hp
                                obtain ⟨ec, eg, ef⟩ := Rg.eval_at a
                                generalize a.eval = ρ at *
                                go_simp
                              case s7 =>
                                intro a w' hp
                                have e184 : a.eval (.tmp 184) = .bool true := hp.at_ 6 (by rfl)
                                exact Rg.step_run (v := a.eval (.tmp 184)) (w' := w') rfl (Rg.wanted_some (g := 4) (b := false) (d := 182) rfl (by rfl) (hp.at_ 4 (by rfl))) (by simp) rfl e184 (Below.refl _ _)
                              case s8 =>
                                intro a w' hp
                                have e19 : a.eval (.tmp 19) = .pointer (some ⟨bx, 0, none⟩) := hp.rest 19 (by rfl)
                                refine Rg.step_run (v := .pointer (some ⟨bx, 5, none⟩)) (w' := w') rfl (Rg.wanted_some (g := 7) (b := true) (d := 185) rfl (by rfl) (hp.at_ 7 (by rfl))) (by simp) ?_ rfl (Below.refl _ _)
                                clear hp
                                obtain ⟨ec, eg, ef⟩ := Rg.eval_at a
                                generalize a.eval = ρ at *
                                go_simp
                              case s9 =>
                                intro a w' hp
                                have e186 : a.eval (.tmp 186) = .pointer (some ⟨bx, 5, none⟩) := hp.at_ 8 (by rfl)
                                have tq := (hp.grew.cell (p := ⟨bx, 5, none⟩) hbxw).trans d5
                                refine Rg.step_run (v := .int .i64 x.prio) (w' := w') rfl (Rg.wanted_some (g := 7) (b := true) (d := 185) rfl (by rfl) (hp.at_ 7 (by rfl))) (by simp) ?_ rfl (Below.refl _ _)
                                clear hp
                                obtain ⟨ec, eg, ef⟩ := Rg.eval_at a
                                generalize a.eval = ρ at *
                                go_simp
                              case s10 =>
                                intro a w' hp
                                have e15 : a.eval (.tmp 15) = .slice (some ⟨ba, oa, none⟩) kk c3 := hp.rest 15 (by rfl)
                                exact Rg.step_run (v := a.eval (.tmp 15)) (w' := w') rfl (Rg.wanted_some (g := 7) (b := true) (d := 185) rfl (by rfl) (hp.at_ 7 (by rfl))) (by simp) rfl e15 (Below.refl _ _)
                              case s11 =>
                                intro a w' hp
                                have e3 : a.eval (.tmp 3) = .int .i64 (kk : Int) := hp.rest 3 (by rfl)
                                exact Rg.step_run (v := a.eval (.tmp 3)) (w' := w') rfl (Rg.wanted_some (g := 7) (b := true) (d := 185) rfl (by rfl) (hp.at_ 7 (by rfl))) (by simp) rfl e3 (Below.refl _ _)
                              case s12 =>
                                intro a w' hp
                                have e189 : a.eval (.tmp 189) = .int .i64 (kk : Int) := hp.at_ 11 (by rfl)
                                refine Rg.step_run (v := .int .i64 ((kk : Int) - 1)) (w' := w') rfl (Rg.wanted_some (g := 7) (b := true) (d := 185) rfl (by rfl) (hp.at_ 7 (by rfl))) (by simp) ?_ rfl (Below.refl _ _)
                                clear hp
                                obtain ⟨ec, eg, ef⟩ := Rg.eval_at a
                                generalize a.eval = ρ at *
                                go_simp
                              case s13 =>
                                intro a w' hp
                                have e188 : a.eval (.tmp 188) = .slice (some ⟨ba, oa, none⟩) kk c3 := hp.at_ 10 (by rfl)
                                have e190 : a.eval (.tmp 190) = .int .i64 ((kk : Int) - 1) := hp.at_ 12 (by rfl)
                                refine Rg.step_run (v := .pointer (some ⟨ba, oa + (kk - 1) * 12, none⟩)) (w' := w') rfl (Rg.wanted_some (g := 7) (b := true) (d := 185) rfl (by rfl) (hp.at_ 7 (by rfl))) (by simp) ?_ rfl (Below.refl _ _)
                                clear hp
                                obtain ⟨ec, eg, ef⟩ := Rg.eval_at a
                                generalize a.eval = ρ at *
                                go_simp
                              case s14 =>
                                intro a w' hp
                                have e191 : a.eval (.tmp 191) = .pointer (some ⟨ba, oa + (kk - 1) * 12, none⟩) := hp.at_ 13 (by rfl)
                                refine Rg.step_run (v := .pointer (some ⟨ba, oa + (kk - 1) * 12 + 5, none⟩)) (w' := w') rfl (Rg.wanted_some (g := 7) (b := true) (d := 185) rfl (by rfl) (hp.at_ 7 (by rfl))) (by simp) ?_ rfl (Below.refl _ _)
                                clear hp
                                obtain ⟨ec, eg, ef⟩ := Rg.eval_at a
                                generalize a.eval = ρ at *
                                go_simp
                              case s15 =>
                                intro a w' hp
                                have e192 : a.eval (.tmp 192) = .pointer (some ⟨ba, oa + (kk - 1) * 12 + 5, none⟩) := hp.at_ 14 (by rfl)
                                have tq := (hp.grew.cell (p := ⟨ba, oa + (kk - 1) * 12 + 5, none⟩) hba).trans s5
                                refine Rg.step_run (v := .int .i64 py) (w' := w') rfl (Rg.wanted_some (g := 7) (b := true) (d := 185) rfl (by rfl) (hp.at_ 7 (by rfl))) (by simp) ?_ rfl (Below.refl _ _)
                                clear hp
                                obtain ⟨ec, eg, ef⟩ := Rg.eval_at a
                                generalize a.eval = ρ at *
                                go_simp
                              case s16 =>
                                intro a w' hp
                                have e187 : a.eval (.tmp 187) = .int .i64 x.prio := hp.at_ 9 (by rfl)
                                have e193 : a.eval (.tmp 193) = .int .i64 py := hp.at_ 15 (by rfl)
                                refine Rg.step_run (v := .bool false) (w' := w') rfl (Rg.wanted_some (g := 7) (b := true) (d := 185) rfl (by rfl) (hp.at_ 7 (by rfl))) (by simp) ?_ rfl (Below.refl _ _)
                                clear hp
                                obtain ⟨ec, eg, ef⟩ := Rg.eval_at a
                                generalize a.eval = ρ at *
                                go_simp
                              case s17 =>
                                intro a w' hp
                                have e194 : a.eval (.tmp 194) = .bool false := hp.at_ 16 (by rfl)
                                exact Rg.step_run (v := a.eval (.tmp 194)) (w' := w') rfl (Rg.wanted_some (g := 7) (b := true) (d := 185) rfl (by rfl) (hp.at_ 7 (by rfl))) (by simp) rfl e194 (Below.refl _ _)
                              case s18 =>
                                intro a w' hp
                                have e19 : a.eval (.tmp 19) = .pointer (some ⟨bx, 0, none⟩) := hp.rest 19 (by rfl)
                                refine Rg.step_run (v := .pointer (some ⟨bx, 5, none⟩)) (w' := w') rfl (Rg.wanted_some (g := 17) (b := false) (d := 195) rfl (by rfl) (hp.at_ 17 (by rfl))) (by simp) ?_ rfl (Below.refl _ _)
                                clear hp
                                obtain ⟨ec, eg, ef⟩ := Rg.eval_at a
                                generalize a.eval = ρ at *
                                go_simp
                              case s19 =>
                                intro a w' hp
                                have e196 : a.eval (.tmp 196) = .pointer (some ⟨bx, 5, none⟩) := hp.at_ 18 (by rfl)
                                have tq := (hp.grew.cell (p := ⟨bx, 5, none⟩) hbxw).trans d5
                                refine Rg.step_run (v := .int .i64 x.prio) (w' := w') rfl (Rg.wanted_some (g := 17) (b := false) (d := 195) rfl (by rfl) (hp.at_ 17 (by rfl))) (by simp) ?_ rfl (Below.refl _ _)
                                clear hp
                                obtain ⟨ec, eg, ef⟩ := Rg.eval_at a
                                generalize a.eval = ρ at *
                                go_simp
                              case s20 =>
                                intro a w' hp
                                have e15 : a.eval (.tmp 15) = .slice (some ⟨ba, oa, none⟩) kk c3 := hp.rest 15 (by rfl)
                                exact Rg.step_run (v := a.eval (.tmp 15)) (w' := w') rfl (Rg.wanted_some (g := 17) (b := false) (d := 195) rfl (by rfl) (hp.at_ 17 (by rfl))) (by simp) rfl e15 (Below.refl _ _)
                              case s21 =>
                                intro a w' hp
                                have e3 : a.eval (.tmp 3) = .int .i64 (kk : Int) := hp.rest 3 (by rfl)
                                exact Rg.step_run (v := a.eval (.tmp 3)) (w' := w') rfl (Rg.wanted_some (g := 17) (b := false) (d := 195) rfl (by rfl) (hp.at_ 17 (by rfl))) (by simp) rfl e3 (Below.refl _ _)
                              case s22 =>
                                intro a w' hp
                                have e199 : a.eval (.tmp 199) = .int .i64 (kk : Int) := hp.at_ 21 (by rfl)
                                refine Rg.step_run (v := .int .i64 ((kk : Int) - 1)) (w' := w') rfl (Rg.wanted_some (g := 17) (b := false) (d := 195) rfl (by rfl) (hp.at_ 17 (by rfl))) (by simp) ?_ rfl (Below.refl _ _)
                                clear hp
                                obtain ⟨ec, eg, ef⟩ := Rg.eval_at a
                                generalize a.eval = ρ at *
                                go_simp
                              case s23 =>
                                intro a w' hp
                                have e198 : a.eval (.tmp 198) = .slice (some ⟨ba, oa, none⟩) kk c3 := hp.at_ 20 (by rfl)
                                have e200 : a.eval (.tmp 200) = .int .i64 ((kk : Int) - 1) := hp.at_ 22 (by rfl)
                                refine Rg.step_run (v := .pointer (some ⟨ba, oa + (kk - 1) * 12, none⟩)) (w' := w') rfl (Rg.wanted_some (g := 17) (b := false) (d := 195) rfl (by rfl) (hp.at_ 17 (by rfl))) (by simp) ?_ rfl (Below.refl _ _)
                                clear hp
                                obtain ⟨ec, eg, ef⟩ := Rg.eval_at a
                                generalize a.eval = ρ at *
                                go_simp
                              case s24 =>
                                intro a w' hp
                                have e201 : a.eval (.tmp 201) = .pointer (some ⟨ba, oa + (kk - 1) * 12, none⟩) := hp.at_ 23 (by rfl)
                                refine Rg.step_run (v := .pointer (some ⟨ba, oa + (kk - 1) * 12 + 5, none⟩)) (w' := w') rfl (Rg.wanted_some (g := 17) (b := false) (d := 195) rfl (by rfl) (hp.at_ 17 (by rfl))) (by simp) ?_ rfl (Below.refl _ _)
                                clear hp
                                obtain ⟨ec, eg, ef⟩ := Rg.eval_at a
                                generalize a.eval = ρ at *
                                go_simp
                              case s25 =>
                                intro a w' hp
                                have e202 : a.eval (.tmp 202) = .pointer (some ⟨ba, oa + (kk - 1) * 12 + 5, none⟩) := hp.at_ 24 (by rfl)
                                have tq := (hp.grew.cell (p := ⟨ba, oa + (kk - 1) * 12 + 5, none⟩) hba).trans s5
                                refine Rg.step_run (v := .int .i64 py) (w' := w') rfl (Rg.wanted_some (g := 17) (b := false) (d := 195) rfl (by rfl) (hp.at_ 17 (by rfl))) (by simp) ?_ rfl (Below.refl _ _)
                                clear hp
                                obtain ⟨ec, eg, ef⟩ := Rg.eval_at a
                                generalize a.eval = ρ at *
                                go_simp
                              case s26 =>
                                intro a w' hp
                                have e197 : a.eval (.tmp 197) = .int .i64 x.prio := hp.at_ 19 (by rfl)
                                have e203 : a.eval (.tmp 203) = .int .i64 py := hp.at_ 25 (by rfl)
                                refine Rg.step_run (v := .bool true) (w' := w') rfl (Rg.wanted_some (g := 17) (b := false) (d := 195) rfl (by rfl) (hp.at_ 17 (by rfl))) (by simp) ?_ rfl (Below.refl _ _)
                                clear hp
                                obtain ⟨ec, eg, ef⟩ := Rg.eval_at a
                                generalize a.eval = ρ at *
                                go_simp
                              case s27 =>
                                intro a w' hp
                                have e204 : a.eval (.tmp 204) = .bool true := hp.at_ 26 (by rfl)
                                exact Rg.step_run (v := a.eval (.tmp 204)) (w' := w') rfl (Rg.wanted_some (g := 17) (b := false) (d := 195) rfl (by rfl) (hp.at_ 17 (by rfl))) (by simp) rfl e204 (Below.refl _ _)
                              case s28 =>
                                intro a w' hp
                                have e19 : a.eval (.tmp 19) = .pointer (some ⟨bx, 0, none⟩) := hp.rest 19 (by rfl)
                                refine Rg.step_run (v := .pointer (some ⟨bx, 0, none⟩)) (w' := w') rfl (Rg.wanted_some (g := 27) (b := true) (d := 205) rfl (by rfl) (hp.at_ 27 (by rfl))) (by simp) ?_ rfl (Below.refl _ _)
                                clear hp
                                obtain ⟨ec, eg, ef⟩ := Rg.eval_at a
                                generalize a.eval = ρ at *
                                go_simp
                              case s29 =>
                                intro a w' hp
                                have e206 : a.eval (.tmp 206) = .pointer (some ⟨bx, 0, none⟩) := hp.at_ 28 (by rfl)
                                have tq := (hp.grew.cell (p := ⟨bx, 0, none⟩) hbxw).trans d0
                                refine Rg.step_run (v := .int .i64 x.id) (w' := w') rfl (Rg.wanted_some (g := 27) (b := true) (d := 205) rfl (by rfl) (hp.at_ 27 (by rfl))) (by simp) ?_ rfl (Below.refl _ _)
                                clear hp
                                obtain ⟨ec, eg, ef⟩ := Rg.eval_at a
                                generalize a.eval = ρ at *
                                go_simp
                              case s30 =>
                                intro a w' hp
                                have e15 : a.eval (.tmp 15) = .slice (some ⟨ba, oa, none⟩) kk c3 := hp.rest 15 (by rfl)
                                exact Rg.step_run (v := a.eval (.tmp 15)) (w' := w') rfl (Rg.wanted_some (g := 27) (b := true) (d := 205) rfl (by rfl) (hp.at_ 27 (by rfl))) (by simp) rfl e15 (Below.refl _ _)
                              case s31 =>
                                intro a w' hp
                                have e3 : a.eval (.tmp 3) = .int .i64 (kk : Int) := hp.rest 3 (by rfl)
                                exact Rg.step_run (v := a.eval (.tmp 3)) (w' := w') rfl (Rg.wanted_some (g := 27) (b := true) (d := 205) rfl (by rfl) (hp.at_ 27 (by rfl))) (by simp) rfl e3 (Below.refl _ _)
                              case s32 =>
                                intro a w' hp
                                have e209 : a.eval (.tmp 209) = .int .i64 (kk : Int) := hp.at_ 31 (by rfl)
                                refine Rg.step_run (v := .int .i64 ((kk : Int) - 1)) (w' := w') rfl (Rg.wanted_some (g := 27) (b := true) (d := 205) rfl (by rfl) (hp.at_ 27 (by rfl))) (by simp) ?_ rfl (Below.refl _ _)
                                clear hp
                                obtain ⟨ec, eg, ef⟩ := Rg.eval_at a
                                generalize a.eval = ρ at *
                                go_simp
                              case s33 =>
                                intro a w' hp
                                have e208 : a.eval (.tmp 208) = .slice (some ⟨ba, oa, none⟩) kk c3 := hp.at_ 30 (by rfl)
                                have e210 : a.eval (.tmp 210) = .int .i64 ((kk : Int) - 1) := hp.at_ 32 (by rfl)
                                refine Rg.step_run (v := .pointer (some ⟨ba, oa + (kk - 1) * 12, none⟩)) (w' := w') rfl (Rg.wanted_some (g := 27) (b := true) (d := 205) rfl (by rfl) (hp.at_ 27 (by rfl))) (by simp) ?_ rfl (Below.refl _ _)
                                clear hp
                                obtain ⟨ec, eg, ef⟩ := Rg.eval_at a
                                generalize a.eval = ρ at *
                                go_simp
                              case s34 =>
                                intro a w' hp
                                have e211 : a.eval (.tmp 211) = .pointer (some ⟨ba, oa + (kk - 1) * 12, none⟩) := hp.at_ 33 (by rfl)
                                refine Rg.step_run (v := .pointer (some ⟨ba, oa + (kk - 1) * 12, none⟩)) (w' := w') rfl (Rg.wanted_some (g := 27) (b := true) (d := 205) rfl (by rfl) (hp.at_ 27 (by rfl))) (by simp) ?_ rfl (Below.refl _ _)
                                clear hp
                                obtain ⟨ec, eg, ef⟩ := Rg.eval_at a
                                generalize a.eval = ρ at *
                                go_simp
                              case s35 =>
                                intro a w' hp
                                have e212 : a.eval (.tmp 212) = .pointer (some ⟨ba, oa + (kk - 1) * 12, none⟩) := hp.at_ 34 (by rfl)
                                have tq := (hp.grew.cell (p := ⟨ba, oa + (kk - 1) * 12, none⟩) hba).trans s0
                                refine Rg.step_run (v := .int .i64 iy) (w' := w') rfl (Rg.wanted_some (g := 27) (b := true) (d := 205) rfl (by rfl) (hp.at_ 27 (by rfl))) (by simp) ?_ rfl (Below.refl _ _)
                                clear hp
                                obtain ⟨ec, eg, ef⟩ := Rg.eval_at a
                                generalize a.eval = ρ at *
                                go_simp
                              case s36 =>
                                intro a w' hp
                                have e207 : a.eval (.tmp 207) = .int .i64 x.id := hp.at_ 29 (by rfl)
                                have e213 : a.eval (.tmp 213) = .int .i64 iy := hp.at_ 35 (by rfl)
                                refine Rg.step_run (v := .bool false) (w' := w') rfl (Rg.wanted_some (g := 27) (b := true) (d := 205) rfl (by rfl) (hp.at_ 27 (by rfl))) (by simp) ?_ rfl (Below.refl _ _)
                                clear hp
                                obtain ⟨ec, eg, ef⟩ := Rg.eval_at a
                                generalize a.eval = ρ at *
                                go_simp
                              case s37 =>
                                intro a w' hp
                                have e205 : a.eval (.tmp 205) = .bool true := hp.at_ 27 (by rfl)
                                have e214 : a.eval (.tmp 214) = .bool false := hp.at_ 36 (by rfl)
                                refine Rg.step_run (v := .bool false) (w' := w') rfl (Rg.wanted_some (g := 17) (b := false) (d := 195) rfl (by rfl) (hp.at_ 17 (by rfl))) (by simp) ?_ rfl (Below.refl _ _)
                                clear hp
                                obtain ⟨ec, eg, ef⟩ := Rg.eval_at a
                                generalize a.eval = ρ at *
                                go_simp
                              case s38 =>
                                intro a w' hp
                                have e195 : a.eval (.tmp 195) = .bool false := hp.at_ 17 (by rfl)
                                have e215 : a.eval (.tmp 215) = .bool false := hp.at_ 37 (by rfl)
                                refine Rg.step_run (v := .bool false) (w' := w') rfl (Rg.wanted_some (g := 7) (b := true) (d := 185) rfl (by rfl) (hp.at_ 7 (by rfl))) (by simp) ?_ rfl (Below.refl _ _)
                                clear hp
                                obtain ⟨ec, eg, ef⟩ := Rg.eval_at a
                                generalize a.eval = ρ at *
                                go_simp
                              case s39 =>
                                intro a w' hp
                                have e185 : a.eval (.tmp 185) = .bool true := hp.at_ 7 (by rfl)
                                have e216 : a.eval (.tmp 216) = .bool false := hp.at_ 38 (by rfl)
                                refine Rg.step_run (v := .bool false) (w' := w') rfl (Rg.wanted_some (g := 4) (b := false) (d := 182) rfl (by rfl) (hp.at_ 4 (by rfl))) (by simp) ?_ rfl (Below.refl _ _)
                                clear hp
                                obtain ⟨ec, eg, ef⟩ := Rg.eval_at a
                                generalize a.eval = ρ at *
                                go_simp
                              case s40 =>
                                intro a w' hp
                                have e182 : a.eval (.tmp 182) = .bool false := hp.at_ 4 (by rfl)
                                have e217 : a.eval (.tmp 217) = .bool false := hp.at_ 39 (by rfl)
                                refine Rg.step_run (v := .bool false) (w' := w') rfl (Rg.wanted_none rfl) (by simp) ?_ rfl (Below.refl _ _)
                                clear hp
                                obtain ⟨ec, eg, ef⟩ := Rg.eval_at a
                                generalize a.eval = ρ at *
                                go_simp
                              case mono =>
                                refine Rg.mono_getD _ ?_
                                intro p hp
                                repeat (rcases List.mem_cons.1 hp with rfl | hp; exact Rg.mono_eq _)
                                cases hp
                              case fin =>
                                intro a w' hsz hdf hrest hdone hbf
                                have hv : a.tmps.getD 218 undef = .bool false := hdone 40 (by decide)
                                have ha := Rg.act_puts hsz hdf hrest [178, 179, 180, 181, 182, 183, 184, 185, 186, 187, 188, 189, 190, 191, 192, 193, 194, 195, 196, 197, 198, 199, 200, 201, 202, 203, 204, 205, 206, 207, 208, 209, 210, 211, 212, 213, 214, 215, 216, 217, 218] (by kernel_rfl)
                                simp only [List.foldl_cons, List.foldl_nil, Act.put, List.setIfInBounds_toArray, List.set_cons_zero, List.set_cons_succ] at ha
                                rw [hv] at ha
                                clear hsz hdf hrest hdone hv
                                rw [ha]
                                clear ha
                                go_wp2
                                go_roundw
                                case rel =>
                                  have e66 : decide ((kk : Int) < (kk : Int)) = false := decide_eq_false (by omega)
                                  rw [e66]
                                  repeat apply Exists.intro
                                  refine ⟨?_, rfl⟩
                                  exact ⟨ii + 1, by first | rfl | go_num, by omega, HB6.out.trans (hbf.mono HB6.out.size)⟩
                                case measure =>
                                  change n5 - ((ii : Int) + 1).toNat < n5 - ((ii : Int)).toNat
                                  omega
                            · have hbxw := HCX.out.lt
                              clear hm3 hm4
                              go_wp2_with fail
                              refine Rg.region_each (by kernel_rfl) (fun i => ([
                                  (fun v _ => v = .slice (some ⟨ba, oa, none⟩) kk c3),
                                  (fun v _ => v = .int .i64 (kk : Int)),
                                  (fun v _ => v = .int .i64 (kk : Int)),
                                  (fun v _ => v = .bool false),
                                  (fun v _ => v = .bool false),
                                  (fun v _ => v = .int .i64 (kk : Int)),
                                  (fun v _ => v = .bool true),
                                  (fun v _ => v = .bool true),
                                  (fun v _ => v = .pointer (some ⟨bx, 5, none⟩)),
                                  (fun v _ => v = .int .i64 x.prio),
                                  (fun v _ => v = .slice (some ⟨ba, oa, none⟩) kk c3),
                                  (fun v _ => v = .int .i64 (kk : Int)),
                                  (fun v _ => v = .int .i64 ((kk : Int) - 1)),
                                  (fun v _ => v = .pointer (some ⟨ba, oa + (kk - 1) * 12, none⟩)),
                                  (fun v _ => v = .pointer (some ⟨ba, oa + (kk - 1) * 12 + 5, none⟩)),
                                  (fun v _ => v = .int .i64 py),
                                  (fun v _ => v = .bool false),
                                  (fun v _ => v = .bool false),
                                  (fun v _ => v = .pointer (some ⟨bx, 5, none⟩)),
                                  (fun v _ => v = .int .i64 x.prio),
                                  (fun v _ => v = .slice (some ⟨ba, oa, none⟩) kk c3),
                                  (fun v _ => v = .int .i64 (kk : Int)),
                                  (fun v _ => v = .int .i64 ((kk : Int) - 1)),
                                  (fun v _ => v = .pointer (some ⟨ba, oa + (kk - 1) * 12, none⟩)),
                                  (fun v _ => v = .pointer (some ⟨ba, oa + (kk - 1) * 12 + 5, none⟩)),
                                  (fun v _ => v = .int .i64 py),
                                  (fun v _ => v = .bool false),
                                  (fun v _ => v = .bool false),
                                  (fun v _ => v = undef),
                                  (fun v _ => v = undef),
                                  (fun v _ => v = undef),
                                  (fun v _ => v = undef),
                                  (fun v _ => v = undef),
                                  (fun v _ => v = undef),
                                  (fun v _ => v = undef),
                                  (fun v _ => v = undef),
                                  (fun v _ => v = undef),
                                  (fun v _ => v = .bool false),
                                  (fun v _ => v = .bool false),
                                  (fun v _ => v = .bool false),
                                  (fun v _ => v = .bool false)
                                  ] : List (Value → World → Prop)).getD i (fun _ _ => True)) (by kernel_rfl) ?mono (Rg.by_each _ ⟨?s0, ?s1, ?s2, ?s3, ?s4, ?s5, ?s6, ?s7, ?s8, ?s9, ?s10, ?s11, ?s12, ?s13, ?s14, ?s15, ?s16, ?s17, ?s18, ?s19, ?s20, ?s21, ?s22, ?s23, ?s24, ?s25, ?s26, ?s27, ?s28, ?s29, ?s30, ?s31, ?s32, ?s33, ?s34, ?s35, ?s36, ?s37, ?s38, ?s39, ?s40, trivial⟩) ?fin
                              case s0 =>
                                intro a w' hp
                                have e15 : a.eval (.tmp 15) = .slice (some ⟨ba, oa, none⟩) kk c3 := hp.rest 15 (by rfl)
                                exact Rg.step_run (v := a.eval (.tmp 15)) (w' := w') rfl (Rg.wanted_none rfl) (by simp) rfl e15 (Below.refl _ _)
                              case s1 =>
                                intro a w' hp
                                have e178 : a.eval (.tmp 178) = .slice (some ⟨ba, oa, none⟩) kk c3 := hp.at_ 0 (by rfl)
                                refine Rg.step_run (v := .int .i64 (kk : Int)) (w' := w') rfl (Rg.wanted_none rfl) (by simp) ?_ rfl (Below.refl _ _)
                                clear hp
                                obtain ⟨ec, eg, ef⟩ := Rg.eval_at a
                                generalize a.eval = ρ at *
                                go_simp
                              case s2 =>
                                intro a w' hp
                                have e3 : a.eval (.tmp 3) = .int .i64 (kk : Int) := hp.rest 3 (by rfl)
                                exact Rg.step_run (v := a.eval (.tmp 3)) (w' := w') rfl (Rg.wanted_none rfl) (by simp) rfl e3 (Below.refl _ _)
                              case s3 =>
                                intro a w' hp
                                have e179 : a.eval (.tmp 179) = .int .i64 (kk : Int) := hp.at_ 1 (by rfl)
                                have e180 : a.eval (.tmp 180) = .int .i64 (kk : Int) := hp.at_ 2 (by rfl)
                                refine Rg.step_run (v := .bool false) (w' := w') rfl (Rg.wanted_none rfl) (by simp) ?_ rfl (Below.refl _ _)
                                clear hp
                                obtain ⟨ec, eg, ef⟩ := Rg.eval_at a
                                generalize a.eval = ρ at *
                                go_simp
                              case s4 =>
                                intro a w' hp
                                have e181 : a.eval (.tmp 181) = .bool false := hp.at_ 3 (by rfl)
                                exact Rg.step_run (v := a.eval (.tmp 181)) (w' := w') rfl (Rg.wanted_none rfl) (by simp) rfl e181 (Below.refl _ _)
                              case s5 =>
                                intro a w' hp
                                have e3 : a.eval (.tmp 3) = .int .i64 (kk : Int) := hp.rest 3 (by rfl)
                                exact Rg.step_run (v := a.eval (.tmp 3)) (w' := w') rfl (Rg.wanted_some (g := 4) (b := false) (d := 182) rfl (by rfl) (hp.at_ 4 (by rfl))) (by simp) rfl e3 (Below.refl _ _)
                              case s6 =>
                                intro a w' hp
                                have e183 : a.eval (.tmp 183) = .int .i64 (kk : Int) := hp.at_ 5 (by rfl)
                                refine Rg.step_run (v := .bool true) (w' := w') rfl (Rg.wanted_some (g := 4) (b := false) (d := 182) rfl (by rfl) (hp.at_ 4 (by rfl))) (by simp) ?_ rfl (Below.refl _ _)
                                clear hp
                                obtain ⟨ec, eg, ef⟩ := Rg.eval_at a
                                generalize a.eval = ρ at *
                                go_simp
                              case s7 =>
                                intro a w' hp
                                have e184 : a.eval (.tmp 184) = .bool true := hp.at_ 6 (by rfl)
                                exact Rg.step_run (v := a.eval (.tmp 184)) (w' := w') rfl (Rg.wanted_some (g := 4) (b := false) (d := 182) rfl (by rfl) (hp.at_ 4 (by rfl))) (by simp) rfl e184 (Below.refl _ _)
                              case s8 =>
                                intro a w' hp
                                have e19 : a.eval (.tmp 19) = .pointer (some ⟨bx, 0, none⟩) := hp.rest 19 (by rfl)
                                refine Rg.step_run (v := .pointer (some ⟨bx, 5, none⟩)) (w' := w') rfl (Rg.wanted_some (g := 7) (b := true) (d := 185) rfl (by rfl) (hp.at_ 7 (by rfl))) (by simp) ?_ rfl (Below.refl _ _)
                                clear hp
                                obtain ⟨ec, eg, ef⟩ := Rg.eval_at a
                                generalize a.eval = ρ at *
                                go_simp
                              case s9 =>
                                intro a w' hp
                                have e186 : a.eval (.tmp 186) = .pointer (some ⟨bx, 5, none⟩) := hp.at_ 8 (by rfl)
                                have tq := (hp.grew.cell (p := ⟨bx, 5, none⟩) hbxw).trans d5
                                refine Rg.step_run (v := .int .i64 x.prio) (w' := w') rfl (Rg.wanted_some (g := 7) (b := true) (d := 185) rfl (by rfl) (hp.at_ 7 (by rfl))) (by simp) ?_ rfl (Below.refl _ _)
                                clear hp
                                obtain ⟨ec, eg, ef⟩ := Rg.eval_at a
                                generalize a.eval = ρ at *
                                go_simp
                              case s10 =>
                                intro a w' hp
                                have e15 : a.eval (.tmp 15) = .slice (some ⟨ba, oa, none⟩) kk c3 := hp.rest 15 (by rfl)
                                exact Rg.step_run (v := a.eval (.tmp 15)) (w' := w') rfl (Rg.wanted_some (g := 7) (b := true) (d := 185) rfl (by rfl) (hp.at_ 7 (by rfl))) (by simp) rfl e15 (Below.refl _ _)
                              case s11 =>
                                intro a w' hp
                                have e3 : a.eval (.tmp 3) = .int .i64 (kk : Int) := hp.rest 3 (by rfl)
                                exact Rg.step_run (v := a.eval (.tmp 3)) (w' := w') rfl (Rg.wanted_some (g := 7) (b := true) (d := 185) rfl (by rfl) (hp.at_ 7 (by rfl))) (by simp) rfl e3 (Below.refl _ _)
                              case s12 =>
                                intro a w' hp
                                have e189 : a.eval (.tmp 189) = .int .i64 (kk : Int) := hp.at_ 11 (by rfl)
                                refine Rg.step_run (v := .int .i64 ((kk : Int) - 1)) (w' := w') rfl (Rg.wanted_some (g := 7) (b := true) (d := 185) rfl (by rfl) (hp.at_ 7 (by rfl))) (by simp) ?_ rfl (Below.refl _ _)
                                clear hp
                                obtain ⟨ec, eg, ef⟩ := Rg.eval_at a
                                generalize a.eval = ρ at *
                                go_simp
                              case s13 =>
                                intro a w' hp
                                have e188 : a.eval (.tmp 188) = .slice (some ⟨ba, oa, none⟩) kk c3 := hp.at_ 10 (by rfl)
                                have e190 : a.eval (.tmp 190) = .int .i64 ((kk : Int) - 1) := hp.at_ 12 (by rfl)
                                refine Rg.step_run (v := .pointer (some ⟨ba, oa + (kk - 1) * 12, none⟩)) (w' := w') rfl (Rg.wanted_some (g := 7) (b := true) (d := 185) rfl (by rfl) (hp.at_ 7 (by rfl))) (by simp) ?_ rfl (Below.refl _ _)
                                clear hp
                                obtain ⟨ec, eg, ef⟩ := Rg.eval_at a
                                generalize a.eval = ρ at *
                                go_simp
                              case s14 =>
                                intro a w' hp
                                have e191 : a.eval (.tmp 191) = .pointer (some ⟨ba, oa + (kk - 1) * 12, none⟩) := hp.at_ 13 (by rfl)
                                refine Rg.step_run (v := .pointer (some ⟨ba, oa + (kk - 1) * 12 + 5, none⟩)) (w' := w') rfl (Rg.wanted_some (g := 7) (b := true) (d := 185) rfl (by rfl) (hp.at_ 7 (by rfl))) (by simp) ?_ rfl (Below.refl _ _)
                                clear hp
                                obtain ⟨ec, eg, ef⟩ := Rg.eval_at a
                                generalize a.eval = ρ at *
                                go_simp
                              case s15 =>
                                intro a w' hp
                                have e192 : a.eval (.tmp 192) = .pointer (some ⟨ba, oa + (kk - 1) * 12 + 5, none⟩) := hp.at_ 14 (by rfl)
                                have tq := (hp.grew.cell (p := ⟨ba, oa + (kk - 1) * 12 + 5, none⟩) hba).trans s5
                                refine Rg.step_run (v := .int .i64 py) (w' := w') rfl (Rg.wanted_some (g := 7) (b := true) (d := 185) rfl (by rfl) (hp.at_ 7 (by rfl))) (by simp) ?_ rfl (Below.refl _ _)
                                clear hp
                                obtain ⟨ec, eg, ef⟩ := Rg.eval_at a
                                generalize a.eval = ρ at *
                                go_simp
                              case s16 =>
                                intro a w' hp
                                have e187 : a.eval (.tmp 187) = .int .i64 x.prio := hp.at_ 9 (by rfl)
                                have e193 : a.eval (.tmp 193) = .int .i64 py := hp.at_ 15 (by rfl)
                                refine Rg.step_run (v := .bool false) (w' := w') rfl (Rg.wanted_some (g := 7) (b := true) (d := 185) rfl (by rfl) (hp.at_ 7 (by rfl))) (by simp) ?_ rfl (Below.refl _ _)
                                clear hp
                                obtain ⟨ec, eg, ef⟩ := Rg.eval_at a
                                generalize a.eval = ρ at *
                                go_simp
                              case s17 =>
                                intro a w' hp
                                have e194 : a.eval (.tmp 194) = .bool false := hp.at_ 16 (by rfl)
                                exact Rg.step_run (v := a.eval (.tmp 194)) (w' := w') rfl (Rg.wanted_some (g := 7) (b := true) (d := 185) rfl (by rfl) (hp.at_ 7 (by rfl))) (by simp) rfl e194 (Below.refl _ _)
                              case s18 =>
                                intro a w' hp
                                have e19 : a.eval (.tmp 19) = .pointer (some ⟨bx, 0, none⟩) := hp.rest 19 (by rfl)
                                refine Rg.step_run (v := .pointer (some ⟨bx, 5, none⟩)) (w' := w') rfl (Rg.wanted_some (g := 17) (b := false) (d := 195) rfl (by rfl) (hp.at_ 17 (by rfl))) (by simp) ?_ rfl (Below.refl _ _)
                                clear hp
                                obtain ⟨ec, eg, ef⟩ := Rg.eval_at a
                                generalize a.eval = ρ at *
                                go_simp
                              case s19 =>
                                intro a w' hp
                                have e196 : a.eval (.tmp 196) = .pointer (some ⟨bx, 5, none⟩) := hp.at_ 18 (by rfl)
                                have tq := (hp.grew.cell (p := ⟨bx, 5, none⟩) hbxw).trans d5
                                refine Rg.step_run (v := .int .i64 x.prio) (w' := w') rfl (Rg.wanted_some (g := 17) (b := false) (d := 195) rfl (by rfl) (hp.at_ 17 (by rfl))) (by simp) ?_ rfl (Below.refl _ _)
                                clear hp
                                obtain ⟨ec, eg, ef⟩ := Rg.eval_at a
                                generalize a.eval = ρ at *
                                go_simp
                              case s20 =>
                                intro a w' hp
                                have e15 : a.eval (.tmp 15) = .slice (some ⟨ba, oa, none⟩) kk c3 := hp.rest 15 (by rfl)
                                exact Rg.step_run (v := a.eval (.tmp 15)) (w' := w') rfl (Rg.wanted_some (g := 17) (b := false) (d := 195) rfl (by rfl) (hp.at_ 17 (by rfl))) (by simp) rfl e15 (Below.refl _ _)
                              case s21 =>
                                intro a w' hp
                                have e3 : a.eval (.tmp 3) = .int .i64 (kk : Int) := hp.rest 3 (by rfl)
                                exact Rg.step_run (v := a.eval (.tmp 3)) (w' := w') rfl (Rg.wanted_some (g := 17) (b := false) (d := 195) rfl (by rfl) (hp.at_ 17 (by rfl))) (by simp) rfl e3 (Below.refl _ _)
                              case s22 =>
                                intro a w' hp
                                have e199 : a.eval (.tmp 199) = .int .i64 (kk : Int) := hp.at_ 21 (by rfl)
                                refine Rg.step_run (v := .int .i64 ((kk : Int) - 1)) (w' := w') rfl (Rg.wanted_some (g := 17) (b := false) (d := 195) rfl (by rfl) (hp.at_ 17 (by rfl))) (by simp) ?_ rfl (Below.refl _ _)
                                clear hp
                                obtain ⟨ec, eg, ef⟩ := Rg.eval_at a
                                generalize a.eval = ρ at *
                                go_simp
                              case s23 =>
                                intro a w' hp
                                have e198 : a.eval (.tmp 198) = .slice (some ⟨ba, oa, none⟩) kk c3 := hp.at_ 20 (by rfl)
                                have e200 : a.eval (.tmp 200) = .int .i64 ((kk : Int) - 1) := hp.at_ 22 (by rfl)
                                refine Rg.step_run (v := .pointer (some ⟨ba, oa + (kk - 1) * 12, none⟩)) (w' := w') rfl (Rg.wanted_some (g := 17) (b := false) (d := 195) rfl (by rfl) (hp.at_ 17 (by rfl))) (by simp) ?_ rfl (Below.refl _ _)
                                clear hp
                                obtain ⟨ec, eg, ef⟩ := Rg.eval_at a
                                generalize a.eval = ρ at *
                                go_simp
                              case s24 =>
                                intro a w' hp
                                have e201 : a.eval (.tmp 201) = .pointer (some ⟨ba, oa + (kk - 1) * 12, none⟩) := hp.at_ 23 (by rfl)
                                refine Rg.step_run (v := .pointer (some ⟨ba, oa + (kk - 1) * 12 + 5, none⟩)) (w' := w') rfl (Rg.wanted_some (g := 17) (b := false) (d := 195) rfl (by rfl) (hp.at_ 17 (by rfl))) (by simp) ?_ rfl (Below.refl _ _)
                                clear hp
                                obtain ⟨ec, eg, ef⟩ := Rg.eval_at a
                                generalize a.eval = ρ at *
                                go_simp
                              case s25 =>
                                intro a w' hp
                                have e202 : a.eval (.tmp 202) = .pointer (some ⟨ba, oa + (kk - 1) * 12 + 5, none⟩) := hp.at_ 24 (by rfl)
                                have tq := (hp.grew.cell (p := ⟨ba, oa + (kk - 1) * 12 + 5, none⟩) hba).trans s5
                                refine Rg.step_run (v := .int .i64 py) (w' := w') rfl (Rg.wanted_some (g := 17) (b := false) (d := 195) rfl (by rfl) (hp.at_ 17 (by rfl))) (by simp) ?_ rfl (Below.refl _ _)
                                clear hp
                                obtain ⟨ec, eg, ef⟩ := Rg.eval_at a
                                generalize a.eval = ρ at *
                                go_simp
                              case s26 =>
                                intro a w' hp
                                have e197 : a.eval (.tmp 197) = .int .i64 x.prio := hp.at_ 19 (by rfl)
                                have e203 : a.eval (.tmp 203) = .int .i64 py := hp.at_ 25 (by rfl)
                                refine Rg.step_run (v := .bool false) (w' := w') rfl (Rg.wanted_some (g := 17) (b := false) (d := 195) rfl (by rfl) (hp.at_ 17 (by rfl))) (by simp) ?_ rfl (Below.refl _ _)
                                clear hp
                                obtain ⟨ec, eg, ef⟩ := Rg.eval_at a
                                generalize a.eval = ρ at *
                                go_simp
                              case s27 =>
                                intro a w' hp
                                have e204 : a.eval (.tmp 204) = .bool false := hp.at_ 26 (by rfl)
                                exact Rg.step_run (v := a.eval (.tmp 204)) (w' := w') rfl (Rg.wanted_some (g := 17) (b := false) (d := 195) rfl (by rfl) (hp.at_ 17 (by rfl))) (by simp) rfl e204 (Below.refl _ _)
                              case s28 =>
                                intro a w' hp
                                have e19 : a.eval (.tmp 19) = .pointer (some ⟨bx, 0, none⟩) := hp.rest 19 (by rfl)
                                exact Rg.step_skip rfl (Rg.wanted_not rfl (by rfl) (hp.at_ 27 (by rfl))) rfl
                              case s29 =>
                                intro a w' hp
                                have e206 : a.eval (.tmp 206) = undef := hp.at_ 28 (by rfl)
                                exact Rg.step_skip rfl (Rg.wanted_not rfl (by rfl) (hp.at_ 27 (by rfl))) rfl
                              case s30 =>
                                intro a w' hp
                                have e15 : a.eval (.tmp 15) = .slice (some ⟨ba, oa, none⟩) kk c3 := hp.rest 15 (by rfl)
                                exact Rg.step_skip rfl (Rg.wanted_not rfl (by rfl) (hp.at_ 27 (by rfl))) rfl
                              case s31 =>
                                intro a w' hp
                                have e3 : a.eval (.tmp 3) = .int .i64 (kk : Int) := hp.rest 3 (by rfl)
                                exact Rg.step_skip rfl (Rg.wanted_not rfl (by rfl) (hp.at_ 27 (by rfl))) rfl
                              case s32 =>
                                intro a w' hp
                                have e209 : a.eval (.tmp 209) = undef := hp.at_ 31 (by rfl)
                                exact Rg.step_skip rfl (Rg.wanted_not rfl (by rfl) (hp.at_ 27 (by rfl))) rfl
                              case s33 =>
                                intro a w' hp
                                have e208 : a.eval (.tmp 208) = undef := hp.at_ 30 (by rfl)
                                have e210 : a.eval (.tmp 210) = undef := hp.at_ 32 (by rfl)
                                exact Rg.step_skip rfl (Rg.wanted_not rfl (by rfl) (hp.at_ 27 (by rfl))) rfl
                              case s34 =>
                                intro a w' hp
                                have e211 : a.eval (.tmp 211) = undef := hp.at_ 33 (by rfl)
                                exact Rg.step_skip rfl (Rg.wanted_not rfl (by rfl) (hp.at_ 27 (by rfl))) rfl
                              case s35 =>
                                intro a w' hp
                                have e212 : a.eval (.tmp 212) = undef := hp.at_ 34 (by rfl)
                                exact Rg.step_skip rfl (Rg.wanted_not rfl (by rfl) (hp.at_ 27 (by rfl))) rfl
                              case s36 =>
                                intro a w' hp
                                have e207 : a.eval (.tmp 207) = undef := hp.at_ 29 (by rfl)
                                have e213 : a.eval (.tmp 213) = undef := hp.at_ 35 (by rfl)
                                exact Rg.step_skip rfl (Rg.wanted_not rfl (by rfl) (hp.at_ 27 (by rfl))) rfl
                              case s37 =>
                                intro a w' hp
                                have e205 : a.eval (.tmp 205) = .bool false := hp.at_ 27 (by rfl)
                                have e214 : a.eval (.tmp 214) = undef := hp.at_ 36 (by rfl)
                                refine Rg.step_run (v := .bool false) (w' := w') rfl (Rg.wanted_some (g := 17) (b := false) (d := 195) rfl (by rfl) (hp.at_ 17 (by rfl))) (by simp) ?_ rfl (Below.refl _ _)
                                clear hp
                                obtain ⟨ec, eg, ef⟩ := Rg.eval_at a
                                generalize a.eval = ρ at *
                                go_simp
                              case s38 =>
                                intro a w' hp
                                have e195 : a.eval (.tmp 195) = .bool false := hp.at_ 17 (by rfl)
                                have e215 : a.eval (.tmp 215) = .bool false := hp.at_ 37 (by rfl)
                                refine Rg.step_run (v := .bool false) (w' := w') rfl (Rg.wanted_some (g := 7) (b := true) (d := 185) rfl (by rfl) (hp.at_ 7 (by rfl))) (by simp) ?_ rfl (Below.refl _ _)
                                clear hp
                                obtain ⟨ec, eg, ef⟩ := Rg.eval_at a
                                generalize a.eval = ρ at *
                                go_simp
                              case s39 =>
                                intro a w' hp
                                have e185 : a.eval (.tmp 185) = .bool true := hp.at_ 7 (by rfl)
                                have e216 : a.eval (.tmp 216) = .bool false := hp.at_ 38 (by rfl)
                                refine Rg.step_run (v := .bool false) (w' := w') rfl (Rg.wanted_some (g := 4) (b := false) (d := 182) rfl (by rfl) (hp.at_ 4 (by rfl))) (by simp) ?_ rfl (Below.refl _ _)
                                clear hp
                                obtain ⟨ec, eg, ef⟩ := Rg.eval_at a
                                generalize a.eval = ρ at *
                                go_simp
                              case s40 =>
                                intro a w' hp
                                have e182 : a.eval (.tmp 182) = .bool false := hp.at_ 4 (by rfl)
                                have e217 : a.eval (.tmp 217) = .bool false := hp.at_ 39 (by rfl)
                                refine Rg.step_run (v := .bool false) (w' := w') rfl (Rg.wanted_none rfl) (by simp) ?_ rfl (Below.refl _ _)
                                clear hp
                                obtain ⟨ec, eg, ef⟩ := Rg.eval_at a
                                generalize a.eval = ρ at *
                                go_simp
                              case mono =>
                                refine Rg.mono_getD _ ?_
                                intro p hp
                                repeat (rcases List.mem_cons.1 hp with rfl | hp; exact Rg.mono_eq _)
                                cases hp
                              case fin =>
                                intro a w' hsz hdf hrest hdone hbf
                                have hv : a.tmps.getD 218 undef = .bool false := hdone 40 (by decide)
                                have ha := Rg.act_puts hsz hdf hrest [178, 179, 180, 181, 182, 183, 184, 185, 186, 187, 188, 189, 190, 191, 192, 193, 194, 195, 196, 197, 198, 199, 200, 201, 202, 203, 204, 205, 206, 207, 208, 209, 210, 211, 212, 213, 214, 215, 216, 217, 218] (by kernel_rfl)
                                simp only [List.foldl_cons, List.foldl_nil, Act.put, List.setIfInBounds_toArray, List.set_cons_zero, List.set_cons_succ] at ha
                                rw [hv] at ha
                                clear hsz hdf hrest hdone hv
                                rw [ha]
                                clear ha
                                go_wp2
                                go_roundw
                                case rel =>
                                  have e66 : decide ((kk : Int) < (kk : Int)) = false := decide_eq_false (by omega)
                                  rw [e66]
                                  repeat apply Exists.intro
                                  refine ⟨?_, rfl⟩
                                  exact ⟨ii + 1, by first | rfl | go_num, by omega, HB6.out.trans (hbf.mono HB6.out.size)⟩
                                case measure =>
                                  change n5 - ((ii : Int) + 1).toNat < n5 - ((ii : Int)).toNat
                                  omega
              · obtain rfl : ii = n5 := by omega
                have hiI : ¬ (ii : Int) < (ii : Int) := by omega
                go_wp2
                go_ret
                exact ⟨rfl, HB5.out.trans (HBX.out.mono HB5.out.size)⟩
  · by_cases h20 : 30 < n1
    · have hI : (30 : Int) < (n1 : Int) := by omega
      go_enter Try.func4, Try.ntmps4
      go_wp2_with fail
      refine HF.out.mono ?_
      rintro e w1 ⟨rfl, hb1⟩
      go_wp2
      go_ret
      exact ⟨rfl, hb1⟩
    · have hI : ¬ (30 : Int) < (n1 : Int) := by omega
      have hI2 : (n2 : Int) < (n1 : Int) := by omega
      go_enter Try.func4, Try.ntmps4
      go_wp2_with fail
      refine HF.out.mono ?_
      rintro e w1 ⟨rfl, hb1⟩
      go_wp2
      go_ret
      exact ⟨rfl, hb1⟩
end Go.Proofs.Ytglmhpmiphkjlaa
