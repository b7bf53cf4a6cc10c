/- Package flow: Run. Package flow: Waits, Stuck; Along; the token of an ID goes along. From the reading of an argument that is a slice to what a walk is told of it. -/
import Derived.Test.YtkffnfgdmcebdaaGreatDoorYJoint15
import Derived.Test.YtkffnfgdmcebdaaGreatDoorIiY
import Derived.Deep.RegionHeld3
import Derived.Test.YtkffnfgdmcebdaaGreatDoorYJoint1
import Derived.Deep.Slices
import Derived.ChangeArms
import Derived.OpenShut
import Derived.ShutString
import Derived.ChangeOld
namespace Go.Proofs.YtkffnfgdmcebdaaGreatDoor
open Go.RowKit

namespace Pr
theorem Mv2.okm {r r' : Rn} {n : Nat} (h : Mv2 r n r') : ∀ {most : Nat}, Ok r.b (n + most) → Ok r'.b most ∧ r'.moves = r.moves + n ∧ r'.b.p = r.b.p ∧ r'.b.vars = r.b.vars := by
  induction h with
  | zero r => intro most h; rw [Nat.zero_add] at h; exact ⟨h, rfl, rfl, rfl⟩
  | @succ r r' k n hk _ ih =>
    intro most h
    have h2 : Ok (bstep r.b k).1 (n + most) := Ok.step (by rwa [show n + 1 + most = n + most + 1 by omega] at h) k
    obtain ⟨h3, h4, h5, h6⟩ := ih (most := most) h2
    obtain ⟨h7, h8⟩ := bstep_same r.b k
    exact ⟨h3, by rw [h4]; unfold adv; dsimp only; omega, h5.trans h7, h6.trans h8⟩
/-- How many moves Run makes at most. -/
def lim (most : Int) : Nat := (if most ≤ 400 then most else 400).toNat
theorem lim_le (most : Int) : lim most ≤ 400 := by unfold lim; split <;> omega
theorem neq_one (k : Nat) : ((k : Int) == -1) = false := by rw [beq_eq_false_iff_ne]; omega
set_option maxHeartbeats 6400000 in
set_option maxRecDepth 10000 in
theorem frun_any (E : Int → Option Addr) (q : Nat) (x : BdV) (r : Rn) (w0 w : World) (most : Int) (more : Nat) (h : RnC w q x r) (hb0 : Below w0.heap.size w0 w) (hq : w0.heap.size ≤ q) (hE : Env E w0 r.b.p r.b.vars) (ho : Ok r.b (lim most + more)) (hm : r.moves ≤ 900000000) :
    Calls Tryz.prog 27 #[.pointer (some ⟨q, 0, none⟩), .int .i64 most] w fun e w' => (∃ (ok : Bool) (x' : BdV) (r' : Rn), e = .returned (.bool ok) ∧ RnC w' q x' r' ∧ RunTo r (lim most) ok r') ∧ w.grownBy w' (some q) := by
  have HO := Lib.hid ho
  have HM := Lib.hid hm
  have HB0 := Lib.hid hb0
  have HE := Lib.hid hE
  have HR := Lib.hid h
  have hle := lim_le most
  have hl1 : most ≤ 400 → lim most = most.toNat := fun h => by unfold lim; rw [if_pos h]
  have hl2 : 400 < most → lim most = 400 := fun h => by unfold lim; rw [if_neg (by omega)]; rfl
  have HL1 := Lib.hid hl1
  have HL2 := Lib.hid hl2
  clear ho hm hb0 hE h hl1 hl2
  rcases Int.lt_or_le 400 most with h | h
  · have hlm := HL2.out h
    have hmin : min most (400 : Int) = 400 := by omega
    clear HL1 HL2
    go_enter Tryz.func27, Tryz.ntmps27
    go_upto_region 2 with (fail)
    clear h
    go_loopw [8] (fun i wr => ∃ (j : Nat) (x' : BdV) (r' : Rn), j ≤ lim most ∧ i = .int .i64 j ∧ RnC wr q x' r' ∧ Mv2 r j r' ∧ w.grownBy wr (some q)) (fun i _ => lim most - (intOf i).toNat)
    case atStart => exact ⟨0, x, r, Nat.zero_le _, rfl, HR.out, .zero r, World.grownBy.refl _ _⟩
    case round =>
      obtain ⟨j, x', r', hj, rfl, hrc, hmv, hg⟩ := hrel
      have hbw := below_grown HB0.out hg hq
      obtain ⟨hok, hmm, hpp, hvv⟩ := hmv.okm (most := lim most - j + more) (by rw [show j + (lim most - j + more) = lim most + more by omega]; exact HO.out)
      have HF := Lib.hid (frdy_any q x' r' wr hrc hok.few hok.ids.asc)
      have hm9 := HM.out
      have hwj : IntKind.i64.wrap ((j : Int) + 1) = (j : Int) + 1 := by rw [IntKind.wrap_i64]; omega
      by_cases hlt : j < lim most
      · have hI : (j : Int) < 400 := by omega
        have HS := Lib.hid (fun (w1 : World) (kk : Nat) (hb1 : Below wr.heap.size wr w1) (hf : Fst r'.b kk) => fstep_any E q x' r' w0 w1 kk _ (hrc.below hb1) (hbw.trans (hb1.mono hbw.size)) (by rw [hpp, hvv]; exact HE.out) hok hf (by omega))
        have HFS := Lib.hid (And.intro hrc (And.intro hmv hg))
        clear hrc hok hpp hvv hmv hg hbw hmm
        go_upto_region 4 with (go_at_call 67; refine HF.out.mono ?_; rintro e w1 ⟨⟨k, rfl, hk⟩, hb1⟩; have HB1 := Lib.hid hb1; clear hb1; have HK := Lib.hid hk; clear hk)
        rcases HK.out with ⟨rfl, hrest⟩ | ⟨kk, rfl, hfst⟩
        · have HRS := Lib.hid hrest
          clear hrest HK
          go_wp2
          go_ret
          obtain ⟨hrc, hmv, hg⟩ := HFS.out
          exact ⟨⟨true, x', r', rfl, hrc.below HB1.out, .inl ⟨rfl, j, by omega, hmv, HRS.out⟩⟩, grown_of hg HB1.out (Nat.le_refl _)⟩
        · have hne := neq_one kk
          have HS1 := Lib.hid (HS.out w1 kk HB1.out hfst)
          have HFK := Lib.hid hfst
          clear hfst HK
          go_wp2_with (go_at_call 68; refine HS1.out.mono ?_; rintro e w2 ⟨rfl, ⟨x2, hx2⟩, hg2⟩; have HX2 := Lib.hid hx2; have HG2 := Lib.hid hg2; clear hx2 hg2)
          go_roundw
          case measure => simp [intOf]; omega
          case rel =>
            obtain ⟨hrc, hmv, hg⟩ := HFS.out
            exact ⟨j + 1, x2, adv r' kk, by omega, by go_num, HX2.out, hmv.snoc HFK.out, grown_trans (grown_of hg HB1.out (Nat.le_refl _)) HG2.out⟩
      · have hI : ¬ (j : Int) < 400 := by omega
        obtain rfl : j = lim most := by omega
        have HS := Lib.hid (fun (w1 : World) (hb1 : Below wr.heap.size wr w1) => fstop_any q x' r' w1 (hrc.below hb1) hok.few hok.ids.asc)
        have HFS := Lib.hid (And.intro hrc (And.intro hmv hg))
        clear hrc hok hpp hvv hmv hg hbw hmm hwj
        rcases fst_or r'.b with ⟨k1, hk1⟩ | hrest
        · have hne := neq_one k1
          have HK1 := Lib.hid (fun (k : Int) (h : (k = -1 ∧ Rest r'.b) ∨ ∃ j : Nat, k = j ∧ Fst r'.b j) => show k = (k1 : Int) from by
            rcases h with ⟨_, h⟩ | ⟨j, h, h2⟩
            · exact absurd hk1.1 (h k1)
            · rw [h, hk1.uniq h2])
          have HN1 := Lib.hid (show ¬ Rest r'.b from fun h => h k1 hk1.1)
          clear hk1
          go_wp2_with (first
            | (go_at_call 67; refine HF.out.mono ?_; rintro e w1 ⟨⟨k, rfl, hk⟩, hb1⟩; obtain rfl := HK1.out k hk; have HB1 := Lib.hid hb1; have HS1 := Lib.hid (HS.out w1 hb1); clear hk hb1)
            | (go_at_call 69; refine HS1.out.mono ?_; rintro e w2 ⟨rfl, ⟨x2, hx2⟩, hg2⟩; have HX2 := Lib.hid hx2; have HG2 := Lib.hid hg2; clear hx2 hg2))
          go_ret
          obtain ⟨hrc, hmv, hg⟩ := HFS.out
          exact ⟨⟨false, x2, _, rfl, HX2.out, .inr ⟨rfl, r', hmv, HN1.out, rfl⟩⟩, grown_trans (grown_of hg HB1.out (Nat.le_refl _)) HG2.out⟩
        · have HK1 := Lib.hid (fun (k : Int) (h : (k = -1 ∧ Rest r'.b) ∨ ∃ j : Nat, k = j ∧ Fst r'.b j) => show k = (-1 : Int) from by
            rcases h with ⟨h, _⟩ | ⟨j, h, h2⟩
            · exact h
            · exact absurd h2.1 (hrest j))
          have HRS := Lib.hid hrest
          clear hrest
          go_wp2_with (go_at_call 67; refine HF.out.mono ?_; rintro e w1 ⟨⟨k, rfl, hk⟩, hb1⟩; obtain rfl := HK1.out k hk; have HB1 := Lib.hid hb1; clear hk hb1)
          go_ret
          obtain ⟨hrc, hmv, hg⟩ := HFS.out
          exact ⟨⟨true, x', r', rfl, hrc.below HB1.out, .inl ⟨rfl, _, Nat.le_refl _, hmv, HRS.out⟩⟩, grown_of hg HB1.out (Nat.le_refl _)⟩
  · have hlm := HL1.out h
    have hmin : min most (400 : Int) = most := by omega
    clear HL1 HL2
    go_enter Tryz.func27, Tryz.ntmps27
    go_upto_region 2 with (fail)
    clear h
    go_loopw [8] (fun i wr => ∃ (j : Nat) (x' : BdV) (r' : Rn), j ≤ lim most ∧ i = .int .i64 j ∧ RnC wr q x' r' ∧ Mv2 r j r' ∧ w.grownBy wr (some q)) (fun i _ => lim most - (intOf i).toNat)
    case atStart => exact ⟨0, x, r, Nat.zero_le _, rfl, HR.out, .zero r, World.grownBy.refl _ _⟩
    case round =>
      obtain ⟨j, x', r', hj, rfl, hrc, hmv, hg⟩ := hrel
      have hbw := below_grown HB0.out hg hq
      obtain ⟨hok, hmm, hpp, hvv⟩ := hmv.okm (most := lim most - j + more) (by rw [show j + (lim most - j + more) = lim most + more by omega]; exact HO.out)
      have HF := Lib.hid (frdy_any q x' r' wr hrc hok.few hok.ids.asc)
      have hm9 := HM.out
      have hwj : IntKind.i64.wrap ((j : Int) + 1) = (j : Int) + 1 := by rw [IntKind.wrap_i64]; omega
      by_cases hlt : j < lim most
      · have hI : (j : Int) < most := by omega
        have HS := Lib.hid (fun (w1 : World) (kk : Nat) (hb1 : Below wr.heap.size wr w1) (hf : Fst r'.b kk) => fstep_any E q x' r' w0 w1 kk _ (hrc.below hb1) (hbw.trans (hb1.mono hbw.size)) (by rw [hpp, hvv]; exact HE.out) hok hf (by omega))
        have HFS := Lib.hid (And.intro hrc (And.intro hmv hg))
        clear hrc hok hpp hvv hmv hg hbw hmm
        go_upto_region 4 with (go_at_call 67; refine HF.out.mono ?_; rintro e w1 ⟨⟨k, rfl, hk⟩, hb1⟩; have HB1 := Lib.hid hb1; clear hb1; have HK := Lib.hid hk; clear hk)
        rcases HK.out with ⟨rfl, hrest⟩ | ⟨kk, rfl, hfst⟩
        · have HRS := Lib.hid hrest
          clear hrest HK
          go_wp2
          go_ret
          obtain ⟨hrc, hmv, hg⟩ := HFS.out
          exact ⟨⟨true, x', r', rfl, hrc.below HB1.out, .inl ⟨rfl, j, by omega, hmv, HRS.out⟩⟩, grown_of hg HB1.out (Nat.le_refl _)⟩
        · have hne := neq_one kk
          have HS1 := Lib.hid (HS.out w1 kk HB1.out hfst)
          have HFK := Lib.hid hfst
          clear hfst HK
          go_wp2_with (go_at_call 68; refine HS1.out.mono ?_; rintro e w2 ⟨rfl, ⟨x2, hx2⟩, hg2⟩; have HX2 := Lib.hid hx2; have HG2 := Lib.hid hg2; clear hx2 hg2)
          go_roundw
          case measure => simp [intOf]; omega
          case rel =>
            obtain ⟨hrc, hmv, hg⟩ := HFS.out
            exact ⟨j + 1, x2, adv r' kk, by omega, by go_num, HX2.out, hmv.snoc HFK.out, grown_trans (grown_of hg HB1.out (Nat.le_refl _)) HG2.out⟩
      · have hI : ¬ (j : Int) < most := by omega
        obtain rfl : j = lim most := by omega
        have HS := Lib.hid (fun (w1 : World) (hb1 : Below wr.heap.size wr w1) => fstop_any q x' r' w1 (hrc.below hb1) hok.few hok.ids.asc)
        have HFS := Lib.hid (And.intro hrc (And.intro hmv hg))
        clear hrc hok hpp hvv hmv hg hbw hmm hwj
        rcases fst_or r'.b with ⟨k1, hk1⟩ | hrest
        · have hne := neq_one k1
          have HK1 := Lib.hid (fun (k : Int) (h : (k = -1 ∧ Rest r'.b) ∨ ∃ j : Nat, k = j ∧ Fst r'.b j) => show k = (k1 : Int) from by
            rcases h with ⟨_, h⟩ | ⟨j, h, h2⟩
            · exact absurd hk1.1 (h k1)
            · rw [h, hk1.uniq h2])
          have HN1 := Lib.hid (show ¬ Rest r'.b from fun h => h k1 hk1.1)
          clear hk1
          go_wp2_with (first
            | (go_at_call 67; refine HF.out.mono ?_; rintro e w1 ⟨⟨k, rfl, hk⟩, hb1⟩; obtain rfl := HK1.out k hk; have HB1 := Lib.hid hb1; have HS1 := Lib.hid (HS.out w1 hb1); clear hk hb1)
            | (go_at_call 69; refine HS1.out.mono ?_; rintro e w2 ⟨rfl, ⟨x2, hx2⟩, hg2⟩; have HX2 := Lib.hid hx2; have HG2 := Lib.hid hg2; clear hx2 hg2))
          go_ret
          obtain ⟨hrc, hmv, hg⟩ := HFS.out
          exact ⟨⟨false, x2, _, rfl, HX2.out, .inr ⟨rfl, r', hmv, HN1.out, rfl⟩⟩, grown_trans (grown_of hg HB1.out (Nat.le_refl _)) HG2.out⟩
        · have HK1 := Lib.hid (fun (k : Int) (h : (k = -1 ∧ Rest r'.b) ∨ ∃ j : Nat, k = j ∧ Fst r'.b j) => show k = (-1 : Int) from by
            rcases h with ⟨h, _⟩ | ⟨j, h, h2⟩
            · exact h
            · exact absurd h2.1 (hrest j))
          have HRS := Lib.hid hrest
          clear hrest
          go_wp2_with (go_at_call 67; refine HF.out.mono ?_; rintro e w1 ⟨⟨k, rfl, hk⟩, hb1⟩; obtain rfl := HK1.out k hk; have HB1 := Lib.hid hb1; clear hk hb1)
          go_ret
          obtain ⟨hrc, hmv, hg⟩ := HFS.out
          exact ⟨⟨true, x', r', rfl, hrc.below HB1.out, .inl ⟨rfl, _, Nat.le_refl _, hmv, HRS.out⟩⟩, grown_of hg HB1.out (Nat.le_refl _)⟩
end Pr
end Go.Proofs.YtkffnfgdmcebdaaGreatDoor
namespace Go.Proofs.YtkffnfgdmcebdaaGreatDoor
open Go.RowKit

namespace Pr
set_option maxHeartbeats 1600000 in
theorem waitsFn_any (q B : Nat) (x : BdV) (r : Rn) (w : World) (h : RnC w q x r) (hB : B < w.heap.size) (hc : w.cell? ⟨B, 0, none⟩ = some (.pointer (some ⟨q, 0, none⟩))) (W : World) (t : Tk) (hb : Below w.heap.size w W) :
    Calls Tryz.prog 82 (#[t.val] ++ #[.pointer (some ⟨B, 0, none⟩)]) W fun e w2 => e = .returned (.bool (atW r.b.p t && !t.stuck)) ∧ Below W.heap.size W w2 := by
  have hc' : W.cell? ⟨B, 0, none⟩ = some (.pointer (some ⟨q, 0, none⟩)) := (hb.cell (p := ⟨B, 0, none⟩) hB).trans hc
  have hne : B ≠ W.heap.size := by have := hb.size; omega
  obtain ⟨tid, tnode, tinn, tst⟩ := t
  have hba : Below W.heap.size W (W.alloc (.cells #[.int .i64 tid, .int .i64 tnode, .int .i64 tinn, .bool tst] 35)) := (Below.refl _ _).alloc (Nat.le_refl _) _
  have HAW := Lib.hid (atwork_any q x r ⟨tid, tnode, tinn, tst⟩ (W.alloc (.cells #[.int .i64 tid, .int .i64 tnode, .int .i64 tinn, .bool tst] 35)) (h.below (hb.trans (hba.mono hb.size))))
  have HBX := Lib.hid (Cel.lit W #[.int .i64 tid, .int .i64 tnode, .int .i64 tinn, .bool tst] 35)
  have HBA := Lib.hid hba
  have hc2 := below_cells hba hc'
  unfold Tk.val at *
  dsimp only at *
  generalize atW r.b.p ⟨tid, tnode, tinn, tst⟩ = av at *
  clear h hc hb hba hc'
  show Calls Tryz.prog 82 #[_, _] W _
  go_enter Tryz.func82, Tryz.ntmps82
  go_upto_region 1 with (fail)
  generalize W.alloc _ = W1 at *
  obtain ⟨t0, t1, t2, t3⟩ := qd_facts HBX.out
  cases av
  · go_wp2_with (go_at_call 73; refine HAW.out.mono ?_; rintro e w2 ⟨rfl, hb2⟩; have HB2 := Lib.hid hb2; clear hb2)
    go_ret
    exact ⟨rfl, HBA.out.trans (HB2.out.mono HBA.out.size)⟩
  · go_wp2_with (go_at_call 73; refine HAW.out.mono ?_; rintro e w2 ⟨rfl, hb2⟩; have HB2 := Lib.hid hb2; clear t0 t1 t2 t3; obtain ⟨t0, t1, t2, t3⟩ := qd_facts (HBX.out.below hb2 (Nat.le_refl _)); clear hb2)
    go_ret
    exact ⟨rfl, HBA.out.trans (HB2.out.mono HBA.out.size)⟩
set_option maxHeartbeats 1600000 in
theorem stuckFn_any (W : World) (t : Tk) :
    Calls Tryz.prog 83 (#[t.val] ++ #[]) W fun e w2 => e = .returned (.bool t.stuck) ∧ Below W.heap.size W w2 := by
  obtain ⟨tid, tnode, tinn, tst⟩ := t
  have hba : Below W.heap.size W (W.alloc (.cells #[.int .i64 tid, .int .i64 tnode, .int .i64 tinn, .bool tst] 35)) := (Below.refl _ _).alloc (Nat.le_refl _) _
  have HBX := Lib.hid (Cel.lit W #[.int .i64 tid, .int .i64 tnode, .int .i64 tinn, .bool tst] 35)
  have HBA := Lib.hid hba
  unfold Tk.val
  dsimp only
  clear hba
  show Calls Tryz.prog 83 #[_] W _
  go_enter Tryz.func83, Tryz.ntmps83
  go_upto_region 1 with (fail)
  generalize W.alloc _ = W1 at *
  obtain ⟨t0, t1, t2, t3⟩ := qd_facts HBX.out
  go_wp2
  go_ret
  exact ⟨rfl, HBA.out⟩
/-- A row of tokens that is told. -/
def TksOut (l : List Tk) (w : World) (e : Ending) (w' : World) : Prop := (∃ (Y : Option Addr) (cc : Nat), e = .returned (.slice Y l.length cc) ∧ OwnK Tk.κ w' w.heap.size 35 Y l.length cc l) ∧ Below w.heap.size w w'
theorem TksOut.up {l : List Tk} {w w1 : World} {e : Ending} {w' : World} (h : TksOut l w1 e w') (hb : Below w.heap.size w w1) : TksOut l w e w' := by
  obtain ⟨⟨Y, cc, h1, h2⟩, h3⟩ := h
  exact ⟨⟨Y, cc, h1, h2.lower hb.size⟩, hb.trans (h3.mono hb.size)⟩
set_option maxHeartbeats 1600000 in
theorem fwaits_any (q : Nat) (x : BdV) (r : Rn) (w : World) (h : RnC w q x r) (hn : r.b.toks.length ≤ 100000) :
    Calls Tryz.prog 39 #[.pointer (some ⟨q, 0, none⟩)] w (TksOut r.waits w) := by
  have hba : Below w.heap.size w (w.alloc (.cells #[.pointer (some ⟨q, 0, none⟩)] 61)) := (Below.refl _ _).alloc (Nat.le_refl _) _
  have hc := (Cel.lit w #[.pointer (some ⟨q, 0, none⟩)] 61)
  have hr := h.below hba
  have HT := Lib.hid (fthose_any 82 #[.pointer (some ⟨w.heap.size, 0, none⟩)] (fun t => atW r.b.p t && !t.stuck) q x r _ (enters_of Tryz.func82 (by kernel_rfl) rfl) hr hn (fun W t hW => waitsFn_any q w.heap.size x r _ hr hc.lt (hc.cell 0 _ rfl) W t hW))
  have HB := Lib.hid hba
  have c0 := hc.cell 0 _ rfl
  unfold Rn.waits
  clear h hba hc hr hn
  go_enter Tryz.func39, Tryz.ntmps39
  go_wp2_with (go_at_call 81; refine HT.out.mono ?_; rintro e w1 ⟨⟨Y, cc, rfl, ho⟩, hb1⟩; have HX := Lib.hid (And.intro ho hb1); clear ho hb1)
  go_ret
  exact TksOut.up (w1 := w.alloc (.cells #[.pointer (some ⟨q, 0, none⟩)] 61)) ⟨⟨Y, cc, rfl, HX.out.1⟩, HX.out.2⟩ HB.out
theorem fstuck_any (q : Nat) (x : BdV) (r : Rn) (w : World) (h : RnC w q x r) (hn : r.b.toks.length ≤ 100000) :
    Calls Tryz.prog 41 #[.pointer (some ⟨q, 0, none⟩)] w (TksOut r.stuck w) := by
  have HT := Lib.hid (fthose_any 83 #[] (fun t => t.stuck) q x r w (enters_of Tryz.func83 (by kernel_rfl) rfl) h hn (fun W t _ => stuckFn_any W t))
  unfold Rn.stuck
  clear h hn
  go_enter Tryz.func41, Tryz.ntmps41
  go_wp2_with (go_at_call 81; refine HT.out.mono ?_; rintro e w1 ⟨⟨Y, cc, rfl, ho⟩, hb1⟩; have HX := Lib.hid (And.intro ho hb1); clear ho hb1)
  go_ret
  exact ⟨⟨Y, cc, rfl, HX.out.1⟩, HX.out.2⟩
end Pr
end Go.Proofs.YtkffnfgdmcebdaaGreatDoor
namespace Go.Proofs.YtkffnfgdmcebdaaGreatDoor
open Go.ChangeShapes Go.WideShapes Go.RowKit

/-- A slice that came in, its elements sz cells wide. -/
structure InRow (w : World) (sz : Nat) (A : Option Addr) (n c : Nat) (l : List Value) : Prop where
  row : RowS w w.heap.size sz A n l
  nn : A = none → n = 0 ∧ c = 0
  cap : n ≤ c
  most : c ≤ maxLen

theorem open_row1 {α : Type} [Inhabited α] {H : Type} {enc : TypeId × Value → H} {P : Program} {W : World} {t e : TypeId} {a : Option Addr} {len cap : Nat} {d : DataW H} {ps : List MemPlace}
    (f : α → Value) (ok : α → Prop) (ht : P.underlying t = some (.slice e)) (hc : P.cellsOf e = 1)
    (hel : ∀ n V x, DataW.trod enc P W 0 (fun _ => true) true n e [V] = some x → ∃ y, V = f y ∧ ok y)
    (h : DataW.Trod enc P W 0 (fun _ => true) true t (.slice a len cap) d ps) : ∃ l : List α, InRow W 1 a len cap (l.map f) ∧ ∀ y ∈ l, ok y := by
  obtain ⟨fuel, hf⟩ := h
  rcases Deep.open_slice1 ht hc hf with ⟨hcs, _⟩ | ⟨x, l, c, m, n, V, D, Pl, hcs, _, hl, hm, hmm, _, hx⟩
  · simp [Value.cells] at hcs
    obtain ⟨rfl, rfl, rfl⟩ := hcs
    exact ⟨[], ⟨RowS.nil _ _ _ _, fun _ => ⟨rfl, rfl⟩, Nat.le_refl _, by simp [maxLen]⟩, fun y h => by cases h⟩
  · simp [Value.cells] at hcs
    obtain ⟨rfl, rfl, rfl⟩ := hcs
    simp only [if_true] at hmm
    subst hmm
    obtain ⟨Y, hY⟩ := Deep.choose_lt (α := α) (p := fun i y => V i = f y ∧ ok y) (fun i hi => hel _ _ _ (hx i hi).2)
    refine ⟨(List.range len).map Y, ⟨⟨by simp, fun h0 => ?_⟩, (fun h => by cases h), hl, hm⟩, fun y hy => ?_⟩
    · have h1 := (hx 0 (by omega)).1
      obtain ⟨b, off, spot⟩ := x
      obtain rfl : spot = none := by simpa [Addr.add] using World.cell?_spot h1
      have hlt : b < W.heap.size := by simpa [Addr.add] using cell_lt h1
      refine ⟨b, off, rfl, hlt, fun k v hv => ?_⟩
      have hk : k < len := by simpa using (List.getElem?_eq_some_iff.1 hv).1
      rw [← addr_add b off k, (hx k (by omega)).1, (hY k (by omega)).1]
      simpa [hk] using hv
    · obtain ⟨i, hi, rfl⟩ := List.mem_map.1 hy
      exact (hY i (by have := List.mem_range.1 hi; omega)).2

section
variable {H : Type} {enc : TypeId × Value → H} {P : Program} {W : World} {t e : TypeId} {a : Option Addr} {len cap : Nat} {d : DataW H} {ps : List MemPlace}
theorem open_ints64 (ht : P.underlying t = some (.slice e)) (he : P.underlying e = some (.int .i64)) (hc : P.cellsOf e = 1) (h : DataW.Trod enc P W 0 (fun _ => true) true t (.slice a len cap) d ps) :
    ∃ l : List Int, InRow W 1 a len cap (l.map (Value.int .i64)) ∧ ∀ y ∈ l, -9223372036854775808 ≤ y ∧ y ≤ 9223372036854775807 :=
  open_row1 (Value.int .i64) _ ht hc (fun n V x hx => by
    obtain ⟨y, h1, _, h2⟩ := DataW.trod_int he hx
    have := bounds_i64 h2
    exact ⟨y, by simpa using h1, by omega⟩) h
theorem open_strs (ht : P.underlying t = some (.slice e)) (he : P.underlying e = some .string) (hc : P.cellsOf e = 1) (h : DataW.Trod enc P W 0 (fun _ => true) true t (.slice a len cap) d ps) :
    ∃ l : List ByteArray, InRow W 1 a len cap (l.map Value.string) ∧ ∀ y ∈ l, y.size ≤ maxLen :=
  open_row1 Value.string _ ht hc (fun n V x hx => by
    obtain ⟨y, h1, _, h2⟩ := DataW.trod_string he hx
    exact ⟨y, by simpa using h1, h2⟩) h
theorem open_boolrow (ht : P.underlying t = some (.slice e)) (he : P.underlying e = some .bool) (hc : P.cellsOf e = 1) (h : DataW.Trod enc P W 0 (fun _ => true) true t (.slice a len cap) d ps) :
    ∃ l : List Bool, InRow W 1 a len cap (l.map Value.bool) := by
  obtain ⟨l, h, _⟩ := open_row1 Value.bool (fun _ => True) ht hc (fun n V x hx => by
    obtain ⟨y, h1, _⟩ := DataW.trod_bool he hx
    exact ⟨y, by simpa using h1, trivial⟩) h
  exact ⟨l, h⟩
end
end Go.Proofs.YtkffnfgdmcebdaaGreatDoor
