/- MessageParts: the walk. Printed by tools/specs/message/parts.py. -/
import Derived.Test.YtaedlmcgkcnkkaaGreatDoorMso
namespace Go.Proofs.YtaedlmcgkcnkkaaGreatDoor
open Go.RowKit
def ErrTy (w : World) : Prop := w.cell? ⟨16, 0, none⟩ = some (.iface 174 (.agg #[.pointer (some ⟨26, 34, none⟩)]))
open Ms
theorem Ms.bel_to_alloc {w w' : World} (h : Below w.heap.size w w') (o : Obj) : Below w.heap.size w (w'.alloc o) := h.alloc h.size o
theorem Ms.seen_zero {E : Int → Option Addr} {v : Value} (h : SeenBy E v 0) : v = .nilIface := by
  cases h with
  | nil => rfl
  | err _ a h hc => exact absurd rfl hc
set_option maxRecDepth 10000 in
set_option maxHeartbeats 3200000 in
theorem messageParts_walk (k0 h0 : Int) (t : ByteArray) (ads : List Addr) (w : World) (_ : -9223372036854775808 ≤ k0) (_ : k0 ≤ 9223372036854775807) (_ : -9223372036854775808 ≤ h0) (_ : h0 ≤ 9223372036854775807) (_ : t.size ≤ maxLen) (hE0 : Errs w 225 sents ads) (_ : ErrTy w) :
    Calls Tryz.prog 3 #[.int .i64 k0, .int .i64 h0, .string t] w fun e w' => e = .returned (.bool true) ∧ Below w.heap.size w w' := by
  have HF := Lib.hid (first_any ads w hE0)
  have HE := Lib.hid hE0
  clear hE0
  go_enter Tryz.func3, Tryz.ntmps3
  go_wp2_with fail
  refine HF.out.mono ?_
  rintro e w1 ⟨rfl, hb1⟩
  have HB1 := Lib.hid hb1
  clear HF hb1
  by_cases h20 : 20 < t.size
  · have hI : (20 : Int) < (t.size : Int) := by omega
    go_wp2
    go_ret
    exact ⟨rfl, HB1.out⟩
  have hI : ¬ (20 : Int) < (t.size : Int) := by omega
  go_upto_region 6 with (fail)
  go_upto_if 19 with (fail)
  go_cut [0] from 20 to 22 (fun s0 wx => (∃ k : Int, 0 ≤ k ∧ k ≤ 9223372036854775807 ∧ s0 = .int .i64 k) ∧ wx = w1)
  case first =>
    by_cases h : k0 < 0
    · go_wp2
      go_meet
      exact ⟨⟨_, by omega, by omega, rfl⟩, rfl⟩
    · go_wp2
      go_meet
      exact ⟨⟨_, by omega, by omega, rfl⟩, rfl⟩
  case rest =>
    obtain ⟨⟨k, hk1, hk2, rfl⟩, rfl⟩ := hcut
    generalize wc = w1 at *
    obtain ⟨m5, hm5, hlt5⟩ : ∃ m : Nat, k.tmod 5 = (m : Int) ∧ m < 5 := ⟨(k % 5).toNat, by rw [Int.tmod_eq_emod_of_nonneg hk1]; omega⟩
    have hK0 : LsK (4 + (m5 : Int)) := by unfold LsK; omega
    go_upto_region 9 with (fail)
    go_upto_if 27 with (fail)
    go_cut [1] from 28 to 30 (fun s1 wx => (∃ k : Int, 0 ≤ k ∧ k ≤ 9223372036854775807 ∧ s1 = .int .i64 k) ∧ wx = w1)
    case first =>
      by_cases h : h0 < 0
      · go_wp2
        go_meet
        exact ⟨⟨_, by omega, by omega, rfl⟩, rfl⟩
      · go_wp2
        go_meet
        exact ⟨⟨_, by omega, by omega, rfl⟩, rfl⟩
    case rest =>
      obtain ⟨⟨h, hh1, hh2, rfl⟩, rfl⟩ := hcut
      generalize wc = w1 at *
      have HK := Lib.hid hK0
      clear hK0 hm5 hlt5 hk1 hk2
      generalize 4 + (m5 : Int) = kd at *
      obtain ⟨m8, hm8, hlt8⟩ : ∃ m : Nat, h.tmod 8 = (m : Int) ∧ m < 8 := ⟨(h % 8).toNat, by rw [Int.tmod_eq_emod_of_nonneg hh1]; omega⟩
      have HM8 := Lib.hid (And.intro hm8 hlt8)
      clear hm8 hlt8 hh1 hh2
      have hl := Cel.lit w1 #[.string ⟨#[119]⟩, .int .i64 1, .int .i64 1, .int .i64 kd, .string ⟨#[]⟩, .slice none 0 0, .slice none 0 0, .string ⟨#[]⟩, .slice none 0 0, .slice none 0 0, .int .i64 0, .int .i64 0, .int .i64 1, .int .i64 1, .int .i64 0, .string ⟨#[]⟩] 32
      have HB2 := Lib.hid (HB1.out.alloc HB1.out.size (.cells #[.string ⟨#[119]⟩, .int .i64 1, .int .i64 1, .int .i64 kd, .string ⟨#[]⟩, .slice none 0 0, .slice none 0 0, .string ⟨#[]⟩, .slice none 0 0, .slice none 0 0, .int .i64 0, .int .i64 0, .int .i64 1, .int .i64 1, .int .i64 0, .string ⟨#[]⟩] 32))
      have HZ := Lib.hid HB1.out.size
      have HC2 := Lib.hid hl
      clear hl
      go_upto_region 12 with (fail)
      generalize w1.alloc _ = w2 at *
      generalize w1.heap.size = z at *
      clear HB1
      have f11 := HC2.out.froz 11 (by simp)
      have hz2 := HC2.out.lt
      have a11 := HC2.out.cell 11 _ rfl
      go_upto_if 35 with (fail)
      go_cut [] from 35 to 36 (fun wx => Cel wx z [.string ⟨#[119]⟩, .int .i64 1, .int .i64 1, .int .i64 kd, .string ⟨#[]⟩, .slice none 0 0, .slice none 0 0, .string ⟨#[]⟩, .slice none 0 0, .slice none 0 0, .int .i64 0, .int .i64 (tmK kd), .int .i64 1, .int .i64 1, .int .i64 0, .string ⟨#[]⟩] ∧ Below w.heap.size w wx)
      case first =>
        by_cases h4 : kd = 4
        · subst h4
          go_wp2
          go_meet
          exact ⟨HC2.out.set (i := 11) (by simp) _, HB2.out.setCell (p := ⟨z, 11, none⟩) HZ.out _⟩
        · have h4' : (kd == 4) = false := by simpa using h4
          have ht : tmK kd = 0 := if_neg h4
          go_wp2
          go_meet
          exact ⟨by rw [ht]; exact HC2.out, HB2.out⟩
      case rest =>
        obtain ⟨hc3, hb3⟩ := hcut
        have HC3 := Lib.hid hc3
        have HB3 := Lib.hid hb3
        clear hc3 hb3 f11 hz2 a11 HC2 HB2
        generalize wc = w3 at *
        have f15 := HC3.out.froz 15 (by simp)
        have hz3 := HC3.out.lt
        have a15 := HC3.out.cell 15 _ rfl
        go_upto_if 38 with (fail)
        go_cut [] from 38 to 39 (fun wx => Cel wx z [.string ⟨#[119]⟩, .int .i64 1, .int .i64 1, .int .i64 kd, .string ⟨#[]⟩, .slice none 0 0, .slice none 0 0, .string ⟨#[]⟩, .slice none 0 0, .slice none 0 0, .int .i64 0, .int .i64 (tmK kd), .int .i64 1, .int .i64 1, .int .i64 0, .string (cdK kd)] ∧ Below w.heap.size w wx)
        case first =>
          by_cases h8 : kd = 8
          · subst h8
            go_wp2
            go_meet
            exact ⟨HC3.out.set (i := 15) (by simp) _, HB3.out.setCell (p := ⟨z, 15, none⟩) HZ.out _⟩
          · have h8' : (kd == 8) = false := by simpa using h8
            have ht : cdK kd = ⟨#[]⟩ := if_neg h8
            go_wp2
            go_meet
            exact ⟨by rw [ht]; exact HC3.out, HB3.out⟩
        case rest =>
          obtain ⟨hc4, hb4⟩ := hcut
          have HC4 := Lib.hid hc4
          have HB4 := Lib.hid hb4
          clear hc4 hb4 f15 hz3 a15 HC3 HB3
          have HMG : Hid (cNo kd ⟨#[119]⟩ ⟨#[]⟩ ⟨#[]⟩ (cdK kd) 1 1 0 0 0 0 (tmK kd) 1 1 0 = 0) := Lib.hid (m_good HK.out)
          have HMN : Hid (cNo kd ⟨#[119]⟩ ⟨#[]⟩ ⟨#[110]⟩ (cdK kd) 1 1 0 0 0 0 (tmK kd) 1 1 0 = 102) := Lib.hid (m_name HK.out)
          have HMT : Hid (cNo kd ⟨#[119]⟩ ⟨#[]⟩ ⟨#[]⟩ (cdK kd) 1 1 0 0 1 0 (tmK kd) 1 1 0 = 102) := Lib.hid (m_tops HK.out)
          have HMX : Hid (cNo kd ⟨#[119]⟩ ⟨#[]⟩ ⟨#[]⟩ (cdK kd) 1 1 0 0 0 1 (tmK kd) 1 1 0 = 102) := Lib.hid (m_most HK.out)
          have HMP : Hid (cNo kd ⟨#[119]⟩ ⟨#[112]⟩ ⟨#[]⟩ (cdK kd) 1 1 0 0 0 0 (tmK kd) 1 1 0 = 102) := Lib.hid (m_pn HK.out)
          have HMK : Hid (cNo kd ⟨#[119]⟩ ⟨#[]⟩ ⟨#[]⟩ (cdK kd) 1 1 0 0 0 0 (tmK kd) 0 1 0 = 107) := Lib.hid (m_task HK.out)
          have HME : Hid (cNo kd ⟨#[119]⟩ ⟨#[]⟩ ⟨#[]⟩ (cdK kd) 1 1 0 0 0 0 (tmK kd) 1 61 0 = 107) := Lib.hid (m_epoch HK.out)
          have HMI : Hid (cNo kd ⟨#[119]⟩ ⟨#[]⟩ ⟨#[]⟩ (cdK kd) 0 1 0 0 0 0 (tmK kd) 1 1 0 = 107) := Lib.hid (m_inc HK.out)
          have HMW : Hid (cNo kd ⟨#[87]⟩ ⟨#[]⟩ ⟨#[]⟩ (cdK kd) 1 1 0 0 0 0 (tmK kd) 1 1 0 = 106) := Lib.hid (m_wkr HK.out)
          have HCS := Lib.hid (cdK_size kd)
          generalize wc = w4 at *
          generalize tmK kd = tm at *
          generalize cdK kd = cd at *
          have HCK := Lib.hid (fun (wk pn name : ByteArray) (inc most task ep : Int) (TA : Option Addr) (tn tc : Nat) (hwk : wk.size ≤ 9223372036854775807) (W : World) (hW : Below w.heap.size w W) => check_ls kd HK.out wk pn name cd inc 1 most tm task ep 0 none none TA 0 0 0 0 tn tc (msErrs16 HE.out) hW HCS.out hwk)
          have HC0 := Lib.hid (HCK.out ⟨#[119]⟩ ⟨#[]⟩ ⟨#[]⟩ 1 0 1 1 none 0 0 (by decide) w4 HB4.out)
          rw [HMG.out] at HC0
          have a0 := HC4.out.cell 0 _ rfl
          have a1 := HC4.out.cell 1 _ rfl
          have a2 := HC4.out.cell 2 _ rfl
          have a3 := HC4.out.cell 3 _ rfl
          have a4 := HC4.out.cell 4 _ rfl
          have a5 := HC4.out.cell 5 _ rfl
          have a6 := HC4.out.cell 6 _ rfl
          have a7 := HC4.out.cell 7 _ rfl
          have a8 := HC4.out.cell 8 _ rfl
          have a9 := HC4.out.cell 9 _ rfl
          have a10 := HC4.out.cell 10 _ rfl
          have a11 := HC4.out.cell 11 _ rfl
          have a12 := HC4.out.cell 12 _ rfl
          have a13 := HC4.out.cell 13 _ rfl
          have a14 := HC4.out.cell 14 _ rfl
          have a15 := HC4.out.cell 15 _ rfl
          go_wp2_with fail
          (with_reducible refine HC0.out.mono ?_)
          rintro e w5 ⟨⟨ev, rfl, hev⟩, hb5⟩
          obtain rfl := seen_zero hev
          have HC5 := Lib.hid (HC4.out.below hb5 (Nat.le_refl _))
          have HB5 := Lib.hid (HB4.out.trans (hb5.mono HB4.out.size))
          clear hev hb5 HC0 HC4 HB4 a0 a1 a2 a3 a4 a5 a6 a7 a8 a9 a10 a11 a12 a13 a14 a15
          obtain ⟨hm8, hlt8⟩ := HM8.out
          have f0 := HC5.out.froz 0 (by simp)
          have a0 := HC5.out.cell 0 _ rfl
          have f1 := HC5.out.froz 1 (by simp)
          have a1 := HC5.out.cell 1 _ rfl
          have f4 := HC5.out.froz 4 (by simp)
          have a4 := HC5.out.cell 4 _ rfl
          have f7 := HC5.out.froz 7 (by simp)
          have a7 := HC5.out.cell 7 _ rfl
          have f9 := HC5.out.froz 9 (by simp)
          have a9 := HC5.out.cell 9 _ rfl
          have f10 := HC5.out.froz 10 (by simp)
          have a10 := HC5.out.cell 10 _ rfl
          have f12 := HC5.out.froz 12 (by simp)
          have a12 := HC5.out.cell 12 _ rfl
          have f13 := HC5.out.froz 13 (by simp)
          have a13 := HC5.out.cell 13 _ rfl
          have hz5 := HC5.out.lt
          go_upto_block 0 with (fail)
          go_cut [10] from 44 to 69 (fun s10 wx => ∃ (wk pn name : ByteArray) (inc most task ep : Int) (TA : Option Addr) (tn tc : Nat), wk.size ≤ 9223372036854775807 ∧ Cel wx z [.string wk, .int .i64 inc, .int .i64 1, .int .i64 kd, .string pn, .slice none 0 0, .slice none 0 0, .string name, .slice none 0 0, .slice TA tn tc, .int .i64 most, .int .i64 tm, .int .i64 task, .int .i64 ep, .int .i64 0, .string cd] ∧ s10 = .int .i64 (cNo kd wk pn name cd inc 1 0 0 tn most tm task ep 0) ∧ Below w.heap.size w wx)
          case first =>
            have h8 : m8 = 0 ∨ m8 = 1 ∨ m8 = 2 ∨ m8 = 3 ∨ m8 = 4 ∨ m8 = 5 ∨ m8 = 6 ∨ m8 = 7 := by omega
            rcases h8 with rfl | rfl | rfl | rfl | rfl | rfl | rfl | rfl
            · go_wp2
              go_meet
              exact ⟨⟨#[119]⟩, ⟨#[]⟩, ⟨#[110]⟩, 1, 0, 1, 1, none, 0, 0, by decide, HC5.out.set (i := 7) (by simp) _, by rw [HMN.out], HB5.out.setCell (p := ⟨z, 7, none⟩) HZ.out _⟩
            · go_wp2
              go_meet
              exact ⟨⟨#[119]⟩, ⟨#[]⟩, ⟨#[]⟩, 1, 0, 1, 1, _, 1, 1, by decide, (HC5.out.set (i := 9) (by simp) _).alloc _, by rw [HMT.out], bel_to_alloc (HB5.out.setCell (p := ⟨z, 9, none⟩) HZ.out _) _⟩
            · go_wp2
              go_meet
              exact ⟨⟨#[119]⟩, ⟨#[]⟩, ⟨#[]⟩, 1, 1, 1, 1, none, 0, 0, by decide, HC5.out.set (i := 10) (by simp) _, by rw [HMX.out], HB5.out.setCell (p := ⟨z, 10, none⟩) HZ.out _⟩
            · go_wp2
              go_meet
              exact ⟨⟨#[119]⟩, ⟨#[112]⟩, ⟨#[]⟩, 1, 0, 1, 1, none, 0, 0, by decide, HC5.out.set (i := 4) (by simp) _, by rw [HMP.out], HB5.out.setCell (p := ⟨z, 4, none⟩) HZ.out _⟩
            · go_wp2
              go_meet
              exact ⟨⟨#[119]⟩, ⟨#[]⟩, ⟨#[]⟩, 1, 0, 0, 1, none, 0, 0, by decide, HC5.out.set (i := 12) (by simp) _, by rw [HMK.out], HB5.out.setCell (p := ⟨z, 12, none⟩) HZ.out _⟩
            · go_wp2
              go_meet
              exact ⟨⟨#[119]⟩, ⟨#[]⟩, ⟨#[]⟩, 1, 0, 1, 61, none, 0, 0, by decide, HC5.out.set (i := 13) (by simp) _, by rw [HME.out], HB5.out.setCell (p := ⟨z, 13, none⟩) HZ.out _⟩
            · go_wp2
              go_meet
              exact ⟨⟨#[119]⟩, ⟨#[]⟩, ⟨#[]⟩, 0, 0, 1, 1, none, 0, 0, by decide, HC5.out.set (i := 1) (by simp) _, by rw [HMI.out], HB5.out.setCell (p := ⟨z, 1, none⟩) HZ.out _⟩
            · go_wp2
              go_meet
              exact ⟨⟨#[87]⟩, ⟨#[]⟩, ⟨#[]⟩, 1, 0, 1, 1, none, 0, 0, by decide, HC5.out.set (i := 0) (by simp) _, by rw [HMW.out], HB5.out.setCell (p := ⟨z, 0, none⟩) HZ.out _⟩
          case rest =>
            obtain ⟨wk, pn, name, inc, most, task, ep, TA, tn, tc, hwk, hc6, rfl, hb6⟩ := hcut
            have HC6 := Lib.hid hc6
            have HB6 := Lib.hid hb6
            have HCF := Lib.hid (HCK.out wk pn name inc most task ep TA tn tc hwk wc hb6)
            generalize cNo kd wk pn name cd inc 1 0 0 tn most tm task ep 0 = cc at *
            clear hc6 hb6 HC5 HB5 HCK HMG HMN HMT HMX HMP HMK HME HMI HMW hz5 hm8 hlt8 f0 a0 f1 a1 f4 a4 f7 a7 f9 a9 f10 a10 f12 a12 f13 a13
            generalize wc = w6 at *
            have a0 := HC6.out.cell 0 _ rfl
            have a1 := HC6.out.cell 1 _ rfl
            have a2 := HC6.out.cell 2 _ rfl
            have a3 := HC6.out.cell 3 _ rfl
            have a4 := HC6.out.cell 4 _ rfl
            have a5 := HC6.out.cell 5 _ rfl
            have a6 := HC6.out.cell 6 _ rfl
            have a7 := HC6.out.cell 7 _ rfl
            have a8 := HC6.out.cell 8 _ rfl
            have a9 := HC6.out.cell 9 _ rfl
            have a10 := HC6.out.cell 10 _ rfl
            have a11 := HC6.out.cell 11 _ rfl
            have a12 := HC6.out.cell 12 _ rfl
            have a13 := HC6.out.cell 13 _ rfl
            have a14 := HC6.out.cell 14 _ rfl
            have a15 := HC6.out.cell 15 _ rfl
            go_upto_region 38 with (fail)
            go_wp2_with (first | (go_at_call 7; (with_reducible refine HCF.out.mono ?_); rintro e w7 ⟨⟨ev, rfl, hev⟩, hb7⟩; have HB7 := Lib.hid (HB6.out.trans (hb7.mono HB6.out.size)); have HI := Lib.hid (is_any ads ev cc w7 (HE.out.below HB7.out (Nat.le_refl _)) (seenAs_of hev) cc); rw [show (cc == cc) = true by simp] at HI; clear hev hb7 a0 a1 a2 a3 a4 a5 a6 a7 a8 a9 a10 a11 a12 a13 a14 a15) | (go_at_call 8; refine HI.out.mono ?_; rintro e w8 ⟨rfl, hb8⟩; have HB8 := Lib.hid (HB7.out.trans (hb8.mono HB7.out.size)); clear hb8))
            go_ret
            exact ⟨by simp, HB8.out⟩
end Go.Proofs.YtaedlmcgkcnkkaaGreatDoor
