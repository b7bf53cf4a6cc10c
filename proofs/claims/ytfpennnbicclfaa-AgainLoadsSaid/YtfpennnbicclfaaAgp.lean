/- AgainLast: the walk. -/
import Derived.Test.YtfpennnbicclfaaAgo
import Derived.Test.YtfpennnbicclfaaAgn
import Derived.Test.YtfpennnbicclfaaNumber
import Derived.Test.YtfpennnbicclfaaSame
import Derived.Test.YtfpennnbicclfaaOpb
namespace Go.Proofs.Ytfpennnbicclfaa
open Go.RowKit

namespace Ag
theorem part_cell {w W : World} {A : Option Addr} {n c : Nat} {ps : List Part} (h : InRow w 1 A n c (ps.map Part.val)) (hb : Below w.heap.size w W) {j : Nat} (hj : j < n) :
    ∃ b off, A = some ⟨b, off, none⟩ ∧ W.cell? ⟨b, off + j, none⟩ = some (.slice (ps[j]!).a (ps[j]!).n (ps[j]!).c) := by
  obtain ⟨b, off, rfl, hbl, hc⟩ := h.row.2 (by omega)
  have hl : ps.length = n := by simpa using h.row.1
  refine ⟨b, off, rfl, (hb.cell (p := ⟨b, off + j, none⟩) hbl).trans (hc j _ ?_)⟩
  rw [List.getElem?_map, List.getElem?_eq_getElem (by omega), getElem!_pos ps j (by omega)]
  rfl
/-- A book behind some calls: where it lies, and what it is. -/
structure At (B : Nat) (W : World) (q : Nat) (m : Option Nat) (l : List Pg) (M : List Ab) : Prop where
  bk : BkC W q m l
  ab : l.map Pg.ab = M
  ft : ∀ x, Foot q m l x → B ≤ x
theorem At.below {B : Nat} {W W' : World} {q : Nat} {m : Option Nat} {l : List Pg} {M : List Ab} (h : At B W q m l M) (hb : Below W.heap.size W W') : At B W' q m l M := ⟨h.bk.below hb, h.ab, h.ft⟩
/-- Look of a book. -/
theorem At.looks {B : Nat} {W : World} {q : Nat} {m : Option Nat} {l : List Pg} {M : List Ab} (h : At B W q m l M) (s : ByteArray) (i k : Int) (hs : s.size ≤ 1000000) {r : Int × List UInt8} (hr : look M s i k = r) :
    Calls Try.prog 14 #[.pointer (some ⟨q, 0, none⟩), .agg #[.string s, .int .i64 i, .int .i64 k]] W fun e w' => ∃ A n c, e = .returned (.tuple #[.int .i64 r.1, .slice A n c]) ∧ OwnBytes w' W.heap.size 5 A n c r.2 ∧ Below W.heap.size W w' ∧ At B w' q m l M := by
  have h0 := look_any q m l s i k W h.bk hs
  rw [h.ab, hr] at h0
  refine h0.mono ?_
  rintro e w' ⟨A, n, c, rfl, ho, hb⟩
  exact ⟨A, n, c, rfl, ho, hb, h.below hb⟩
/-- Keep into a book. -/
theorem At.keeps {B : Nat} {w W : World} {q : Nat} {m : Option Nat} {l : List Pg} {M M' : List Ab} (h : At B W q m l M) (s : ByteArray) (i k : Int) (A : Option Addr) (n c : Nat) (rep : List UInt8) (hs : s.size ≤ 1000000) (hr : Bytes W W.heap.size A n rep) (hA : A = none → n = 0 ∧ c = 0) (hn : n ≤ 1000000)
    (hra : 0 < n → ∀ a, A = some a → a.block < B ∨ ¬ Foot q m l a.block) (hw : Below B w W) (hB : B ≤ w.heap.size) {b : Bool} (hb : decide ((look M s i k).1 = 0) = b) (hM : keep M s i k rep = M') :
    Calls Try.prog 12 #[.pointer (some ⟨q, 0, none⟩), .agg #[.string s, .int .i64 i, .int .i64 k], .slice A n c] W fun e w' => e = .returned (.bool b) ∧ Below B w w' ∧ ∃ m' l', At B w' q m' l' M' ∧ Kp (Wr q m l) W w' := by
  have h0 := keep_any q m l s i k A n c rep W h.bk hs hr hA hn (fun hn0 a ha hx => by
    rcases hra hn0 a ha with h1 | h1
    · have := h.ft _ (.inl hx)
      omega
    · exact h1 (.inl hx))
  rw [h.ab, hb, hM] at h0
  refine h0.mono ?_
  rintro e w' ⟨rfl, m', l', hbk, hl, hk, hf⟩
  exact ⟨rfl, hw.trans (wr_below hk (Nat.le_trans hB hw.size) h.ft), m', l', ⟨hbk, hl, fun x hx => (hf x hx).elim (h.ft x) (fun h1 => Nat.le_trans (Nat.le_trans hB hw.size) h1)⟩, hk⟩
theorem At.all {B : Nat} {W : World} {q : Nat} {m : Option Nat} {l : List Pg} {M : List Ab} (h : At B W q m l M) :
    Calls Try.prog 10 #[.pointer (some ⟨q, 0, none⟩)] W fun e w' => ∃ (A : Option Addr) (c : Nat) (ps : List Pg), e = .returned (.slice A ps.length c) ∧ ps.map Pg.ab = M ∧ OwnK rκ w' W.heap.size 51 A ps.length c (ps.map Pg.raw) ∧ (∀ p ∈ ps, PgOwn w' W.heap.size p) ∧ Below W.heap.size W w' ∧ At B w' q m l M := by
  refine (all_any q m l W h.bk).mono ?_
  rintro e w' ⟨A, c, ps, rfl, hab, hro, hpo, hb⟩
  exact ⟨A, c, ps, rfl, hab.trans h.ab, hro, hpo, hb, h.below hb⟩
end Ag
open Ag
set_option maxRecDepth 10000 in
set_option maxHeartbeats 3200000 in
theorem againLast_walk (n0 : Int) (A : Option Addr) (n c : Nat) (ps : List Part) (f0 : Int) (w : World) (_ : -9223372036854775808 ≤ n0) (_ : n0 ≤ 9223372036854775807) (h0 : InRow w 1 A n c (ps.map Part.val)) (hp : ∀ y ∈ ps, PartIn w y) (_ : -9223372036854775808 ≤ f0) (_ : f0 ≤ 9223372036854775807) :
    Calls Try.prog 5 #[.int .i64 n0, .slice A n c, .int .i64 f0] w fun e w' => e = .returned (.bool true) ∧ Below w.heap.size w w' := by
  have hl : ps.length = n := by simpa using h0.row.1
  have HF := Lib.hid (first_any w)
  have N1 := Lib.hid (fun W => number_any n0 12 W (by decide) ‹_› ‹_› (by decide))
  have N2 := Lib.hid (fun W => number_any f0 100 W (by decide) ‹_› ‹_› (by decide))
  have H0 := Lib.hid h0
  have HP := Lib.hid hp
  have HL := Lib.hid hl
  clear h0 hp hl
  go_enter Try.func5, Try.ntmps5
  go_wp2_with fail
  refine HF.out.mono ?_
  rintro e w1 ⟨rfl, hb1⟩
  have HB1 := Lib.hid hb1
  clear HF hb1
  go_wp2_with fail
  refine (N1.out _).mono ?_
  rintro e w2 ⟨⟨k1, rfl, hk1⟩, hw⟩
  obtain rfl := hw
  clear N1
  have hk1' : k1 < 12 := by omega
  clear hk1
  by_cases hlen : n < k1 + 1
  · have hI : (n : Int) < (k1 : Int) + 1 := by omega
    go_wp2
    go_ret
    exact ⟨rfl, HB1.out⟩
  have hI : ¬ (n : Int) < (k1 : Int) + 1 := by omega
  go_wp2_with fail
  refine (N2.out _).mono ?_
  rintro e w2 ⟨⟨k2, rfl, hk2⟩, hw⟩
  obtain rfl := hw
  clear N2
  have hk2' : k2 < 100 := by omega
  clear hk2
  have hq3 := Cel.lit w1 #[.map none] 27
  have hb3 : Below w.heap.size w (w1.alloc (.cells #[.map none] 27)) := HB1.out.alloc HB1.out.size _
  have AT3 := Lib.hid (⟨BkC.zero hq3, rfl, fun x hx => by have := foot_nil hx; have := HB1.out.size; omega⟩ : At w.heap.size (w1.alloc (.cells #[.map none] 27)) w1.heap.size none [] (book ⟨#[119]⟩ ((k2 : Int) + 1) (ps.map Part.l) 0))
  have HB3 := Lib.hid hb3
  have hq0 := HB1.out.size
  clear hq3 hb3
  go_wp2_with fail
  generalize w1.alloc _ = w3 at *
  generalize w1.heap.size = q at *
  clear HB1
  go_loopw [9] (fun s9 wr => ∃ (j : Nat) (m : Option Nat) (l : List Pg), s9 = .int .i64 j ∧ j ≤ k1 + 1 ∧ At w.heap.size wr q m l (book ⟨#[119]⟩ ((k2 : Int) + 1) (ps.map Part.l) j) ∧ Below w.heap.size w wr ∧ ∀ i, i < j → (ps[i]!).n ≤ 40) (fun s9 _ => k1 + 1 - (intOf s9).toNat)
  case atStart => exact ⟨0, none, [], rfl, Nat.zero_le _, AT3.out, HB3.out, fun i hi => by omega⟩
  case round =>
    obtain ⟨j, m, l, rfl, hj, hat, hbr, h40⟩ := hrel
    have hj0 : (0 : Int) ≤ (j : Int) := by omega
    have HAT := Lib.hid hat
    have HBR := Lib.hid hbr
    have H40 := Lib.hid h40
    clear hat hbr h40 AT3 HB3
    by_cases hlt : j < k1 + 1
    · have hI2 : (j : Int) < (k1 : Int) + 1 := by omega
      have hjn : j < n := by omega
      have hjI : (j : Int) < (n : Int) := by omega
      obtain ⟨b, off, rfl, hel⟩ := part_cell H0.out HBR.out hjn
      have hpl : j < ps.length := by have := HL.out; omega
      have hpi := HP.out ps[j]! (by rw [getElem!_pos ps j hpl]; exact List.getElem_mem hpl)
      have hlj : (ps.map Part.l)[j]! = (ps[j]!).l := by rw [getElem!_pos _ j (by simpa using hpl), getElem!_pos ps j hpl]; simp
      have H4S := Lib.hid (fun (h : (ps[j]!).n ≤ 40) (i : Nat) (hi : i < j + 1) => (show (ps[i]!).n ≤ 40 by
        by_cases e : i = j
        · rw [e]; exact h
        · exact H40.out i (by omega)))
      have HKB := Lib.hid (keep_book ⟨#[119]⟩ ((k2 : Int) + 1) (ps.map Part.l) j (by simpa using hpl))
      rw [hlj] at HKB
      have HPI := Lib.hid hpi
      clear hlj hpi hpl
      generalize ps[j]! = p at *
      obtain ⟨pa, pn, pc, pl⟩ := p
      dsimp only at hel HKB H4S
      by_cases hbig : 40 < pn
      · have hbI : (40 : Int) < (pn : Int) := by omega
        go_wp2
        go_ret
        exact ⟨rfl, HBR.out⟩
      · have hbI : ¬ (40 : Int) < (pn : Int) := by omega
        have hb2 : Bytes wr wr.heap.size pa pn pl := (HPI.out.bytes.below HBR.out (Nat.le_refl _)).mono HBR.out.size
        have hk0 := HAT.out.keeps (w := w) ⟨#[119]⟩ ((k2 : Int) + 1) ((j : Int) + 1) pa pn pc pl (by decide) hb2 HPI.out.nn (by omega) (fun hn0 a ha => by
          obtain ⟨b', off', he, hlt', _⟩ := HPI.out.bytes.2 hn0
          have he : pa = some ⟨b', off', none⟩ := he
          rw [he] at ha
          obtain rfl := Option.some.inj ha
          exact .inl hlt') HBR.out (Nat.le_refl _) (b := true) (by rw [look_book_new]; rfl) HKB.out
        have HK := Lib.hid hk0
        have HN40 := Lib.hid (H4S.out (by show pn ≤ 40; omega))
        clear hk0 hb2 H4S HKB HAT
        go_wp2_with (go_at_call 12; (with_reducible refine HK.out.mono ?_); rintro e w5 ⟨rfl, hb5, m5, l5, hat5, _⟩)
        go_roundw
        case rel => exact ⟨j + 1, m5, l5, by first | rfl | go_num, by omega, hat5, hb5, HN40.out⟩
        case measure =>
          simp only [intOf]
          omega
    · obtain rfl : j = k1 + 1 := by omega
      have hnl : k1 + 1 ≤ (ps.map Part.l).length := by have := HL.out; simp; omega
      have LKB := Lib.hid (fun (j : Nat) (hj : j < k1 + 1) => look_book ⟨#[119]⟩ ((k2 : Int) + 1) (ps.map Part.l) hj hnl)
      have HBK := Lib.hid (show ∃ ks rs, book ⟨#[119]⟩ ((k2 : Int) + 1) (ps.map Part.l) (k1 + 1) = [⟨⟨#[119]⟩, (k2 : Int) + 1, ks, rs⟩] from ⟨_, _, by unfold book; rw [if_neg (by omega)]⟩)
      generalize book ⟨#[119]⟩ ((k2 : Int) + 1) (ps.map Part.l) (k1 + 1) = M at *
      clear hnl
      go_wp2_with fail
      go_loopw [10] (fun s10 wx => ∃ j : Nat, s10 = .int .i64 j ∧ j ≤ k1 + 1 ∧ At w.heap.size wx q m l M ∧ Below w.heap.size w wx) (fun s10 _ => k1 + 1 - (intOf s10).toNat)
      case atStart => exact ⟨0, rfl, Nat.zero_le _, HAT.out, HBR.out⟩
      case round =>
        clear HAT HBR
        obtain ⟨j, rfl, hj, hat, hbr⟩ := hrel
        have hj0 : (0 : Int) ≤ (j : Int) := by omega
        have HAT := Lib.hid hat
        have HBR := Lib.hid hbr
        clear hat hbr
        by_cases hlt : j < k1 + 1
        · have hI2 : (j : Int) < (k1 : Int) + 1 := by omega
          have hjn : j < n := by omega
          have hjI : (j : Int) < (n : Int) := by omega
          have hlk := LKB.out j hlt
          by_cases h4 : k1 + 1 - 4 ≤ j
          · have hI4 : (k1 : Int) + 1 - 4 ≤ (j : Int) := by omega
            rw [if_pos h4] at hlk
            have hpl : j < ps.length := by have := HL.out; omega
            have hlj : (ps.map Part.l)[j]! = (ps[j]!).l := by rw [getElem!_pos _ j (by simpa using hpl), getElem!_pos ps j hpl]; simp
            rw [hlj] at hlk
            have HLK := Lib.hid (HAT.out.looks ⟨#[119]⟩ ((k2 : Int) + 1) ((j : Int) + 1) (by decide) hlk)
            have hpi := Lib.hid (HP.out ps[j]! (by rw [getElem!_pos ps j hpl]; exact List.getElem_mem hpl))
            have hn40 := Lib.hid (H40.out j hlt)
            have hpc := Lib.hid (fun W (hW : Below w.heap.size w W) => part_cell H0.out hW hjn)
            clear hlk hlj hpl
            generalize ps[j]! = p at *
            obtain ⟨pa, pn, pc, pl⟩ := p
            dsimp only at HLK hn40
            go_wp2_with fail
            (with_reducible refine HLK.out.mono ?_)
            rintro e w5 ⟨A5, n5, c5, rfl, ho5, hb5, hat5⟩
            have HB5 := Lib.hid (HBR.out.trans (hb5.mono HBR.out.size))
            have HAT5 := Lib.hid hat5
            obtain ⟨b, off, rfl, hel⟩ := hpc.out w5 HB5.out
            try dsimp only at hel
            have hs0 := same_any A5 pa n5 pn c5 pc pl pl w5 (own_bytes_row ho5) ((hpi.out.bytes.below HB5.out (Nat.le_refl _)).mono HB5.out.size) (by have h1 := (own_bytes_row ho5).len; have h2 := hpi.out.bytes.len; have h3 : pn ≤ 40 := hn40.out; have h4 : pl.length = pn := h2; have h5 : pl.length = n5 := h1; omega) (by have h3 : pn ≤ 40 := hn40.out; omega)
            rw [beq_self_eq_true] at hs0
            have HS := Lib.hid hs0
            clear ho5 hb5 hat5 hs0 HLK HAT HBR hpc
            go_wp2_with (go_at_call 16; (with_reducible refine HS.out.mono ?_); rintro e w6 ⟨rfl, hb6⟩)
            go_roundw
            case rel =>
              repeat apply Exists.intro
              refine ⟨?_, rfl⟩
              exact ⟨j + 1, by first | rfl | go_num, by omega, HAT5.out.below hb6, HB5.out.trans (hb6.mono HB5.out.size)⟩
            case measure =>
              change k1 + 1 - ((j : Int) + 1).toNat < k1 + 1 - (j : Int).toNat
              omega
          · have hI4 : ¬ (k1 : Int) + 1 - 4 ≤ (j : Int) := by omega
            rw [if_neg h4] at hlk
            have HLK := Lib.hid (HAT.out.looks ⟨#[119]⟩ ((k2 : Int) + 1) ((j : Int) + 1) (by decide) hlk)
            clear hlk
            go_wp2_with (go_at_call 14; (with_reducible refine HLK.out.mono ?_); rintro e w5 ⟨A5, n5, c5, rfl, ho5, hb5, hat5⟩)
            go_roundw
            case rel =>
              repeat apply Exists.intro
              refine ⟨?_, rfl⟩
              exact ⟨j + 1, by first | rfl | go_num, by omega, hat5, HBR.out.trans (hb5.mono HBR.out.size)⟩
            case measure =>
              change k1 + 1 - ((j : Int) + 1).toNat < k1 + 1 - (j : Int).toNat
              omega
        · obtain rfl : j = k1 + 1 := by omega
          obtain ⟨ks, rs, hM⟩ := HBK.out
          subst hM
          have hwk : wrap64 ((k2 : Int) + 1 + 1) = (k2 : Int) + 1 + 1 := by unfold wrap64; omega
          have HL1 := Lib.hid (HAT.out.looks ⟨#[119]⟩ ((k2 : Int) + 1 + 1) ((k1 : Int) + 1) (by decide) (look_next _ _ _ _ _))
          clear LKB HBK hwk
          go_wp2_with fail
          (with_reducible refine HL1.out.mono ?_)
          rintro e w5 ⟨A5, n5, c5, rfl, _, hb5, hat5⟩
          have HB5 := Lib.hid (HBR.out.trans (hb5.mono HBR.out.size))
          have hb6 : Below w5.heap.size w5 (w5.alloc (.cells #[.int .u8 7] 5)) := (Below.refl _ _).alloc (Nat.le_refl _) _
          have hk0 := (hat5.below hb6).keeps (w := w) ⟨#[119]⟩ ((k2 : Int) + 1 + 1) 5 (some ⟨w5.heap.size, 0, none⟩) 1 1 [7] (by decide) ((bytes1 w5 7).mono (by simp)) (fun h => by cases h) (by decide) (fun _ a ha => by
            cases ha
            refine .inr fun hx => ?_
            have := hat5.bk.lt hx
            exact absurd this (Nat.lt_irrefl _)) (HB5.out.trans (hb6.mono HB5.out.size)) (Nat.le_refl _) (b := true) (by rw [look_next]; rfl) (keep_next _ _ _ _ _ _)
          have HK : Hid (Calls Try.prog 12 #[.pointer (some ⟨q, 0, none⟩), .agg #[.string ⟨#[119]⟩, .int .i64 ((k2 : Int) + 1 + 1), .int .i64 5], .slice (some ⟨w5.heap.size, 0, none⟩) 1 1] (w5.alloc (.cells #[.int .u8 7] 5)) fun e w' => e = .returned (.bool true) ∧ Below w.heap.size w w' ∧ ∃ m' l', At w.heap.size w' q m' l' [⟨⟨#[119]⟩, (k2 : Int) + 1 + 1, [5], [[7]]⟩] ∧ Kp (Wr q m l) (w5.alloc (.cells #[.int .u8 7] 5)) w') := hk0
          clear hk0 hb6 hat5 hb5 HAT HBR HL1
          go_wp2_with fail
          (with_reducible refine HK.out.mono ?_)
          rintro e w6 ⟨rfl, hb6, m6, l6, hat6, _⟩
          have HB6 := Lib.hid hb6
          have HL2 := Lib.hid (hat6.looks ⟨#[119]⟩ ((k2 : Int) + 1) ((k1 : Int) + 1) (by decide) (look_before _ _ _ _ _))
          clear hb6 hat6 HK HB5
          go_wp2_with fail
          (with_reducible refine HL2.out.mono ?_)
          rintro e w7 ⟨A7, n7, c7, rfl, _, hb7, hat7⟩
          have HB7 := Lib.hid (HB6.out.trans (hb7.mono HB6.out.size))
          have HL3 := Lib.hid (hat7.looks ⟨#[118]⟩ 1 1 (by decide) (look_other _ _ _ _ _ (by decide)))
          clear hb7 hat7 HL2 HB6
          go_wp2_with fail
          (with_reducible refine HL3.out.mono ?_)
          rintro e w8 ⟨A8, n8, c8, rfl, _, hb8, hat8⟩
          have HB8 := Lib.hid (HB7.out.trans (hb8.mono HB7.out.size))
          have HAL := Lib.hid hat8.all
          clear hb8 hat8 HL3 HB7
          go_wp2_with fail
          (with_reducible refine HAL.out.mono ?_)
          rintro e w9 ⟨A9, c9, qs, rfl, hab, hro, _, hb9, _⟩
          have HB9 := Lib.hid (HB8.out.trans (hb9.mono HB8.out.size))
          obtain ⟨p, rfl, hab2⟩ := map_single hab
          clear hab hb9 HAL HB8
          obtain ⟨wk, ic, ka, kc, kys, ra, rc, rws⟩ := p
          have hab : (⟨wk, ic, kys, rws.map Part.l⟩ : Ab) = ⟨⟨#[119]⟩, (k2 : Int) + 1 + 1, [5], [[7]]⟩ := hab2
          injection hab with _ _ hk5 _
          subst hk5
          dsimp only [List.length_cons, List.length_nil, Pg.raw, List.map_cons, List.map_nil] at hro
          obtain ⟨ga, rfl, _, _⟩ := own_one hro
          obtain ⟨_, _, q2, _⟩ := cel_row4 hro
          clear hro hab2
          go_wp2
          go_ret
          exact ⟨rfl, HB9.out⟩
end Go.Proofs.Ytfpennnbicclfaa
