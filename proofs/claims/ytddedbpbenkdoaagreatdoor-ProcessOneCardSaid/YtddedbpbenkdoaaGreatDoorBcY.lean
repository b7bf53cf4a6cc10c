/- The program's nodeFault. -/
import Derived.Test.YtddedbpbenkdoaaGreatDoorYProcessOne7
import Derived.Test.YtddedbpbenkdoaaGreatDoorYProcessOne15
import Derived.Deep.RegionHeld3
namespace Go.Proofs.YtddedbpbenkdoaaGreatDoor
open Go.RowKit

/-- The sentinels that process tells of its own. -/
structure PrErrs (W : World) (E : Int → Option Addr) : Prop where
  e102 : ErrIn W E 102 3
  e104 : ErrIn W E 104 1
  e106 : ErrIn W E 106 0
  e107 : ErrIn W E 107 2
theorem PrErrs.below {W w : World} {E : Int → Option Addr} (h : PrErrs W E) (hb : Below W.heap.size W w) : PrErrs w E :=
  ⟨h.e102.below hb, h.e104.below hb, h.e106.below hb, h.e107.below hb⟩
namespace Pr
theorem shaped_eq (p : P) (i : Nat) : shaped p i = (!(((p.nodes[i]!).kind == 1) != (i == 0)) && jn (p.nodes[i]!).kind (insL p i).length (outsL p i).length (p.nodes[i]!).caught.size) := by
  rw [shaped_R, shaped_jn]
set_option maxHeartbeats 6400000 in
set_option maxRecDepth 10000 in
theorem nodefault_any {W : World} {E : Int → Option Addr} (hE : PrErrs W E) (A : Option Addr) (n c : Nat) (F : Option Addr) (m d : Nat) (p : P) (i : Nat) (w : World) (hW : Below W.heap.size W w) (hN : KRow Nd.κ w w.heap.size A n p.nodes) (hF : KRow Fl.κ w w.heap.size F m p.flows) (hn : n ≤ 100000) (hm : m ≤ 100000) (hi : i < p.n) (hs : Small (p.nodes[i]!)) :
    Calls Tryz.prog 20 #[.agg #[.string p.name, .slice A n c, .slice F m d], .int .i64 i] w fun e w' => (∃ ev, e = .returned ev ∧ SeenBy E ev (nodeBad p i)) ∧ Below w.heap.size w w' := by
  obtain rfl : p.n = n := hN.len (by decide)
  obtain rfl : p.m = m := hF.len (by decide)
  have hiI : (i : Int) < (p.n : Int) := by omega
  have hi0 : (0 : Int) ≤ (i : Int) := by omega
  obtain ⟨b, off, rfl, hbl, _⟩ := hN.2 (by omega)
  obtain ⟨R, hR⟩ : ∃ R, R = nodeBad p i := ⟨_, rfl⟩
  rw [← hR]
  rw [nodeBad_eq, c106_nb, c107_nb, c102_nb] at hR
  have hsh := shaped_eq p i
  have HE := Lib.hid (fun W' (hb : Below w.heap.size w W') => hE.below (w := W') (hW.trans (hb.mono hW.size)))
  have HN := Lib.hid hN
  have HF := Lib.hid hF
  have HP := Lib.hid (Cel.lit w #[.string p.name, .slice (some ⟨b, off, none⟩) p.n c, .slice F p.m d] 30)
  have HB := Lib.hid ((Below.refl w.heap.size w).alloc (Nat.le_refl _) (.cells #[.string p.name, .slice (some ⟨b, off, none⟩) p.n c, .slice F p.m d] 30))
  obtain ⟨n0, n1, n2, n3, n4, n5, n6, n7⟩ := nd_at (HN.out.below HB.out (Nat.le_refl _)) hi
  obtain ⟨⟨z0, z1, z2⟩, _⟩ := tri_facts HP.out
  have HI := Lib.hid hi
  have HO := Lib.hid (fun W (hb : Below w.heap.size w W) => outs_any (some ⟨b, off, none⟩) p.n c F p.m d p i W ((HN.out.below (b0 := w.heap.size) (w' := W) hb (Nat.le_refl _)).mono hb.size) ((HF.out.below hb (Nat.le_refl _)).mono hb.size) hn hm)
  have HIn := Lib.hid (fun W (hb : Below w.heap.size w W) => ins_any (some ⟨b, off, none⟩) p.n c F p.m d p i W ((HN.out.below (b0 := w.heap.size) (w' := W) hb (Nat.le_refl _)).mono hb.size) ((HF.out.below hb (Nat.le_refl _)).mono hb.size) hn hm)
  rw [outsB_in p hi] at HO
  rw [insB_in p hi] at HIn
  have hom : (outsL p i).length ≤ p.m := by rw [outs_len]; exact List.countP_le_length
  generalize outsL p i = lo at *
  generalize insL p i = li at *
  clear hN hF hE hW hi
  go_enter Tryz.func20, Tryz.ntmps20
  go_upto_region 1 with (fail)
  generalize w.alloc _ = wb at *
  generalize hx : p.nodes[i]! = x at *
  have HX := Lib.hid (Cel.lit wb #[.int .i64 x.kind, .string x.topic, .int .i64 x.prio, .int .i64 x.retr, .int .i64 x.dflt, .string x.code, .string x.caught, .int .i64 x.tgt] 36)
  have hb2 := (Below.refl wb.heap.size wb).alloc (Nat.le_refl _) (.cells #[.int .i64 x.kind, .string x.topic, .int .i64 x.prio, .int .i64 x.retr, .int .i64 x.dflt, .string x.code, .string x.caught, .int .i64 x.tgt] 36)
  have HB2 := Lib.hid (HB.out.trans (hb2.mono HB.out.size))
  have HP2 := Lib.hid (HP.out.below hb2 (Nat.le_refl _))
  have HCH := Lib.hid hx
  clear hb2 HP HB hx
  go_upto_region 2 with (fail)
  generalize wb.alloc _ = wc at *
  generalize wb.heap.size = z at *
  clear n0 n1 n2 n3 n4 n5 n6 n7 z0 z1 z2
  obtain ⟨⟨z0, z1, z2⟩, _⟩ := tri_facts HP2.out
  go_wp2_with fail
  refine (HO.out wc HB2.out).mono ?_
  rintro e w3 ⟨⟨X, ko, co, rfl, ho⟩, hb3⟩
  obtain rfl : lo.length = ko := by simpa using ho.len
  have HOw := Lib.hid ho
  have HB3 := Lib.hid (HB2.out.trans (hb3.mono HB2.out.size))
  have HP3 := Lib.hid (HP2.out.below hb3 (Nat.le_refl _))
  have HX3 := Lib.hid (HX.out.below hb3 (Nat.le_refl _))
  clear hb3 HB2 HP2 HX z0 z1 z2 ho HO
  obtain ⟨x0, x1, x2, x3, x4, x5, x6, x7⟩ := nd_facts HX3.out
  have JN := Lib.hid (fun a W => joined_any x a lo.length W)
  have N6 := Lib.hid (fun W => named_any x W hs)
  have N7 := Lib.hid (fun W => numbered_any x W)
  have N2 := Lib.hid (fun A n c W hr hn => led_any x A n c lo W hr hn)
  clear hs
  unfold Nd.val at JN N6 N7 N2
  obtain ⟨k1, hk1⟩ : ∃ k, (x.kind == 1) = k := ⟨_, rfl⟩
  obtain ⟨i0, hii⟩ : ∃ k, ((i : Int) == 0) = k := ⟨_, rfl⟩
  have hi0' : (i == 0) = i0 := by rw [← hii]; exact (nat_beq i 0).symm
  rw [hk1, hi0'] at hsh
  clear hi0'
  go_upto_region 4 with (fail)
  obtain ⟨⟨z0, z1, z2⟩, _⟩ := tri_facts HP3.out
  go_cut [19] from 20 to 34 (fun s wx => s = .bool (!shaped p i) ∧ Below w3.heap.size w3 wx)
  case first =>
    clear hk1
    have HSF := Lib.hid (fun w' (hb : Below w3.heap.size w3 w') => (show w'.cell? ⟨z, 0, none⟩ = some (.int .i64 x.kind) ∧ w'.cell? ⟨z, 1, none⟩ = some (.string x.topic) ∧ w'.cell? ⟨z, 2, none⟩ = some (.int .i64 x.prio) ∧ w'.cell? ⟨z, 3, none⟩ = some (.int .i64 x.retr) ∧ w'.cell? ⟨z, 4, none⟩ = some (.int .i64 x.dflt) ∧ w'.cell? ⟨z, 5, none⟩ = some (.string x.code) ∧ w'.cell? ⟨z, 6, none⟩ = some (.string x.caught) ∧ w'.cell? ⟨z, 7, none⟩ = some (.int .i64 x.tgt) ∧ w'.cell? ⟨w.heap.size, 0, none⟩ = some (.string p.name) ∧ w'.cell? ⟨w.heap.size, 1, none⟩ = some (.slice (some ⟨b, off, none⟩) p.n c) ∧ w'.cell? ⟨w.heap.size, 2, none⟩ = some (.slice F p.m d) from by
      obtain ⟨a0, a1, a2, a3, a4, a5, a6, a7⟩ := nd_facts (HX3.out.below hb (Nat.le_refl _))
      obtain ⟨⟨b0, b1, b2⟩, _⟩ := tri_facts (HP3.out.below hb (Nat.le_refl _))
      exact ⟨a0, a1, a2, a3, a4, a5, a6, a7, b0, b1, b2⟩))
    have hbd : Below w3.heap.size w3 w3.drew := (Below.refl _ _).drew
    have S3 := HSF.out _ hbd
    obtain ⟨J, hJ⟩ : ∃ J, jn x.kind li.length lo.length x.caught.size = J := ⟨_, rfl⟩
    have JN := Lib.hid (JN.out li.length)
    rw [hJ] at JN hsh
    clear hJ
    cases k1 <;> cases i0
    · have hJ' : shaped p i = J := by rw [hsh]; rfl
      have HJ := Lib.hid hJ'
      clear hsh hJ'
      go_region_held3 (fun w' => w'.cell? ⟨z, 0, none⟩ = some (.int .i64 x.kind) ∧ w'.cell? ⟨z, 1, none⟩ = some (.string x.topic) ∧ w'.cell? ⟨z, 2, none⟩ = some (.int .i64 x.prio) ∧ w'.cell? ⟨z, 3, none⟩ = some (.int .i64 x.retr) ∧ w'.cell? ⟨z, 4, none⟩ = some (.int .i64 x.dflt) ∧ w'.cell? ⟨z, 5, none⟩ = some (.string x.code) ∧ w'.cell? ⟨z, 6, none⟩ = some (.string x.caught) ∧ w'.cell? ⟨z, 7, none⟩ = some (.int .i64 x.tgt) ∧ w'.cell? ⟨w.heap.size, 0, none⟩ = some (.string p.name) ∧ w'.cell? ⟨w.heap.size, 1, none⟩ = some (.slice (some ⟨b, off, none⟩) p.n c) ∧ w'.cell? ⟨w.heap.size, 2, none⟩ = some (.slice F p.m d)) (first | exact S6 | exact S5 | exact S3) (first
        | (go_at_call 40; refine (HIn.out _ HB3.out.drew).mono ?_; rintro e w5 ⟨⟨Y, ki, ci, rfl, hoy⟩, hb5⟩; obtain rfl : li.length = ki := (by simpa using hoy.len); have S5 := HSF.out _ (hbd.trans hb5))
        | (go_at_call 39; refine (JN.out _).mono ?_; rintro e w6 ⟨rfl, hb6⟩; have S6 := HSF.out _ ((hbd.trans hb5).trans (hb6.mono (hbd.trans hb5).size))))
      all_goals
        go_wp2_with fail
        go_meet
        exact ⟨by rw [HJ.out], (hbd.trans hb5).trans (hb6.mono (hbd.trans hb5).size)⟩
    · have hJ' : shaped p i = false := by rw [hsh]; rfl
      have HJ := Lib.hid hJ'
      clear hsh hJ'
      go_quiet (fail)
      go_wp2_with fail
      go_meet
      exact ⟨by rw [HJ.out]; rfl, below_drewN (Below.refl _ _) _⟩
    · have hJ' : shaped p i = false := by rw [hsh]; rfl
      have HJ := Lib.hid hJ'
      clear hsh hJ'
      go_quiet (fail)
      go_wp2_with fail
      go_meet
      exact ⟨by rw [HJ.out]; rfl, below_drewN (Below.refl _ _) _⟩
    · have hJ' : shaped p i = J := by rw [hsh]; rfl
      have HJ := Lib.hid hJ'
      clear hsh hJ'
      go_region_held3 (fun w' => w'.cell? ⟨z, 0, none⟩ = some (.int .i64 x.kind) ∧ w'.cell? ⟨z, 1, none⟩ = some (.string x.topic) ∧ w'.cell? ⟨z, 2, none⟩ = some (.int .i64 x.prio) ∧ w'.cell? ⟨z, 3, none⟩ = some (.int .i64 x.retr) ∧ w'.cell? ⟨z, 4, none⟩ = some (.int .i64 x.dflt) ∧ w'.cell? ⟨z, 5, none⟩ = some (.string x.code) ∧ w'.cell? ⟨z, 6, none⟩ = some (.string x.caught) ∧ w'.cell? ⟨z, 7, none⟩ = some (.int .i64 x.tgt) ∧ w'.cell? ⟨w.heap.size, 0, none⟩ = some (.string p.name) ∧ w'.cell? ⟨w.heap.size, 1, none⟩ = some (.slice (some ⟨b, off, none⟩) p.n c) ∧ w'.cell? ⟨w.heap.size, 2, none⟩ = some (.slice F p.m d)) (first | exact S6 | exact S5 | exact S3) (first
        | (go_at_call 40; refine (HIn.out _ HB3.out.drew).mono ?_; rintro e w5 ⟨⟨Y, ki, ci, rfl, hoy⟩, hb5⟩; obtain rfl : li.length = ki := (by simpa using hoy.len); have S5 := HSF.out _ (hbd.trans hb5))
        | (go_at_call 39; refine (JN.out _).mono ?_; rintro e w6 ⟨rfl, hb6⟩; have S6 := HSF.out _ ((hbd.trans hb5).trans (hb6.mono (hbd.trans hb5).size))))
      all_goals
        go_wp2_with fail
        go_meet
        exact ⟨by rw [HJ.out], (hbd.trans hb5).trans (hb6.mono (hbd.trans hb5).size)⟩
  case rest =>
    obtain ⟨rfl, hbe⟩ := hcut
    generalize wc = w4 at *
    have HB4 := Lib.hid (HB3.out.trans (hbe.mono HB3.out.size))
    have HX4 := Lib.hid (HX3.out.below hbe (Nat.le_refl _))
    have HO4 := Lib.hid (HOw.out.below hbe (Nat.le_refl _))
    clear hbe x0 x1 x2 x3 x4 x5 x6 x7 z0 z1 z2 hsh HX3 HB3 HP3 HOw JN hk1 hii HIn
    obtain ⟨a2, ha2, g2⟩ := (HE.out _ HB4.out).e102
    obtain ⟨x0, x1, x2, x3, x4, x5, x6, x7⟩ := nd_facts HX4.out
    obtain ⟨sh, hsv⟩ : ∃ s, shaped p i = s := ⟨_, rfl⟩
    rw [hsv] at hR ⊢
    clear hsv
    cases sh with
    | false =>
      obtain rfl : R = 102 := hR
      go_wp2
      go_ret
      exact ⟨⟨_, rfl, .err 102 a2 ha2 (by decide)⟩, HB4.out⟩
    | true =>
      rw [if_neg (by decide)] at hR
      obtain ⟨v6, hv6⟩ : ∃ s, nb6 x = s := ⟨_, rfl⟩
      obtain ⟨v7, hv7⟩ : ∃ s, nb7 x.kind x.prio x.retr = s := ⟨_, rfl⟩
      obtain ⟨v2, hv2⟩ : ∃ s, nb2 x lo = s := ⟨_, rfl⟩
      rw [hv6, hv7, hv2] at hR
      rw [hv6] at N6
      rw [hv7] at N7
      rw [hv2] at N2
      clear hv6 hv7 hv2 g2
      go_wp2_with fail
      refine (N6.out _).mono ?_
      rintro e w5 ⟨rfl, hb5⟩
      have HB5 := Lib.hid (HB4.out.trans (hb5.mono HB4.out.size))
      have HX5 := Lib.hid (HX4.out.below hb5 (Nat.le_refl _))
      have HO5 := Lib.hid (HO4.out.below hb5 (Nat.le_refl _))
      clear hb5 x0 x1 x2 x3 x4 x5 x6 x7 HX4 HB4 HO4
      obtain ⟨x0, x1, x2, x3, x4, x5, x6, x7⟩ := nd_facts HX5.out
      cases v6 with
      | false =>
        obtain ⟨a6, ha6, g6⟩ := (HE.out _ HB5.out).e106
        obtain rfl : R = 106 := by rw [hR]; rfl
        clear hR
        go_wp2
        go_ret
        exact ⟨⟨_, rfl, .err 106 a6 ha6 (by decide)⟩, HB5.out⟩
      | true =>
        rw [Bool.not_true, if_neg (by decide)] at hR
        go_wp2_with fail
        refine (N7.out _).mono ?_
        rintro e w6 ⟨rfl, hb6⟩
        have HB6 := Lib.hid (HB5.out.trans (hb6.mono HB5.out.size))
        have HX6 := Lib.hid (HX5.out.below hb6 (Nat.le_refl _))
        have HO6 := Lib.hid (HO5.out.below hb6 (Nat.le_refl _))
        clear hb6 x0 x1 x2 x3 x4 x5 x6 x7 HX5 HB5 HO5
        obtain ⟨x0, x1, x2, x3, x4, x5, x6, x7⟩ := nd_facts HX6.out
        cases v7 with
        | false =>
          obtain ⟨a7, ha7, g7⟩ := (HE.out _ HB6.out).e107
          obtain rfl : R = 107 := by rw [hR]; rfl
          clear hR
          go_wp2
          go_ret
          exact ⟨⟨_, rfl, .err 107 a7 ha7 (by decide)⟩, HB6.out⟩
        | true =>
          rw [Bool.not_true, if_neg (by decide)] at hR
          go_wp2_with fail
          refine (N2.out X lo.length co _ HO6.out.row (by omega)).mono ?_
          rintro e w7 ⟨rfl, hb7⟩
          have HB7 := Lib.hid (HB6.out.trans (hb7.mono HB6.out.size))
          clear hb7 x0 x1 x2 x3 x4 x5 x6 x7 HX6 HB6 HO6
          cases v2 with
          | false =>
            obtain ⟨a3, ha3, g3⟩ := (HE.out _ HB7.out).e102
            obtain rfl : R = 102 := by rw [hR]; rfl
            clear hR
            go_wp2
            go_ret
            exact ⟨⟨_, rfl, .err 102 a3 ha3 (by decide)⟩, HB7.out⟩
          | true =>
            obtain rfl : R = 0 := by rw [hR]; rfl
            clear hR
            go_wp2
            go_ret
            exact ⟨⟨_, rfl, .nil⟩, HB7.out⟩
end Pr
end Go.Proofs.YtddedbpbenkdoaaGreatDoor
