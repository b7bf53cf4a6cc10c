/- Walks of the document's own frames: OfFour, ReadFrame. -/
import Derived.Test.YtcgcacnlafdggaaDoorFs
import Derived.Test.YtcgcacnlafdggaaDoorRefS
import Derived.Test.YtcgcacnlafdggaaDoorRefB
import Derived.Test.YtcgcacnlafdggaaDoorSame
import Derived.Test.YtcgcacnlafdggaaDoorFm
namespace Go.Proofs.YtcgcacnlafdggaaDoor
open Go.RowKit

/-- Four bytes as a number. -/
def of4 (a b c d : UInt8) : BitVec 32 := BitVec.ofNat 32 (a.toNat + 256 * b.toNat + 65536 * c.toNat + 16777216 * d.toNat)
theorem of4_nat (a b c d : UInt8) : (of4 a b c d).toNat = a.toNat + 256 * b.toNat + 65536 * c.toNat + 16777216 * d.toNat := by
  have := a.toNat_lt
  have := b.toNat_lt
  have := c.toNat_lt
  have := d.toNat_lt
  unfold of4
  rw [BitVec.toNat_ofNat, Nat.mod_eq_of_lt (by omega)]
theorem four_of4 (a b c d : UInt8) : Crc.four (of4 a b c d) = [a, b, c, d] := by
  have := a.toNat_lt
  have := b.toNat_lt
  have := c.toNat_lt
  have := d.toNat_lt
  unfold Crc.four
  rw [of4_nat]
  have h : ∀ (n : Nat) (x : UInt8), n % 256 = x.toNat → UInt8.ofNat n = x := fun n x h => UInt8.toNat_inj.1 (by rw [UInt8.toNat_ofNat']; exact h)
  rw [h _ a (by omega), h _ b (by omega), h _ c (by omega), h _ d (by omega)]
theorem or32 (k x y : Nat) (hx : x < 2 ^ k) (h : x + 2 ^ k * y < 4294967296) : Go.bits BinOp.or .u32 (x : Int) ((2 ^ k * y : Nat) : Int) = ((x + 2 ^ k * y : Nat) : Int) := by
  show IntKind.u32.wrap ((BitVec.ofInt 32 _ ||| BitVec.ofInt 32 _).toNat : Int) = _
  rw [BitVec.ofInt_natCast, BitVec.ofInt_natCast, BitVec.toNat_or, BitVec.toNat_ofNat, BitVec.toNat_ofNat, Nat.mod_eq_of_lt (by omega), Nat.mod_eq_of_lt (by omega)]
  have h1 := Nat.two_pow_add_eq_or_of_lt hx y
  rw [Nat.or_comm, ← h1, IntKind.wrap_u32']
  omega

theorem four_or (x0 x1 x2 x3 : UInt8) : Go.bits BinOp.or .u32 (Go.bits BinOp.or .u32 (Go.bits BinOp.or .u32 ((x0.toNat : Int) % 4294967296) ((x1.toNat : Int) % 4294967296 * 256 % 4294967296)) ((x2.toNat : Int) % 4294967296 * 65536 % 4294967296)) ((x3.toNat : Int) % 4294967296 * 16777216 % 4294967296) = u (of4 x0 x1 x2 x3) := by
  have h0 := x0.toNat_lt
  have h1 := x1.toNat_lt
  have h2 := x2.toNat_lt
  have h3 := x3.toNat_lt
  have e0 : (x0.toNat : Int) % 4294967296 = ((x0.toNat : Nat) : Int) := by omega
  have e1 : (x1.toNat : Int) % 4294967296 * 256 % 4294967296 = ((2 ^ 8 * x1.toNat : Nat) : Int) := by omega
  have e2 : (x2.toNat : Int) % 4294967296 * 65536 % 4294967296 = ((2 ^ 16 * x2.toNat : Nat) : Int) := by omega
  have e3 : (x3.toNat : Int) % 4294967296 * 16777216 % 4294967296 = ((2 ^ 24 * x3.toNat : Nat) : Int) := by omega
  rw [e0, e1, e2, e3, or32 8 _ _ (by omega) (by omega), or32 16 _ _ (by omega) (by omega), or32 24 _ _ (by omega) (by omega)]
  unfold u
  rw [of4_nat]

set_option maxHeartbeats 800000 in
theorem offour_any (b off c : Nat) (x0 x1 x2 x3 : UInt8) (w : World) (B : Nat) (hr : Bytes w B (some ⟨b, off, none⟩) 4 [x0, x1, x2, x3]) :
    Calls Tryd.prog 26 #[.slice (some ⟨b, off, none⟩) 4 c] w fun e w' => e = .returned (.int .u32 (u (of4 x0 x1 x2 x3))) ∧ Below w.heap.size w w' := by
  obtain ⟨b', off', he, hb, hcl⟩ := hr.2 (by omega)
  obtain ⟨rfl, rfl⟩ : b = b' ∧ off = off' := by injection he with he; injection he with h1 h2; exact ⟨h1, h2⟩
  have c0 : w.cell? ⟨b, off, none⟩ = some (.int .u8 (x0.toNat : Int)) := hcl 0 _ rfl
  have c1 : w.cell? ⟨b, off + 1, none⟩ = some (.int .u8 (x1.toNat : Int)) := hcl 1 _ rfl
  have c2 : w.cell? ⟨b, off + 2, none⟩ = some (.int .u8 (x2.toNat : Int)) := hcl 2 _ rfl
  have c3 : w.cell? ⟨b, off + 3, none⟩ = some (.int .u8 (x3.toNat : Int)) := hcl 3 _ rfl
  clear hcl
  go_enter Tryd.func26, Tryd.ntmps26
  go_wp2
  go_quiet (fail)
  go_wp2
  go_ret
  exact ⟨by rw [← four_or]; rfl, below_drewN (Below.refl _ _) _⟩

theorem fits_of4 (l : List UInt8) (k : Nat) (hk : k = Fr.blen l) (y0 y1 y2 y3 : UInt8) (h : (l.drop (k + 6)).take 4 = [y0, y1, y2, y3]) : (u (Crc.sum (l.take (k + 6))) == u (of4 y0 y1 y2 y3)) = Fr.fits l := by
  rw [u_beq]
  unfold Fr.fits
  rw [← hk, h, ← four_of4 y0 y1 y2 y3]
  by_cases he : Crc.sum (l.take (k + 6)) = of4 y0 y1 y2 y3
  · rw [he]; simp
  · rw [beq_eq_false_iff_ne.2 he, eq_comm, beq_eq_false_iff_ne]
    exact fun e => he (Fr.four_inj e).symm
theorem mark_of (l : List UInt8) (k : Nat) (hk : k ≤ 3) (hl : k ≤ l.length) (h : l.take k = Fr.marks.take k) (he : k = 3 ∨ k = l.length) : Fr.wrong l = false := by
  unfold Fr.wrong
  rw [bne_eq_false_iff_eq]
  rcases he with rfl | rfl
  · rw [h, List.take_of_length_le (by decide), List.take_of_length_le (by simpa [Fr.marks] using hl)]
  · rw [← h, List.take_of_length_le hk, List.take_of_length_le (Nat.le_refl _)]
theorem mark_not (l : List UInt8) (k : Nat) (hk : k < 3) (hl : k < l.length) (h : l[k] ≠ Fr.marks[k]'hk) : Fr.wrong l = true := by
  unfold Fr.wrong
  rw [bne_iff_ne]
  intro e
  have := congrArg (fun m => m[k]?) e
  simp only [List.getElem?_take, if_pos hk, if_pos hl] at this
  rw [List.getElem?_eq_getElem hl, List.getElem?_eq_getElem (show k < Fr.marks.length from hk)] at this
  exact h (Option.some.inj this)
theorem mark_next (l : List UInt8) (k : Nat) (hk : k < 3) (hl : k < l.length) (h : l.take k = Fr.marks.take k) (he : l[k] = Fr.marks[k]'hk) : l.take (k + 1) = Fr.marks.take (k + 1) := by
  rw [List.take_succ_eq_append_getElem hl, List.take_succ_eq_append_getElem (show k < Fr.marks.length from hk), h, he]
  rfl

set_option maxRecDepth 4000 in
set_option maxHeartbeats 800000 in
theorem refread_any (b off n c : Nat) (l : List UInt8) (w : World) (hr : Bytes w w.heap.size (some ⟨b, off, none⟩) n l) (h0 : 0 < n) (hn : n ≤ c) (hc : n ≤ 70368744177664) :
    Calls Tryd.prog 18 #[.slice (some ⟨b, off, none⟩) n c] w fun e w' => ∃ A' c', e = .returned (.tuple #[.int .u8 ((Fr.said l).1.toNat : Int), .slice A' (Fr.said l).2.1.length c', .int .i64 ((Fr.said l).2.2 : Int), .int .i64 (Fr.code l)]) ∧
      OwnBytes w' w.heap.size 5 A' (Fr.said l).2.1.length c' (Fr.said l).2.1 ∧ Below w.heap.size w w' := by
  have hl := hr.len
  obtain ⟨b', off', he, hb, hcl⟩ := hr.2 h0
  obtain ⟨rfl, rfl⟩ : b = b' ∧ off = off' := by injection he with he; injection he with h1 h2; exact ⟨h1, h2⟩
  have HCL : Hid (∀ k (h : k < l.length), w.cell? ⟨b, off + k, none⟩ = some (.int .u8 ((l[k]'h).toNat : Int))) := Lib.hid fun k h => hcl k _ (by simp [h, bv])
  clear hcl he
  obtain ⟨wA, hwA⟩ : ∃ wA, wA = w.alloc (.cells #[.int .u8 76, .int .u8 104, .int .u8 1] 5) := ⟨_, rfl⟩
  have hbA : Below w.heap.size w wA := by rw [hwA]; exact (Below.refl _ _).alloc (Nat.le_refl _) _
  obtain ⟨g, hg⟩ : ∃ g, g = w.heap.size := ⟨_, rfl⟩
  have HM : Hid (∀ k (h : k < 3), wA.cell? ⟨g, k, none⟩ = some (.int .u8 (((Fr.marks[k]'h).toNat : Nat) : Int))) := Lib.hid fun k h => by
    rw [hwA, hg, cell_of_row _ w.heap.size k _ _ (0, 0) (heap_alloc_new w _)]
    match k, h with
    | 0, _ => rfl
    | 1, _ => rfl
    | 2, _ => rfl
  have hgA : g < wA.heap.size := by rw [hwA, hg]; simp
  have hbb : b < wA.heap.size := Nat.lt_of_lt_of_le hb hbA.size
  go_enter Tryd.func18, Tryd.ntmps18
  go_wp2_with fail
  rw [← hwA, ← hg]
  clear hwA hg
  go_loopw [7] (fun i wr => ∃ k : Nat, k ≤ 3 ∧ k ≤ n ∧ i = .int .i64 k ∧ l.take k = Fr.marks.take k ∧ Below wA.heap.size wA wr) (fun i _ => 3 - (intOf i).toNat)
  case atStart => exact ⟨0, by omega, by omega, rfl, rfl, Below.refl _ _⟩
  case round =>
    obtain ⟨k, hk3, hkn, rfl, htk, hbw⟩ := hrel
    have HT := Lib.hid htk
    clear htk
    by_cases hlt : k < 3 ∧ k < n
    · obtain ⟨hlt3, hltn⟩ := hlt
      have hkl : k < l.length := by omega
      have i0 : (0 : Int) ≤ (k : Int) := by omega
      have i1 : (k : Int) < (n : Int) := by omega
      have i2 : (k : Int) < 3 := by omega
      have cx := (hbw.cell (p := ⟨b, off + k, none⟩) hbb).trans ((hbA.cell (p := ⟨b, off + k, none⟩) hb).trans (HCL.out k hkl))
      have cm := (hbw.cell (p := ⟨g, k, none⟩) hgA).trans (HM.out k hlt3)
      by_cases hxy : l[k]'hkl = Fr.marks[k]'hlt3
      · have H := Lib.hid (mark_next l k hlt3 hkl HT.out hxy)
        rw [← hxy] at cm
        generalize l[k]'hkl = x at *
        have hbx : ((x.toNat : Int) == (x.toNat : Int)) = true := by simp
        clear hxy
        go_wp2
        go_quiet (fail)
        go_wp2
        go_roundw
        case rel => exact ⟨k + 1, by omega, by omega, by go_num, H.out, below_drewN hbw _⟩
        case measure => simp [intOf]; omega
      · have hw := mark_not l k hlt3 hkl hxy
        have hs : Fr.scode l = 102 := by unfold Fr.scode; rw [if_pos hw]
        have hco : Fr.code l = 102 := by rw [Fr.code_amiss (by rw [hs]; decide), hs]
        have HS : Hid (Fr.said l = (0, [], 0) ∧ Fr.code l = 102) := Lib.hid ⟨Fr.said_not (by rw [hco]; decide), hco⟩
        have hbx := u8_ne hxy
        generalize l[k]'hkl = x at *
        generalize Fr.marks[k]'hlt3 = y at *
        clear hxy hw hs hco
        go_wp2
        go_quiet (fail)
        go_wp2
        ((try simp only [Exit.inBlock, Exit.then]); refine bodyPost_ret (results_tmp4 rfl _ _ _) rfl ?_)
        rw [HS.out.1, HS.out.2]
        exact ⟨none, 0, rfl, World.ownsRow_nil _ _ _ _, hbA.trans ((below_drewN hbw _).mono hbA.size)⟩
    · have hw : Fr.wrong l = false := mark_of l k hk3 (by omega) HT.out (by omega)
      have hb3 : Below w.heap.size w wr := hbA.trans (hbw.mono hbA.size)
      have hex : k < 3 → n ≤ k := fun h => by omega
      by_cases h6 : n < 6
      · have hs : Fr.scode l = 101 := by unfold Fr.scode; rw [if_neg (by rw [hw]; decide), if_pos (by omega)]
        have hco : Fr.code l = 101 := by rw [Fr.code_amiss (by rw [hs]; decide), hs]
        have HS : Hid (Fr.said l = (0, [], 0) ∧ Fr.code l = 101) := Lib.hid ⟨Fr.said_not (by rw [hco]; decide), hco⟩
        clear hw hs hco HT
        by_cases hk : k < 3
        · have hnk := hex hk
          go_wp2
          ((try simp only [Exit.inBlock, Exit.then]); refine bodyPost_ret (results_tmp4 rfl _ _ _) rfl ?_)
          rw [HS.out.1, HS.out.2]
          exact ⟨none, 0, rfl, World.ownsRow_nil _ _ _ _, hb3⟩
        · go_wp2
          ((try simp only [Exit.inBlock, Exit.then]); refine bodyPost_ret (results_tmp4 rfl _ _ _) rfl ?_)
          rw [HS.out.1, HS.out.2]
          exact ⟨none, 0, rfl, World.ownsRow_nil _ _ _ _, hb3⟩
      · obtain rfl : k = 3 := by omega
        have c3 : wr.cell? ⟨b, off + 3, none⟩ = some (bv (l.getD 3 0)) := (hb3.cell (p := ⟨b, off + 3, none⟩) hb).trans ((HCL.out 3 (by omega)).trans (by simp [bv, List.getD, List.getElem?_eq_getElem (show 3 < l.length by omega)]))
        have c4 : wr.cell? ⟨b, off + 4, none⟩ = some (bv (l.getD 4 0)) := (hb3.cell (p := ⟨b, off + 4, none⟩) hb).trans ((HCL.out 4 (by omega)).trans (by simp [bv, List.getD, List.getElem?_eq_getElem (show 4 < l.length by omega)]))
        have c5 : wr.cell? ⟨b, off + 5, none⟩ = some (bv (l.getD 5 0)) := (hb3.cell (p := ⟨b, off + 5, none⟩) hb).trans ((HCL.out 5 (by omega)).trans (by simp [bv, List.getD, List.getElem?_eq_getElem (show 5 < l.length by omega)]))
        have hv := two_bytes (l.getD 4 0) (l.getD 5 0)
        rw [show (l.getD 4 0).toNat + 256 * (l.getD 5 0).toNat = Fr.blen l from rfl] at hv
        obtain ⟨k, hk⟩ : ∃ k, k = Fr.blen l := ⟨_, rfl⟩
        have HB := Lib.hid hk
        have hk2 : k < 65536 := by have := (l.getD 4 0).toNat_lt; have := (l.getD 5 0).toNat_lt; unfold Fr.blen at hk; omega
        have HK3 : Hid (Fr.kind l = l.getD 3 0) := Lib.hid rfl
        rw [← hk] at hv
        clear hk HT hex hk3 hkn hlt HCL HM
        generalize l.getD 3 0 = x3 at *
        generalize l.getD 4 0 = x4 at *
        generalize l.getD 5 0 = x5 at *
        unfold bv at c3 c4 c5
        by_cases hb1 : 4000 < k
        · have hs : Fr.scode l = 102 := by unfold Fr.scode; rw [if_neg (by rw [hw]; decide), if_neg (by omega), if_pos (by rw [← HB.out]; exact hb1)]
          have hco : Fr.code l = 102 := by rw [Fr.code_amiss (by rw [hs]; decide), hs]
          have HS : Hid (Fr.said l = (0, [], 0) ∧ Fr.code l = 102) := Lib.hid ⟨Fr.said_not (by rw [hco]; decide), hco⟩
          clear hw hs hco
          go_wp2
          go_quiet (fail)
          clear c3 c4 c5 hv hbw hbA hgA hbb hk2 hr
          go_wp2
          ((try simp only [Exit.inBlock, Exit.then]); refine bodyPost_ret (results_tmp4 rfl _ _ _) rfl ?_)
          rw [HS.out.1, HS.out.2]
          exact ⟨none, 0, rfl, World.ownsRow_nil _ _ _ _, below_drewN hb3 _⟩
        · by_cases hb2 : n < k + 10
          · have hs : Fr.scode l = 101 := by unfold Fr.scode; rw [if_neg (by rw [hw]; decide), if_neg (by omega), if_neg (by rw [← HB.out]; exact hb1), if_pos (by rw [← HB.out]; omega)]
            have hco : Fr.code l = 101 := by rw [Fr.code_amiss (by rw [hs]; decide), hs]
            have HS : Hid (Fr.said l = (0, [], 0) ∧ Fr.code l = 101) := Lib.hid ⟨Fr.said_not (by rw [hco]; decide), hco⟩
            clear hw hs hco
            go_wp2
            go_quiet (fail)
            clear c3 c4 c5 hv hbw hbA hgA hbb hr
            go_wp2
            ((try simp only [Exit.inBlock, Exit.then]); refine bodyPost_ret (results_tmp4 rfl _ _ _) rfl ?_)
            rw [HS.out.1, HS.out.2]
            exact ⟨none, 0, rfl, World.ownsRow_nil _ _ _ _, below_drewN hb3 _⟩
          · have hs : Fr.scode l = 0 := by unfold Fr.scode; rw [if_neg (by rw [hw]; decide), if_neg (by omega), if_neg (by rw [← HB.out]; exact hb1), if_neg (by rw [← HB.out]; omega)]
            have HR := Lib.hid hr
            have HC3 := Lib.hid c3
            have HB3 := Lib.hid hb3
            have HL := Lib.hid (And.intro hl (And.intro hn hc))
            have HSC := Lib.hid hs
            clear hw hr c3 hb3 hbw hbA hgA hbb hl hn hc hs hb
            go_wp2
            go_quiet (fail)
            clear c4 c5 hv
            go_upto_region 14 with (fail)
            have hbx := below_drewN HB3.out nq
            have hc3 : (wr.drewN nq).cell? ⟨b, off + 3, none⟩ = some (.int .u8 (x3.toNat : Int)) := by simpa using HC3.out
            have hr := HR.out
            have hs := HSC.out
            obtain ⟨hl, hn, hc⟩ := HL.out
            clear HC3 HB3 HR HSC HL
            generalize wr.drewN nq = wx at *
            obtain ⟨y0, y1, y2, y3, hy⟩ : ∃ y0 y1 y2 y3, (l.drop (k + 6)).take 4 = [y0, y1, y2, y3] := by
              have : ((l.drop (k + 6)).take 4).length = 4 := by simp; omega
              match (l.drop (k + 6)).take 4, this with
              | [y0, y1, y2, y3], _ => exact ⟨y0, y1, y2, y3, rfl⟩
            have HF := Lib.hid (fits_of4 l k HB.out y0 y1 y2 y3 hy)
            have hr1 := (((hr.below hbx (Nat.le_refl _)).mono hbx.size).front (k := k + 6) (by omega)).drew
            have hr2 := (((hr.below hbx (Nat.le_refl _)).mono hbx.size).part (i := k + 6) (k := 4) (by omega)).drew
            rw [hy] at hr2
            have hr2' : Bytes wx.drew wx.heap.size (some ⟨b, off + (k + 6), none⟩) 4 [y0, y1, y2, y3] := hr2
            have j2 : (k : Int) + 6 ≤ (c : Int) := by omega
            have j3 : (k : Int) + 10 ≤ (c : Int) := by omega
            have j5 : ¬ c = k + 6 := by omega
            have j1 : (0 : Int) ≤ (k : Int) + 6 := by omega
            have t6 : ((k : Int) + 6).toNat = k + 6 := by omega
            have t10 : ((k : Int) + 10).toNat = k + 10 := by omega
            have d4 : k + 10 - (k + 6) = 4 := by omega
            have d0 : k + 6 - 6 = k := by omega
            have j6 : ¬ c = 6 := by omega
            have j7 : (3 : Int) < (n : Int) := by omega
            have j8 : (6 : Int) ≤ (k : Int) + 6 := by omega
            clear hy hr2
            go_cut [61] (fun s61 wy => s61 = .bool (!(Fr.fits l)) ∧ Below wx.heap.size wx wy)
            case first =>
              have e6 : IntKind.i64.wrap ((k : Int) + 6) = (k : Int) + 6 := by rw [IntKind.wrap_i64]; omega
              have e10 : IntKind.i64.wrap ((k : Int) + 10) = (k : Int) + 10 := by rw [IntKind.wrap_i64]; omega
              clear HB HK3 hs hl hn hc h0 hc3 hr
              go_region_held3 (fun _ => True) (exact trivial) (first
                | (go_at_call 25; first
                    | (refine (refsum_any _ _ (k + 6) c _ hr1 (by omega)).mono ?_; rintro e w4 ⟨rfl, rfl⟩)
                    | (refine (refsum_any _ _ (k + 6) c _ hr1y (by omega)).mono ?_; rintro e w4 ⟨rfl, rfl⟩))
                | (go_at_call 26; refine (offour_any b (off + (k + 6)) _ y0 y1 y2 y3 _ _ hr2').mono ?_; rintro e w5 ⟨rfl, hb5⟩; have hr1y := (hr1.below hb5 (Nat.le_refl _)).mono hb5.size))
              all_goals
                go_wp2_with fail
                go_meet
                exact ⟨by rw [← HF.out]; rfl, (Below.refl _ _).drew.trans hb5⟩
            case rest =>
              obtain ⟨rfl, hbw⟩ := hcut
              have hb4 := hbx.trans (hbw.mono hbx.size)
              by_cases hf : Fr.fits l = true
              · have hco : Fr.code l = 0 := Fr.code_fine hs hf
                have hbl := Fr.body_len hs
                rw [← HB.out] at hbl
                have hsd := Fr.said_yes hco
                rw [← HB.out, HK3.out] at hsd
                have hbd : (l.drop 6).take k = Fr.body l := by unfold Fr.body; rw [← HB.out]
                have HS := Lib.hid (And.intro hsd (And.intro hco (And.intro hbl hbd)))
                have hcy : wc.drew.cell? ⟨b, off + 3, none⟩ = some (.int .u8 (x3.toNat : Int)) := by
                  have := (hbw.cell (p := ⟨b, off + 3, none⟩) (cell_lt hc3)).trans hc3
                  simpa using this
                have hr3 := (((hr.below hb4 (Nat.le_refl _)).mono hb4.size).part (i := 6) (k := k) (by omega)).drew
                have hbc : b < wc.heap.size := Nat.lt_of_lt_of_le (cell_lt hc3) hbw.size
                have e6 : IntKind.i64.wrap ((k : Int) + 6) = (k : Int) + 6 := by rw [IntKind.wrap_i64]; omega
                have e10 : IntKind.i64.wrap ((k : Int) + 10) = (k : Int) + 10 := by rw [IntKind.wrap_i64]; omega
                have hk4 : k ≤ 70368744177664 := by omega
                rw [hf]
                clear HB HK3 hs hco hbl hsd hbd hr1 hr2' hr hl hn hc h0 hc3
                go_wp2_with fail
                go_region_held3 (fun w' => w'.cell? ⟨b, off + 3, none⟩ = some (.int .u8 (x3.toNat : Int))) (first | exact c3x | exact hcy) (first
                  | (go_at_call 9; refine (refbytes_any _ k _ _ _ hr3 hk4).mono ?_; rintro e w6 ⟨A6, c6, rfl, ho6, hb6⟩; have c3x := (hb6.cell (p := ⟨b, off + 3, none⟩) hbc).trans hcy))
                all_goals
                  go_wp2_with fail
                  ((try simp only [Exit.inBlock, Exit.then]); refine bodyPost_ret (results_tmp4 rfl _ _ _) rfl ?_)
                  obtain ⟨s1, s2, s3, s4⟩ := HS.out
                  rw [s1, s2]
                  rw [s4] at ho6
                  refine ⟨A6, c6, ?_, ?_, ?_⟩
                  · simp only [s3]; rfl
                  · simp only [s3]; exact ho6.base hb4.size
                  · exact hb4.trans ((Below.refl _ _).drew.trans (hb6.mono hb4.size))
              · have hf' : Fr.fits l = false := by simpa using hf
                have hco : Fr.code l = 103 := Fr.code_sum hs hf'
                have HS : Hid (Fr.said l = (0, [], 0) ∧ Fr.code l = 103) := Lib.hid ⟨Fr.said_not (by rw [hco]; decide), hco⟩
                rw [hf']
                clear hco hs hf hf' hc3 hr1 hr2' hr j1 j2 j3 j5 j6 j7 j8 t6 t10 d4 d0 hbw hbx
                go_wp2
                ((try simp only [Exit.inBlock, Exit.then]); refine bodyPost_ret (results_tmp4 rfl _ _ _) rfl ?_)
                rw [HS.out.1, HS.out.2]
                exact ⟨none, 0, rfl, World.ownsRow_nil _ _ _ _, hb4⟩
end Go.Proofs.YtcgcacnlafdggaaDoor
