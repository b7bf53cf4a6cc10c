/- A walk of the document's own Stream. -/
import Derived.Test.YtcgcacnlafdggaaDoorSt
import Derived.Test.YtcgcacnlafdggaaDoorFd
namespace Go.Proofs.YtcgcacnlafdggaaDoor
open Go.RowKit

/-- The document's Stream lies in block p: the bytes that wait; q: the block that they lie in. -/
structure StD (w : World) (p : Nat) (q : Option Nat) (l : List UInt8) : Prop where
  ex : ∃ A n c, w.cell? ⟨p, 0, none⟩ = some (.slice A n c) ∧ w.frozen? ⟨p, 0, none⟩ = false ∧ Bytes w w.heap.size A n l ∧ (A = none → n = 0 ∧ c = 0) ∧ n ≤ c ∧ c ≤ maxLen ∧ (0 < n → q = blk A)
  apart : q ≠ some p
theorem StD.lt {w : World} {p : Nat} {q : Option Nat} {l : List UInt8} (h : StD w p q l) : p < w.heap.size := by
  obtain ⟨A, n, c, h0, _⟩ := h.ex
  exact cell_lt h0
theorem StD.kept {w w' : World} {p : Nat} {q : Option Nat} {l : List UInt8} {row : Option Nat} (h : StD w p q l) (hg : w.grownBy w' row) (h1 : row ≠ some p) (h2 : ∀ g, q = some g → row ≠ some g) : StD w' p q l := by
  obtain ⟨A, n, c, h0, f0, hr, hA, hn, hc, hq⟩ := h.ex
  have hblk := hg.block p h.lt (fun e => h1 e.symm)
  exact ⟨⟨A, n, c, (World.cell?_of_block (a := ⟨p, 0, none⟩) hblk).trans h0, (World.frozen?_of_block (a := ⟨p, 0, none⟩) hblk).trans f0, bytes_kept hr hg (fun h0 a e => h2 _ (by rw [hq h0, e]; rfl)), hA, hn, hc, hq⟩, h.apart⟩
theorem StD.below {w w' : World} {p : Nat} {q : Option Nat} {l : List UInt8} (h : StD w p q l) (hb : Below w.heap.size w w') : StD w' p q l :=
  h.kept (row := none) (grown_of_below hb none) (fun h => by cases h) (fun _ _ h => by cases h)
theorem StD.set {w : World} {p : Nat} {q : Option Nat} {l : List UInt8} {v0 : Value} {A : Option Addr} {n c : Nat} (h0 : w.cell? ⟨p, 0, none⟩ = some v0) (f0 : w.frozen? ⟨p, 0, none⟩ = false) (hr : Bytes w w.heap.size A n l) (hA : A = none → n = 0 ∧ c = 0) (hn : n ≤ c) (hc : c ≤ maxLen) (ha : q ≠ some p) (hq : 0 < n → q = blk A) :
    StD (w.setCell ⟨p, 0, none⟩ (.slice A n c)) p q l :=
  ⟨⟨A, n, c, World.cell?_setCell_same _ _ _ h0, by simpa using f0, bytes_kept hr (grown_setCell _ _ _) (fun h0 a e e2 => ha (by rw [hq h0, e]; exact e2.symm)), hA, hn, hc, hq⟩, ha⟩
theorem Bytes.off {w : World} {B g o n c : Nat} {l : List UInt8} (h : Bytes w B (some ⟨g, o, none⟩) n l) {k : Nat} (hk : k ≤ n) (hn : n ≤ c) : Bytes w B (if c = k then some ⟨g, o, none⟩ else some ⟨g, o + k, none⟩) (n - k) (l.drop k) := by
  by_cases hc : c = k
  · rw [if_pos hc]
    have : l.drop k = [] := List.drop_eq_nil_of_le (by rw [h.len]; omega)
    rw [this, show n - k = 0 from by omega]
    exact Bytes.nil _ _ _
  · rw [if_neg hc]
    exact h.back hk
theorem StD.waits {w : World} {p : Nat} {q : Option Nat} {l : List UInt8} (h : StD w p q l) : waitsLen p w = l.length := by
  obtain ⟨A, n, c, h0, f0, hr, _⟩ := h.ex
  unfold waitsLen
  rw [h0, hr.len]

set_option maxHeartbeats 3200000 in
theorem refnext_any {w : World} {p : Nat} {q : Option Nat} {l : List UInt8} (h : StD w p q l) (hmost : l.length ≤ 70368744177664) :
    Calls Tryd.prog 12 #[.pointer (some ⟨p, 0, none⟩)] w fun e w' => ∃ A' c', e = .returned (.tuple #[.int .u8 ((Fr.got l).1.toNat : Int), .slice A' (Fr.got l).2.1.length c', .bool (Fr.got l).2.2]) ∧
      OwnBytes w' w.heap.size 5 A' (Fr.got l).2.1.length c' (Fr.got l).2.1 ∧ StD w' p q (Fr.next l).2 ∧ w.grownBy w' (some p) := by
  go_enter Tryd.func12, Tryd.ntmps12
  go_wp2_with fail
  go_loopw [5, 6, 7, 8] (fun _ _ _ _ wr => ∃ m : List UInt8, StD wr p q m ∧ Fr.next m = Fr.next l ∧ m.length ≤ l.length ∧ w.grownBy wr (some p)) (fun _ _ _ _ wr => waitsLen p wr)
  case atStart => exact ⟨l, h, rfl, Nat.le_refl _, World.grownBy.refl _ _⟩
  case round =>
    obtain ⟨m, hm, hnx, hml, hgr⟩ := hrel
    obtain ⟨A, n, c, h0, f0, hr, hA, hcap, hmost', hq⟩ := hm.ex
    have hln := hr.len
    have hpl := hm.lt
    by_cases hpos : 0 < n
    · obtain ⟨g, off, rfl, hgl, _⟩ := hr.2 hpos
      have hread := refread_any g off n c m wr hr hpos hcap (by omega)
      have hd2 : w.heap.size ≤ wr.heap.size := hgr.size
      have hap := hm.apart
      have hqg : q = some g := hq hpos
      have hwm : waitsLen p wr = m.length := hm.waits
      rcases Fr.code_cases m with hc0 | hc0 | hc0
      · have hz := (Fr.scode_zero (Fr.code_zero hc0).1).2.2
        have hgot := Fr.got_found hc0
        have hnext := Fr.next_found hc0
        rw [Fr.got_next hnx] at hgot
        rw [hnx] at hnext
        rw [Fr.said_yes hc0, hc0] at hread
        generalize hk : Fr.blen m = k at *
        have HG := Lib.hid hgot
        have HN := Lib.hid hnext
        clear hgot hnext hc0 hk
        generalize Fr.kind m = kd at *
        generalize Fr.body m = bd at *
        have t1 : ((k : Int) + 10).toNat = k + 10 := by omega
        have t2 : (k : Int) + 10 ≤ (n : Int) := by omega
        have t3 : (0 : Int) ≤ (k : Int) + 10 := by omega
        have hposI : (0 : Int) < (n : Int) := by omega
        go_wp2_with fail
        refine hread.mono ?_
        rintro e w1 ⟨A1, c1, rfl, ho1, hb1⟩
        have h01 : w1.cell? ⟨p, 0, none⟩ = some (.slice (some ⟨g, off, none⟩) n c) := (hb1.cell (p := ⟨p, 0, none⟩) hpl).trans h0
        have f01 : w1.frozen? ⟨p, 0, none⟩ = false := (hb1.frozen (p := ⟨p, 0, none⟩) hpl).trans f0
        have hr1 := ((hr.below hb1 (Nat.le_refl _)).mono hb1.size).off (k := k + 10) (c := c) (by omega) hcap
        have hg2 : ∀ v, w.grownBy (w1.setCell ⟨p, 0, none⟩ v) (some p) := fun v => (hgr.trans (grown_of_below hb1 _)).trans (grown_setCell _ _ _)
        by_cases hck : c = k + 10
        · subst hck
          rw [if_pos rfl, show n - (k + 10) = 0 by omega] at hr1
          have hst : StD (w1.setCell ⟨p, 0, none⟩ (.slice (some ⟨g, off, none⟩) 0 0)) p q (m.drop (k + 10)) := StD.set h01 f01 hr1 (fun h => by cases h) (Nat.le_refl _) (by simp [maxLen]) hap (fun h => by omega)
          go_wp2
          ((try simp only [Exit.inBlock, Exit.then]); refine bodyPost_ret (results_tmp3 rfl _ _ _) rfl ?_)
          rw [HG.out, HN.out]
          exact ⟨A1, c1, rfl, own_base (own_setCell ho1 hpl) hd2, hst, hg2 _⟩
        · rw [if_neg hck] at hr1
          have hst : StD (w1.setCell ⟨p, 0, none⟩ (.slice (some ⟨g, off + (k + 10), none⟩) (n - (k + 10)) (c - (k + 10)))) p q (m.drop (k + 10)) := StD.set h01 f01 hr1 (fun h => by cases h) (by omega) (by omega) hap (fun h => hqg)
          go_wp2
          ((try simp only [Exit.inBlock, Exit.then]); refine bodyPost_ret (results_tmp3 rfl _ _ _) rfl ?_)
          rw [HG.out, HN.out]
          exact ⟨A1, c1, rfl, own_base (own_setCell ho1 hpl) hd2, hst, hg2 _⟩
      · have hgot := Fr.got_waits hc0
        have hnext := Fr.next_waits hc0
        rw [Fr.got_next hnx] at hgot
        rw [hnx] at hnext
        rw [Fr.said_not (by rw [hc0]; decide), hc0] at hread
        have HG := Lib.hid hgot
        have HN := Lib.hid hnext
        clear hgot hnext hc0
        have hposI : (0 : Int) < (n : Int) := by omega
        go_wp2_with fail
        refine hread.mono ?_
        rintro e w1 ⟨A1, c1, rfl, ho1, hb1⟩
        have hm1 := hm.below hb1
        have hg2 := hgr.trans (grown_of_below hb1 (some p))
        go_wp2
        ((try simp only [Exit.inBlock, Exit.then]); refine bodyPost_ret (results_tmp3 rfl _ _ _) rfl ?_)
        rw [HG.out, HN.out]
        exact ⟨none, 0, rfl, World.ownsRow_nil _ _ _ _, hm1, hg2⟩
      · have hne0 : Fr.code m ≠ 0 := by rcases hc0 with h | h <;> rw [h] <;> decide
        have hne1 : Fr.code m ≠ 101 := by rcases hc0 with h | h <;> rw [h] <;> decide
        obtain ⟨hsk, hsp⟩ := Fr.next_skips hne0 hne1
        rw [Fr.said_not hne0] at hread
        have HS := Lib.hid (hsk.symm.trans hnx)
        have hcb0 : (Fr.code m == 0) = false := by rw [beq_eq_false_iff_ne]; exact hne0
        have hcb1 : (Fr.code m == 101) = false := by rw [beq_eq_false_iff_ne]; exact hne1
        generalize Fr.code m = cm at *
        have hn1 : (1 : Int) ≤ (n : Int) := by omega
        have hposI : (0 : Int) < (n : Int) := by omega
        clear hsk hc0
        go_wp2_with fail
        refine hread.mono ?_
        rintro e w1 ⟨A1, c1, rfl, ho1, hb1⟩
        have h01 : w1.cell? ⟨p, 0, none⟩ = some (.slice (some ⟨g, off, none⟩) n c) := (hb1.cell (p := ⟨p, 0, none⟩) hpl).trans h0
        have f01 : w1.frozen? ⟨p, 0, none⟩ = false := (hb1.frozen (p := ⟨p, 0, none⟩) hpl).trans f0
        have hr1 := ((hr.below hb1 (Nat.le_refl _)).mono hb1.size).off (k := 1) (c := c) (by omega) hcap
        have hg2 : ∀ v, w.grownBy (w1.setCell ⟨p, 0, none⟩ v) (some p) := fun v => (hgr.trans (grown_of_below hb1 _)).trans (grown_setCell _ _ _)
        by_cases hck : c = 1
        · subst hck
          rw [if_pos rfl, show n - 1 = 0 by omega] at hr1
          have hst : StD (w1.setCell ⟨p, 0, none⟩ (.slice (some ⟨g, off, none⟩) 0 0)) p q (m.drop 1) := StD.set h01 f01 hr1 (fun h => by cases h) (Nat.le_refl _) (by simp [maxLen]) hap (fun h => by omega)
          go_wp2
          go_roundw
          case rel => exact ⟨m.drop 1, hst, HS.out, by simp; omega, hg2 _⟩
          case measure => rw [hwm, hst.waits]; simp; omega
        · rw [if_neg hck] at hr1
          have hst : StD (w1.setCell ⟨p, 0, none⟩ (.slice (some ⟨g, off + 1, none⟩) (n - 1) (c - 1))) p q (m.drop 1) := StD.set h01 f01 hr1 (fun h => by cases h) (by omega) (by omega) hap (fun h => hqg)
          go_wp2
          go_roundw
          case rel => exact ⟨m.drop 1, hst, HS.out, by simp; omega, hg2 _⟩
          case measure => rw [hwm, hst.waits]; simp; omega
    · obtain rfl : m = [] := List.eq_nil_of_length_eq_zero (by omega)
      have hz : n = 0 := by omega
      have hnext : Fr.next l = (none, []) := hnx.symm
      have hgot : Fr.got l = (0, [], false) := Fr.got_none (by rw [hnext])
      have HG := Lib.hid hgot
      have HN := Lib.hid hnext
      clear hgot hnext
      subst hz
      go_wp2
      ((try simp only [Exit.inBlock, Exit.then]); refine bodyPost_ret (results_tmp3 rfl _ _ _) rfl ?_)
      rw [HG.out, HN.out]
      exact ⟨none, 0, rfl, World.ownsRow_nil _ _ _ _, hm, hgr⟩
end Go.Proofs.YtcgcacnlafdggaaDoor
