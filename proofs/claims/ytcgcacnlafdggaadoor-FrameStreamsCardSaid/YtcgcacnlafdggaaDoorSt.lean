/- Walks of package frame: a Stream. -/
import Derived.Test.YtcgcacnlafdggaaDoorFs
import Derived.Test.YtcgcacnlafdggaaDoorTl
namespace Go.Proofs.YtcgcacnlafdggaaDoor
open Go.RowKit

/-- The program's Stream lies in block p: the bytes that wait; q: the block that they lie in. -/
structure StC (w : World) (base p : Nat) (q : Option Nat) (l : List UInt8) : Prop where
  ex : ∃ A n c, w.cell? ⟨p, 0, none⟩ = some (.slice A n c) ∧ w.frozen? ⟨p, 0, none⟩ = false ∧ OwnTail w base 5 A n c l ∧ q = blk A
  low : base ≤ p
  apart : q ≠ some p
theorem StC.lt {w : World} {base p : Nat} {q : Option Nat} {l : List UInt8} (h : StC w base p q l) : p < w.heap.size := by
  obtain ⟨A, n, c, h0, _⟩ := h.ex
  exact cell_lt h0
theorem StC.qlt {w : World} {base p : Nat} {q : Option Nat} {l : List UInt8} (h : StC w base p q l) : ∀ g, q = some g → base ≤ g ∧ g < w.heap.size := by
  obtain ⟨A, n, c, h0, f0, ho, rfl⟩ := h.ex
  exact ho.lt
theorem StC.kept {w w' : World} {base p : Nat} {q : Option Nat} {l : List UInt8} {row : Option Nat} (h : StC w base p q l) (hg : w.grownBy w' row) (h1 : row ≠ some p) (h2 : ∀ g, q = some g → row ≠ some g) : StC w' base p q l := by
  obtain ⟨A, n, c, h0, f0, ho, rfl⟩ := h.ex
  have hblk := hg.block p h.lt (fun e => h1 e.symm)
  exact ⟨⟨A, n, c, (World.cell?_of_block (a := ⟨p, 0, none⟩) hblk).trans h0, (World.frozen?_of_block (a := ⟨p, 0, none⟩) hblk).trans f0, ho.kept hg h2, rfl⟩, h.low, h.apart⟩
theorem grown_of_below {w w' : World} (hb : Below w.heap.size w w') (row : Option Nat) : w.grownBy w' row := ⟨hb.os, hb.tape, hb.output, hb.size, fun k hk _ => hb.block k hk⟩
theorem StC.below {w w' : World} {base p : Nat} {q : Option Nat} {l : List UInt8} (h : StC w base p q l) (hb : Below w.heap.size w w') : StC w' base p q l :=
  h.kept (row := none) (grown_of_below hb none) (fun h => by cases h) (fun _ _ h => by cases h)
theorem StC.drew {w : World} {base p : Nat} {q : Option Nat} {l : List UInt8} (h : StC w base p q l) : StC w.drew base p q l := h.kept (grown_drew w none) (fun h => by cases h) (fun _ _ h => by cases h)

/-- From w to w' nothing changed but the blocks p, q and new ones. -/
structure Two (w w' : World) (p : Nat) (q : Option Nat) : Prop where
  os : w'.os = w.os
  tape : w'.tape = w.tape
  output : w'.output = w.output
  size : w.heap.size ≤ w'.heap.size
  block : ∀ k, k < w.heap.size → k ≠ p → q ≠ some k → w'.heap[k]? = w.heap[k]?
theorem Two.below {W w w' : World} {p : Nat} {q : Option Nat} (h : Two w w' p q) {B : Nat} (hb : Below B W w) (hB : B ≤ W.heap.size) (hp : B ≤ p) (hq : ∀ g, q = some g → B ≤ g) : Below B W w' :=
  hb.trans ⟨h.os, h.tape, h.output, h.size, fun k hk => h.block k (Nat.lt_of_lt_of_le hk (Nat.le_trans hB hb.size)) (fun e => by omega) (fun e => by have := hq k e; omega)⟩

theorem two_of {w w2 w3 : World} {p o : Nat} {q : Option Nat} (h1 : w.grownBy w2 q) (h2 : w2.grownBy w3 (some (⟨p, o, none⟩ : Addr).block)) : Two w w3 p q :=
  ⟨h2.os.trans h1.os, h2.tape.trans h1.tape, h2.output.trans h1.output, Nat.le_trans h1.size h2.size, fun k hk hkp hkq => (h2.block k (Nat.lt_of_lt_of_le hk h1.size) (fun e => hkp (Option.some.inj e))).trans (h1.block k hk (fun e => hkq e.symm))⟩
theorem StC.set {w : World} {base p : Nat} {q : Option Nat} {l : List UInt8} {v0 : Value} {A : Option Addr} {n c : Nat} (h0 : w.cell? ⟨p, 0, none⟩ = some v0) (f0 : w.frozen? ⟨p, 0, none⟩ = false) (ho : OwnTail w base 5 A n c l) (hb : base ≤ p) (ha : q ≠ some p) (hq : q = blk A) :
    StC (w.setCell ⟨p, 0, none⟩ (.slice A n c)) base p q l :=
  ⟨⟨A, n, c, World.cell?_setCell_same _ _ _ h0, by simpa using f0, ho.kept (grown_setCell _ _ _) (fun g hg e => ha (by rw [hq, hg]; exact e.symm)), hq⟩, hb, ha⟩

section
variable {w : World} {base p : Nat} {q : Option Nat} {l : List UInt8}
set_option maxHeartbeats 800000 in
theorem left_any (h : StC w base p q l) :
    Calls Tryd.prog 14 #[.pointer (some ⟨p, 0, none⟩)] w fun e w' => e = .returned (.int .i64 (l.length : Int)) ∧ w = w' := by
  obtain ⟨A, n, c, h0, f0, ho, rfl⟩ := h.ex
  have hl := ho.len
  go_enter Tryd.func14, Tryd.ntmps14
  go_wp2
  go_ret
  exact ⟨by rw [hl]; rfl, rfl⟩

set_option maxHeartbeats 800000 in
theorem feed_any (h : StC w base p q l) (B : Nat) (A' : Option Addr) (m c' : Nat) (l' : List UInt8) (hA : A' = none → m = 0 ∧ c' = 0) (hr : Bytes w B A' m l') (hmost : l.length + m ≤ 70368744177664) (hbase : base ≤ w.heap.size) :
    Calls Tryd.prog 8 #[.pointer (some ⟨p, 0, none⟩), .slice A' m c'] w fun e w' => e = .returned (.tuple #[]) ∧ (∃ q', StC w' base p q' (l ++ l') ∧ (q' = q ∨ q' = some w.heap.size)) ∧ Two w w' p q := by
  obtain ⟨i0, hi0, hz0, hz1, hz2⟩ := info_parts info_u8
  obtain ⟨A, n, c, h0, f0, ho, rfl⟩ := h.ex
  have hl := ho.len
  have hp := h.lt
  have hap := h.apart
  go_enter Tryd.func8, Tryd.ntmps8
  go_wp2_with (at_builtin; refine append_tail rfl (.tmp 8) (.tmp 9) 25 rfl 5 i0 _ Tryd.underlying25 hi0 hz0 hz1 hz2 rfl w base A n c l rfl ho B A' m c' l' rfl hA hr (by omega) hbase ?_)
  intro A2 c2 w2 ho2 hg2 hb2
  have hblk := hg2.block p hp (fun e => hap e.symm)
  have h02 : w2.cell? ⟨p, 0, none⟩ = some (.slice A n c) := (World.cell?_of_block (a := ⟨p, 0, none⟩) hblk).trans h0
  have f02 : w2.frozen? ⟨p, 0, none⟩ = false := (World.frozen?_of_block (a := ⟨p, 0, none⟩) hblk).trans f0
  go_wp2
  go_end0
  refine ⟨rfl, ⟨blk A2, StC.set h02 f02 ho2 h.low ?_ rfl, hb2⟩, two_of hg2 (grown_setCell _ _ _)⟩
  rcases hb2 with e | e <;> rw [e]
  · exact hap
  · intro e2; have := Option.some.inj e2; omega

theorem own_setCell {w : World} {base p o : Nat} {e : TypeId} {A : Option Addr} {n c : Nat} {l : List UInt8} {v : Value} (h : OwnBytes w base e A n c l) (hp : p < base) : OwnBytes (w.setCell ⟨p, o, none⟩ v) base e A n c l := by
  refine ⟨h.1, ?_⟩
  rcases h.2 with h' | ⟨g, cap, cur, hv, hg, hh, hr⟩
  · exact .inl h'
  · exact .inr ⟨g, cap, cur, hv, hg, (Below.heap_setCell w ⟨p, o, none⟩ v g (by show g ≠ p; omega)).trans hh, hr⟩
/-- How many bytes wait, read out of the world: the loop's measure. -/
def waitsLen (p : Nat) (w : World) : Nat := match w.cell? ⟨p, 0, none⟩ with | some (.slice _ n _) => n | _ => 0
theorem StC.waits {w : World} {base p : Nat} {q : Option Nat} {l : List UInt8} (h : StC w base p q l) : waitsLen p w = l.length := by
  obtain ⟨A, n, c, h0, f0, ho, rfl⟩ := h.ex
  unfold waitsLen
  rw [h0, ho.len]

set_option maxHeartbeats 3200000 in
theorem next_any {E : Int → Option Addr} {W : World} (hE : FrErrs W E) (ht : Steps W) (hb : Below W.heap.size W w) (hW : W.heap.size ≤ base) (h : StC w base p q l) (hmost : l.length ≤ 70368744177664) :
    Calls Tryd.prog 11 #[.pointer (some ⟨p, 0, none⟩)] w fun e w' => ∃ A' c', e = .returned (.tuple #[.int .u8 ((Fr.got l).1.toNat : Int), .slice A' (Fr.got l).2.1.length c', .bool (Fr.got l).2.2]) ∧
      OwnBytes w' w.heap.size 5 A' (Fr.got l).2.1.length c' (Fr.got l).2.1 ∧ StC w' base p q (Fr.next l).2 ∧ w.grownBy w' (some p) := by
  obtain ⟨i, hi, hcmp⟩ := Option.map_eq_some_iff.1 comp_err
  obtain ⟨j, hj, hjs⟩ := Option.map_eq_some_iff.1 size_err
  go_enter Tryd.func11, Tryd.ntmps11
  go_wp2_with fail
  go_loopw [5, 6, 7, 8] (fun _ _ _ _ wr => ∃ m : List UInt8, StC wr base p q m ∧ Fr.next m = Fr.next l ∧ m.length ≤ l.length ∧ w.grownBy wr (some p)) (fun _ _ _ _ wr => waitsLen p wr)
  case atStart => exact ⟨l, h, rfl, Nat.le_refl _, World.grownBy.refl _ _⟩
  case round =>
    obtain ⟨m, hm, hnx, hml, hgr⟩ := hrel
    have hbr : Below W.heap.size W wr := hb.grown hgr hb.size (fun k hk => by cases hk; have := h.low; omega)
    obtain ⟨A, n, c, h0, f0, ho, hq⟩ := hm.ex
    have hln := ho.len
    have hcap := ho.cap
    have hpl := hm.lt
    go_wp2_with fail
    refine (fread_all A n c m (hE.below hbr) (ht.below hbr (Nat.le_refl _)) ho.bytes ho.nn hcap (by omega)).mono ?_
    rintro e w1 ⟨A1, c1, ev, rfl, hs, ho1, hb1⟩
    have h01 : w1.cell? ⟨p, 0, none⟩ = some (.slice A n c) := (hb1.cell (p := ⟨p, 0, none⟩) hpl).trans h0
    have f01 : w1.frozen? ⟨p, 0, none⟩ = false := (hb1.frozen (p := ⟨p, 0, none⟩) hpl).trans f0
    have ho1' := (OwnTail.kept (w' := w1) ho (grown_of_below hb1 none) (fun _ _ h => by cases h))
    rcases Fr.code_cases m with hc0 | hc0 | hc0
    · obtain rfl := seen_nil (hc0 ▸ hs)
      have hz := (Fr.scode_zero (Fr.code_zero hc0).1).2.2
      rw [Fr.said_yes hc0] at ho1 ⊢
      obtain ⟨g, off, hg⟩ : ∃ g off, A = some ⟨g, off, none⟩ := by
        rcases ho.2 with ⟨_, h1, _⟩ | ⟨g, off, _, h1, _⟩
        · omega
        · exact ⟨g, off, h1⟩
      subst hg
      have hgot := Fr.got_found hc0
      have hnext := Fr.next_found hc0
      rw [Fr.got_next hnx] at hgot
      rw [hnx] at hnext
      generalize hk : Fr.blen m = k at *
      have HB := Lib.hid hk
      clear hk
      have t1 : ((k : Int) + 10).toNat = k + 10 := by omega
      have t2 : (k : Int) + 10 ≤ (n : Int) := by omega
      have t3 : (0 : Int) ≤ (k : Int) + 10 := by omega
      have HG := Lib.hid hgot
      have HN := Lib.hid hnext
      clear hgot hnext hc0 hz
      generalize Fr.kind m = kd at *
      generalize Fr.body m = bd at *
      have hd := OwnTail.drop ho1' (k := k + 10) (by omega)
      have hg2 : ∀ v, w.grownBy (w1.setCell ⟨p, 0, none⟩ v) (some p) := fun v => (hgr.trans (grown_of_below hb1 _)).trans (grown_setCell _ _ _)
      have hlow := hm.low
      have hap := hm.apart
      have hd2 : w.heap.size ≤ wr.heap.size := hgr.size
      by_cases hck : c = k + 10
      · subst hck
        rw [if_pos rfl, Nat.sub_self, show n - (k + 10) = 0 by omega] at hd
        go_wp2
        ((try simp only [Exit.inBlock, Exit.then]); refine bodyPost_ret (results_tmp3 rfl _ _ _) rfl ?_)
        rw [HG.out, HN.out]
        exact ⟨A1, c1, rfl, own_base (own_setCell ho1 hpl) hd2, StC.set h01 f01 hd hlow hap hq, hg2 _⟩
      · rw [if_neg hck] at hd
        go_wp2
        ((try simp only [Exit.inBlock, Exit.then]); refine bodyPost_ret (results_tmp3 rfl _ _ _) rfl ?_)
        rw [HG.out, HN.out]
        exact ⟨A1, c1, rfl, own_base (own_setCell ho1 hpl) hd2, StC.set h01 f01 hd hlow hap hq, hg2 _⟩
    · obtain ⟨x, rfl, hx⟩ := seen_err (hc0 ▸ hs) (by decide)
      obtain ⟨x', hx', hg⟩ := ((hE.below hbr).below hb1).e101
      obtain rfl : x = x' := Option.some.inj (hx.symm.trans hx')
      have he := run_eql_iface_ptr_same w1 x Tryd.underlying40 Tryd.underlying77 hi hcmp hj
      have hgot := Fr.got_waits hc0
      have hnext := Fr.next_waits hc0
      rw [Fr.got_next hnx] at hgot
      rw [hnx] at hnext
      have HG := Lib.hid hgot
      have HN := Lib.hid hnext
      have hm1 := hm.below hb1
      have hg2 := hgr.trans (grown_of_below hb1 (some p))
      have hns : Fr.code m ≠ 0 := by rw [hc0]; decide
      rw [Fr.said_not hns]
      clear hgot hnext hc0 hns
      unfold errV at *
      go_wp2
      ((try simp only [Exit.inBlock, Exit.then]); refine bodyPost_ret (results_tmp3 rfl _ _ _) rfl ?_)
      rw [HG.out, HN.out]
      exact ⟨none, 0, rfl, World.ownsRow_nil _ _ _ _, hm1, hg2⟩
    · have hne0 : Fr.code m ≠ 0 := by rcases hc0 with h | h <;> rw [h] <;> decide
      have hne1 : Fr.code m ≠ 101 := by rcases hc0 with h | h <;> rw [h] <;> decide
      obtain ⟨x, rfl, hx⟩ := seen_err hs hne0
      obtain ⟨x', hx', hg⟩ := ((hE.below hbr).below hb1).e101
      have hne : x ≠ x' := fun e => hne1 (hE.inj _ _ x hx (e ▸ hx'))
      obtain ⟨_, _, hr1⟩ := ((hE.below hbr).below hb1).row _ _ hx
      obtain ⟨_, _, hr2⟩ := ((hE.below hbr).below hb1).row _ _ hx'
      have he := run_eql_iface_ptr_other w1 Tryd.underlying40 Tryd.underlying77 hi hcmp hj (by rw [hjs]; decide) hne hr1 hr2
      obtain ⟨hsk, hsp⟩ := Fr.next_skips hne0 hne1
      obtain ⟨g, off, hgo⟩ : ∃ g off, A = some ⟨g, off, none⟩ := by
        rcases ho.2 with ⟨_, h1, _⟩ | ⟨g, off, _, h1, _⟩
        · omega
        · exact ⟨g, off, h1⟩
      subst hgo
      have hd := OwnTail.drop ho1' (k := 1) (by omega)
      have hlow := hm.low
      have hap := hm.apart
      have hg2 : ∀ v, w.grownBy (w1.setCell ⟨p, 0, none⟩ v) (some p) := fun v => (hgr.trans (grown_of_below hb1 _)).trans (grown_setCell _ _ _)
      rw [Fr.said_not hne0]
      have HS := Lib.hid (hsk.symm.trans hnx)
      have hn1 : (1 : Int) ≤ (n : Int) := by omega
      have hwm : waitsLen p wr = m.length := hm.waits
      clear hsk hne0 hne1 hc0 hs hx hx'
      unfold errV at *
      by_cases hck : c = 1
      · subst hck
        rw [if_pos rfl, show n - 1 = 0 by omega] at hd
        have hst : StC (w1.setCell ⟨p, 0, none⟩ (.slice (some ⟨g, off, none⟩) 0 0)) base p q (m.drop 1) := StC.set h01 f01 hd hlow hap hq
        go_wp2
        go_roundw
        case rel => exact ⟨m.drop 1, hst, HS.out, by simp; omega, hg2 _⟩
        case measure => rw [hwm, hst.waits]; simp; omega
      · rw [if_neg hck] at hd
        have hst := StC.set h01 f01 hd hlow hap hq
        go_wp2
        go_roundw
        case rel => exact ⟨m.drop 1, hst, HS.out, by simp; omega, hg2 _⟩
        case measure => rw [hwm, hst.waits]; simp; omega
end
end Go.Proofs.YtcgcacnlafdggaaDoor
