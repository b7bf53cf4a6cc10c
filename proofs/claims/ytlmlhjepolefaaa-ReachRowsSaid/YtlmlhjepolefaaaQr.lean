/- Package reach: ReachRows: the walk. -/
import Derived.Test.YtlmlhjepolefaaaQo
import Derived.Test.YtlmlhjepolefaaaQs
import Derived.Test.YtlmlhjepolefaaaQp
import Derived.Test.YtlmlhjepolefaaaQq
import Derived.Deep.RegionLaw
import Derived.Deep.RegionHeld3
namespace Go.Proofs.Ytlmlhjepolefaaa
open Go.RowKit
open Pr
/-- the walk's own process in block q: its flows are a row of one's own, behind q -/
structure Own1 (wr : World) (q : Nat) (A : Option Addr) (n m : Nat) (fl : List Fl) : Prop where
  ex : ∃ (F : Option Addr) (d : Nat), Cel wr q [.string no, .slice A n n, .slice F m d] ∧ OwnK Fl.κ wr (q + 1) 29 F m d fl
theorem Own1.grew {w w' : World} {q : Nat} {A F F' : Option Addr} {n m m' d d' : Nat} {fl fl' : List Fl} (hc : Cel w q [.string no, .slice A n n, .slice F m d]) (hf : OwnK Fl.κ w (q + 1) 29 F m d fl) (hg : Grew w w' (.slice F m d) (.slice F' m' d'))
    (ho : OwnK Fl.κ w' (q + 1) 29 F' m' d' fl') : Own1 (w'.setCell ⟨q, 2, none⟩ (.slice F' m' d')) q A n m' fl' := by
  have hc' : Cel w' q [.string no, .slice A n n, .slice F m d] := cel_grew hc hg fun a ha e => by have := (hf.block ha).1; omega
  refine ⟨F', d', hc'.set (i := 2) (by simp) _, ho.kept (grown_setCell w' ⟨q, 2, none⟩ _) fun a ha e => ?_⟩
  have := (ho.block ha).1
  have h2 := Option.some.inj e
  simp only at h2
  omega
theorem below_al {w w' : World} (h : Below w.heap.size w w') {o : Obj} : Below w.heap.size w (w'.alloc o) := h.alloc h.size o
theorem below_dr {w w' : World} (h : Below w.heap.size w w') : Below w.heap.size w w'.drew := h.drew
theorem refflows_on (A : Option Addr) (n c : Nat) (l : List Fl) {w w' : World} {B : Nat} (hr : KRow Fl.κ w B A n l) (hB : B = w.heap.size) (hb : Below w.heap.size w w') (hn : n ≤ 100000) :
    Calls Try.prog 10 #[.slice A n c] w' fun e w'' => (∃ A' c', e = .returned (.slice A' n c') ∧ OwnK Fl.κ w'' w.heap.size 29 A' n c' l) ∧ Below w'.heap.size w' w'' ∧ Below w.heap.size w w'' := by
  subst hB
  refine (refflows_any A n c l w' ((hr.below hb (Nat.le_refl _)).mono hb.size) hn).mono ?_
  rintro e w'' ⟨⟨A', c', he, ho⟩, hb2⟩
  exact ⟨⟨A', c', he, ho.lower hb.size⟩, hb2, hb.trans (hb2.mono hb.size)⟩
/-- a flow from y to x in a block of its own -/
structure Rw (y x : Nat) (w : World) (b : Nat) : Prop where
  out : KRow Fl.κ w w.heap.size (some ⟨b, 0, none⟩) 1 [⟨(y : Int), (x : Int), no⟩]
theorem rw_lit {y x b : Nat} {u v : Int} {w : World} (hb : b = w.heap.size) (hu : u = y) (hv : v = x) : Rw y x (w.alloc (.cells #[.int .i64 u, .int .i64 v, .string ⟨#[]⟩] 29)) b := by
  subst hb hu hv
  have h := KRow.lit (κ := Fl.κ) w 29 [⟨(y : Int), (x : Int), no⟩] #[.int .i64 y, .int .i64 x, .string ⟨#[]⟩] rfl
  exact ⟨h.mono (by simp)⟩
theorem rw_below {y x b : Nat} {w w' : World} (h : Rw y x w b) (hb : Below w.heap.size w w') : Rw y x w' b := ⟨(h.out.below hb (Nat.le_refl _)).mono hb.size⟩
theorem rw_al {y x b : Nat} {w : World} {o : Obj} (h : Rw y x w b) : Rw y x (w.alloc o) b := rw_below h ((Below.refl _ _).alloc (Nat.le_refl _) _)
theorem rw_dr {y x b : Nat} {w : World} (h : Rw y x w b) : Rw y x w.drew b := rw_below h (Below.refl _ _).drew
structure Ow (A : Option Addr) (n c B : Nat) (l : List Fl) (w : World) : Prop where
  out : OwnK Fl.κ w B 29 A n c l
theorem own_al {A : Option Addr} {n c B : Nat} {l : List Fl} {w : World} {o : Obj} (h : Ow A n c B l w) : Ow A n c B l (w.alloc o) := ⟨h.out.below ((Below.refl _ _).alloc (Nat.le_refl _) _) (Nat.le_refl _)⟩
theorem own_dr {A : Option Addr} {n c B : Nat} {l : List Fl} {w : World} (h : Ow A n c B l w) : Ow A n c B l w.drew := ⟨h.out.below (Below.refl _ _).drew (Nat.le_refl _)⟩
/-- the new process's block, as it was made -/
structure Qz (w : World) (b : Nat) : Prop where
  out : Cel w b [.string ⟨#[]⟩, .slice none 0 0, .slice none 0 0]
theorem qz_lit {w : World} : Qz (w.alloc (.cells #[.string ⟨#[]⟩, .slice none 0 0, .slice none 0 0] 27)) w.heap.size := ⟨Cel.lit w _ _⟩
theorem qz_al {w : World} {b : Nat} {o : Obj} (h : Qz w b) : Qz (w.alloc o) b := ⟨h.out.alloc o⟩
theorem qz_dr {w : World} {b : Nat} (h : Qz w b) : Qz w.drew b := ⟨h.out.below (Below.refl _ _).drew (Nat.le_refl _)⟩
theorem qz_below {w w' : World} {b : Nat} (h : Qz w b) (hb : Below w.heap.size w w') : Qz w' b := ⟨h.out.below hb (Nat.le_refl _)⟩
theorem size_of {w w' : World} (h : Below w.heap.size w w') : w.heap.size ≤ w'.heap.size := h.size
theorem grew_on {w X wA : World} {A : Option Addr} {n c : Nat} {l : List Fl} {v : Value} (hg : Grew X wA (.slice A n c) v) (hb : Below w.heap.size w X) (ho : Ow A n c w.heap.size l X) : Below w.heap.size w wA := hb.trans (hg.below ho.out.2 hb.size)
theorem below_st {w w' : World} (h : Below w.heap.size w w') {b i : Nat} (hb : w.heap.size ≤ b) {v : Value} : Below w.heap.size w (w'.setCell ⟨b, i, none⟩ v) := h.setCell (p := ⟨b, i, none⟩) hb v
theorem meas1 {n j : Nat} (h : j + 1 < n) : n - (intOf (.int .i64 (((j + 1 : Nat) : Int) + 1))).toNat < n - (intOf (.int .i64 ((j : Int) + 1))).toNat := by
  show n - (((j + 1 : Nat) : Int) + 1).toNat < n - ((j : Int) + 1).toNat
  omega
theorem meas2 {n j : Nat} (h : j < n) : n - (intOf (.int .i64 ((j + 1 : Nat) : Int))).toNat < n - (intOf (.int .i64 (j : Int))).toNat := by
  show n - (((j + 1 : Nat) : Int)).toNat < n - ((j : Int)).toNat
  omega
set_option maxHeartbeats 6400000 in
set_option maxRecDepth 10000 in
theorem reachRows_walk (x a b : Int) (w : World) (hx1 : -9223372036854775808 ≤ x) (hx2 : x ≤ 9223372036854775807) (ha1 : -9223372036854775808 ≤ a) (ha2 : a ≤ 9223372036854775807) (hb1 : -9223372036854775808 ≤ b) (hb2 : b ≤ 9223372036854775807) :
    Calls Try.prog 3 #[.int .i64 x, .int .i64 a, .int .i64 b] w fun e w' => e = .returned (.bool true) ∧ Below w.heap.size w w' := by
  obtain ⟨k, hke, hkl⟩ := nmb_nat x 28 (by omega)
  obtain ⟨n, hne⟩ : ∃ n : Nat, n = k + 2 := ⟨_, rfl⟩
  have hnp : (0 : Int) < (n : Int) := by omega
  have HSUM : Hid (IntKind.i64.wrap ((k : Int) + 2) = (n : Int)) := by
    refine Lib.hid ?_
    have h : IntKind.i64.wrap ((k : Int) + 2) = (k : Int) + 2 := by rw [IntKind.wrap_i64]; omega
    omega
  obtain ⟨a', hae, hal⟩ := nmb_nat a (n : Int) hnp
  obtain ⟨b', hbe, hbl⟩ := nmb_nat b (n : Int) hnp
  have N0 := Lib.hid (fun w => mnumber_any x 28 w (by omega) hx1 hx2 (by omega))
  have N1 := Lib.hid (fun w => mnumber_any a (n : Int) w hnp ha1 ha2 (by omega))
  have N2 := Lib.hid (fun w => mnumber_any b (n : Int) w hnp hb1 hb2 (by omega))
  rw [hke] at N0
  rw [hae] at N1
  rw [hbe] at N2
  have HAL := Lib.hid (show a' < n by omega)
  have HBL := Lib.hid (show b' < n by omega)
  have HN2 := Lib.hid (show 2 ≤ n by omega)
  have HN29 := Lib.hid (show n ≤ 29 by omega)
  clear hae hbe ha1 ha2 hb1 hb2 hx1 hx2 hne hke hkl hal hbl
  obtain ⟨i0, hi0, hz0, hz1, hz2⟩ := info_parts info_node
  obtain ⟨i1, hi1, hy0, hy1, hy2⟩ := info_parts info_flow
  go_enter Try.func3, Try.ntmps3
  go_wp2_with fail
  refine (rfirst_any w).mono ?_
  rintro e w1 ⟨rfl, hb1⟩
  have HB1 := Lib.hid hb1
  clear hb1
  go_wp2_with fail
  refine (N0.out _).mono ?_
  rintro e wy ⟨rfl, rfl⟩
  have hs := HSUM.out
  go_upto_region 5 with (fail)
  try rw [hs]
  clear hs
  go_wp2_with fail
  refine (N1.out _).mono ?_
  rintro e wy ⟨rfl, rfl⟩
  go_wp2_with fail
  refine (N2.out _).mono ?_
  rintro e wy ⟨rfl, rfl⟩
  clear N0 N1 N2
  go_upto_region 8 with (at_make; refine wpList_make_full _ rfl _ _ 24 rfl w1.heap.size 75 i0 _ 8 Try.underlying24 hi0 hz0 hz1 .i64 .i64 _ _ n rfl rfl rfl rfl (by rw [hz2]; have := HN29.out; omega) (by unfold maxLen; have := HN29.out; omega) (Nat.le_refl _) ?_; intro w2 ho2 hg2)
  have hbm2 : Below w1.heap.size w1 w2 := (Below.refl _ _).grown hg2 (Nat.le_refl _) (fun k hk => by cases hk)
  clear hg2 ho2
  have HB2 := Lib.hid (HB1.out.trans (hbm2.mono HB1.out.size))
  have hC := Cel.lit w2 #[.string ⟨#[]⟩, .slice (some ⟨w1.heap.size, 0, none⟩) n n, .slice none 0 0] 27
  have hba : Below w2.heap.size w2 (w2.alloc (.cells #[.string ⟨#[]⟩, .slice (some ⟨w1.heap.size, 0, none⟩) n n, .slice none 0 0] 27)) := (Below.refl _ _).alloc (Nat.le_refl _) _
  have HB3 := Lib.hid (HB2.out.trans (hba.mono HB2.out.size))
  have HO3 : Hid (Own1 (w2.alloc (.cells #[.string ⟨#[]⟩, .slice (some ⟨w1.heap.size, 0, none⟩) n n, .slice none 0 0] 27)) w2.heap.size (some ⟨w1.heap.size, 0, none⟩) n 0 (Rc.rowF 0)) := ⟨none, 0, hC, ⟨by decide, World.ownsRow_nil _ _ _ _⟩⟩
  have HQ : Hid (w.heap.size ≤ w2.heap.size) := HB2.out.size
  clear hbm2 hC hba HB2 HB1
  generalize w2.alloc _ = w3 at *
  generalize w2.heap.size = q at *
  generalize w1.heap.size = nb at *
  go_wp2_with fail
  go_loopw [9] (fun i wr => ∃ j : Nat, j + 1 ≤ n ∧ i = .int .i64 ((j : Int) + 1) ∧ Own1 wr q (some ⟨nb, 0, none⟩) n j (Rc.rowF j) ∧ Below w.heap.size w wr) (fun i _ => n - (intOf i).toNat)
  case atStart => exact ⟨0, by have := HN2.out; omega, rfl, HO3.out, HB3.out⟩
  case round =>
    obtain ⟨j, hj, rfl, ⟨F, d, hc, hf⟩, hbr⟩ := hrel
    have hj0 : (0 : Int) ≤ (j : Int) + 1 := by omega
    by_cases hlt : j + 1 < n
    · have hI : (j : Int) + 1 < (n : Int) := by omega
      have hba : Below wr.heap.size wr (wr.alloc (.cells #[.int .i64 j, .int .i64 ((j : Int) + 1), .string no] 29)) := (Below.refl _ _).alloc (Nat.le_refl _) _
      have HCa := Lib.hid (hc.below hba (Nat.le_refl _))
      have HFa := Lib.hid (hf.below hba (Nat.le_refl _))
      have HBa := Lib.hid (hbr.trans (hba.mono hbr.size))
      have hqlt := hc.lt
      have hbw : q + 1 ≤ (wr.alloc (.cells #[.int .i64 j, .int .i64 ((j : Int) + 1), .string no] 29)).heap.size := by have := hba.size; omega
      have HR : Hid (KRow Fl.κ (wr.alloc (.cells #[.int .i64 j, .int .i64 ((j : Int) + 1), .string no] 29)) (wr.heap.size + 1) (some ⟨wr.heap.size, 0, none⟩) 1 [⟨(j : Int), (j : Int) + 1, no⟩]) := Lib.hid (KRow.lit (κ := Fl.κ) wr 29 [⟨(j : Int), (j : Int) + 1, no⟩] #[.int .i64 j, .int .i64 ((j : Int) + 1), .string no] rfl)
      have hqn : ¬ q = wr.heap.size := by omega
      obtain ⟨⟨c0, c1, c2⟩, f0, f1, f2⟩ := tri_facts hc
      have hsub : wrap64 (j : Int) = (j : Int) := by unfold wrap64; have := HN29.out; omega
      have hle : w.heap.size ≤ q := HQ.out
      clear hba hbr hc hf HO3 HB3
      unfold no at HCa HFa HBa HR hbw
      go_wp2_with (at_builtin; refine append_k (κ := Fl.κ) rfl (.tmp 42) (.tmp 47) 25 29 i1 _ 32 Try.underlying25 hi1 hy0 hy1 hy2 rfl rfl _ (q + 1) _ F j d (Rc.rowF j) ⟨wr.heap.size, 0, none⟩ ⟨(j : Int), (j : Int) + 1, no⟩ rfl HFa.out rfl HR.out (by have := HN29.out; omega) (by decide) hbw ?_; intro F' d' w' ho hg; obtain ⟨⟨d0, d1, d2⟩, g0, g1, g2⟩ := tri_facts (cel_grew HCa.out hg (fun a ha e => by have := (HFa.out.block ha).1; omega)))
      have HFIN := Lib.hid (Own1.grew HCa.out HFa.out hg ho)
      have HBF := Lib.hid ((HBa.out.trans (hg.below HFa.out.2 hbw |>.mono (by omega))).setCell (p := ⟨q, 2, none⟩) hle (.slice F' (j + 1) d'))
      have hw2 : wrap64 ((j : Int) + 1 + 1) = ((j + 1 : Nat) : Int) + 1 := by unfold wrap64; have := HN29.out; omega
      clear ho hg d0 d1 d2 g0 g1 g2 c0 c1 c2 f0 f1 f2
      go_wp2
      go_roundw
      case measure =>
        clear hi1 hy0 hy1 hy2 hi0 hz0 hz1 hz2
        rw [hw2]
        exact meas1 hlt
      case rel => exact ⟨j + 1, hlt, congrArg (Value.int .i64) hw2, Rc.rowF_snoc j ▸ HFIN.out, HBF.out⟩
    · obtain rfl : j = n - 1 := by omega
      have hI : ¬ (((n - 1 : Nat) : Int) + 1 < (n : Int)) := by omega
      have HC4 := Lib.hid hc
      have HF4 := Lib.hid (hf.row)
      have HB4 := Lib.hid hbr
      clear hc hf hbr HO3 HB3
      generalize hm1 : n - 1 = m at *
      have HM : Hid (m + 1 = n) := Lib.hid (by have := HN2.out; omega)
      obtain ⟨⟨z0, z1, z2⟩, _⟩ := tri_facts HC4.out
      have G1 := Lib.hid (rfrom_any ⟨#[]⟩ (some ⟨nb, 0, none⟩) n n F m d (Rc.rowF m) (a' : Int) wr HF4.out (by have := HN29.out; omega) (by have := HN29.out; omega))
      go_wp2_with fail
      refine G1.out.mono ?_
      rintro e w5 ⟨⟨g5, f5, rfl, hc5, hg5, hq5⟩, hb5⟩
      have HC5 := Lib.hid (HC4.out.below hb5 (Nat.le_refl _))
      have HF5 := Lib.hid ((HF4.out.below hb5 (Nat.le_refl _)).mono hb5.size)
      have HB5 := Lib.hid (HB4.out.trans (hb5.mono HB4.out.size))
      have HM5 := Lib.hid hc5
      have HQ5 := Lib.hid hq5
      clear z0 z1 z2 hc5 hb5 hq5 hg5 G1
      obtain ⟨⟨z0, z1, z2⟩, _⟩ := tri_facts HC5.out
      have G2 := Lib.hid (rto_any ⟨#[]⟩ (some ⟨nb, 0, none⟩) n n F m d (Rc.rowF m) (a' : Int) w5 HF5.out (by have := HN29.out; omega) (by have := HN29.out; omega))
      go_wp2_with fail
      refine G2.out.mono ?_
      rintro e w6 ⟨⟨g6, f6, rfl, hc6, hg6, hq6⟩, hb6⟩
      have HC6 := Lib.hid (HC5.out.below hb6 (Nat.le_refl _))
      have HF6 := Lib.hid ((HF5.out.below hb6 (Nat.le_refl _)).mono hb6.size)
      have HB6 := Lib.hid (HB5.out.trans (hb6.mono HB5.out.size))
      have HM56 := Lib.hid (HM5.out.below hb6 (Nat.le_refl _))
      have HM6 := Lib.hid hc6
      have HQ6 := Lib.hid hq6
      clear z0 z1 z2 hc6 hb6 hq6 hg6 G2
      obtain ⟨⟨z0, z1, z2⟩, _⟩ := tri_facts HC6.out
      have G3 := Lib.hid (rorder_any ⟨#[]⟩ (some ⟨nb, 0, none⟩) n n F m d (Rc.rowF m) w6 HF6.out (by have := HN29.out; omega) (by have := HN29.out; omega))
      go_wp2_with fail
      refine G3.out.mono ?_
      rintro e w7 ⟨ho7, hb7⟩
      have hro := Rc.row_ord (n := n) HN29.out
      rw [hm1] at hro
      have HC7 := Lib.hid (HC6.out.below hb7 (Nat.le_refl _))
      have HF7 := Lib.hid ((HF6.out.below hb7 (Nat.le_refl _)).mono hb7.size)
      have HB7 := Lib.hid (HB6.out.trans (hb7.mono HB6.out.size))
      have HM57 := Lib.hid (HM56.out.below hb7 (Nat.le_refl _))
      have HM67 := Lib.hid (HM6.out.below hb7 (Nat.le_refl _))
      rcases ho7 with ⟨_, X, cc, rfl, hx⟩ | ⟨h1, _⟩
      rotate_left
      · rw [hro.1] at h1; simp at h1
      rw [hro.1] at hx
      have HX7 := Lib.hid hx.row
      clear z0 z1 z2 hb7 hx G3
      obtain ⟨⟨z0, z1, z2⟩, _⟩ := tri_facts HC7.out
      have G4 := Lib.hid (rlongest_any ⟨#[]⟩ (some ⟨nb, 0, none⟩) n n F m d (Rc.rowF m) w7 HF7.out (by have := HN29.out; omega) (by have := HN29.out; omega))
      go_wp2_with fail
      refine G4.out.mono ?_
      rintro e w8 ⟨ho8, hb8⟩
      have HC8 := Lib.hid (HC7.out.below hb8 (Nat.le_refl _))
      have HF8 := Lib.hid ((HF7.out.below hb8 (Nat.le_refl _)).mono hb8.size)
      have HB8 := Lib.hid (HB7.out.trans (hb8.mono HB7.out.size))
      have HM58 := Lib.hid (HM57.out.below hb8 (Nat.le_refl _))
      have HM68 := Lib.hid (HM67.out.below hb8 (Nat.le_refl _))
      have HX8 := Lib.hid (HX7.out.below hb8 (Nat.le_refl _))
      rcases ho8 with ⟨_, rfl⟩ | ⟨h1, _⟩
      rotate_left
      · rw [hro.1] at h1; simp at h1
      rw [hro.2]
      have hwm : wrap64 ((n : Int) - 1) = (m : Int) := by unfold wrap64; have := HM.out; have := HN29.out; omega
      clear z0 z1 z2 hb8 G4 hro HC4 HC5 HC6 HC7 HF4 HF5 HF6 HF7 HB4 HB5 HB6 HB7 HM5 HM6 HM56 HM57 HM67 HX7
      have HM1 := Lib.hid hm1
      clear hm1
      go_upto_region 17 with (fail)
      go_loopw [16] (fun i wr => ∃ j : Nat, j ≤ n ∧ i = .int .i64 j ∧ wr = w8) (fun i _ => n - (intOf i).toNat)
      case atStart => exact ⟨0, Nat.zero_le _, rfl, rfl⟩
      case round =>
        obtain ⟨j, hj, rfl, rfl⟩ := hrel
        have hj0 : (0 : Int) ≤ (j : Int) := by omega
        by_cases hlt : j < n
        · have hJ : (j : Int) < (n : Int) := by omega
          have hrf := Rc.row_from (n := n) (a := a') (i := j) (by omega) HAL.out hlt
          have hrb := Rc.row_back (n := n) (a := a') (i := j) (by omega) HAL.out
          rw [HM1.out] at hrf hrb
          have e5 : f5 j = decide ((a' : Int) < (j : Int)) := by rw [Bool.eq_iff_iff, HQ5.out j hlt, hrf]; simp
          have e6 : f6 j = decide ((j : Int) < (a' : Int)) := by rw [Bool.eq_iff_iff, HQ6.out j hlt, hrb]; simp
          have y1 := HM58.out.cell j _ (bv_at f5 hlt)
          have y2 := HM68.out.cell j _ (bv_at f6 hlt)
          rw [e5] at y1
          rw [e6] at y2
          have HX9 := HX8.out
          obtain ⟨b, off, rfl, _, _⟩ := HX9.2 (by omega)
          have g1 := iκ_cells HX9 hlt
          have hgv : ((List.range n).map Int.ofNat)[j]! = (j : Int) := by
            rw [getElem!_pos _ j (by simpa using hlt)]; simp
          rw [hgv] at g1
          have hwj : wrap64 ((j : Int) + 1) = ((j + 1 : Nat) : Int) := by unfold wrap64; have := HN29.out; omega
          clear hrf hrb e5 e6 hgv HX9
          go_wp2_with fail
          go_roundw
          case measure => rw [hwj]; exact meas2 hlt
          case rel => exact ⟨j + 1, hlt, congrArg (Value.int .i64) hwj, trivial⟩
        · obtain rfl : j = n := by omega
          have HS := Lib.hid (fun w' (hb : Below wr.heap.size wr w') => (show w'.cell? ⟨q, 1, none⟩ = some (.slice (some ⟨nb, 0, none⟩) j j) ∧ w'.cell? ⟨q, 2, none⟩ = some (.slice F m d) from by
            obtain ⟨⟨b0, b1, b2⟩, _⟩ := tri_facts (HC8.out.below hb (Nat.le_refl _))
            exact ⟨b1, b2⟩))
          have HFL := Lib.hid (fun w' (hb : Below wr.heap.size wr w') => refflows_on F m d (Rc.rowF m) HF8.out rfl hb (by have := HN29.out; have := HM.out; omega))
          have HWQ := Lib.hid HC8.out.lt
          clear HM58 HM68 HX8 HQ5 HQ6 HC8 HF8
          go_upto_region 23 with (fail)
          go_cut [17] from 127 to 142 (fun s wx => ∃ (y x' q2 : Nat) (A8 : Option Addr) (c8 : Nat), y < j ∧ x' ≤ a' ∧ a' ≤ y ∧ s = .pointer (some ⟨q2, 0, none⟩) ∧ Cel wx q2 [.string no, .slice (some ⟨nb, 0, none⟩) j j, .slice A8 (m + 1) c8] ∧ KRow Fl.κ wx wx.heap.size A8 (m + 1) (Rc.rowF m ++ [⟨(y : Int), (x' : Int), no⟩]) ∧ Below wr.heap.size wr wx)
          case first =>
            have hmax : (if a' < b' then (b' : Int) else (a' : Int)) = ((max a' b' : Nat) : Int) := by split <;> omega
            have hmin : (if b' < a' then (b' : Int) else (a' : Int)) = ((min a' b' : Nat) : Int) := by split <;> omega
            have hmn : m ≤ 1000000 := by have := HN29.out; have := HM.out; omega
            obtain ⟨X, hX⟩ : ∃ X : Nat, X = max a' b' := ⟨_, rfl⟩
            obtain ⟨Y, hY⟩ : ∃ Y : Nat, Y = min a' b' := ⟨_, rfl⟩
            rw [← hX] at hmax
            rw [← hY] at hmin
            have hXY : X < j ∧ Y ≤ a' ∧ a' ≤ X := by have := HAL.out; have := HBL.out; omega
            clear hX hY
            refine Rgi.region_each (by kernel_rfl) (Rgi.rows (Rr.words (⟨q, nb, j, F, m, d, (a' : Int), (b' : Int), (X : Int), (Y : Int), wr.heap.size, Rc.rowF m⟩ : Rr.K))) (by kernel_rfl) (Rg.by_each _ ⟨?s0, ?s1, ?s2, ?s3, ?s4, ?s5, ?s6, ?s7, ?s8, ?s9, ?s10, ?s11, ?s12, ?s13, ?s14, ?s15, ?s16, trivial⟩) ?fin
            case s0 =>
              intro L a w' hp
              have e8 : a.eval (.tmp 8) = .pointer (some ⟨q, 0, none⟩) := hp.rest 8 (by rfl)
              refine Rgi.step_run (v := .pointer (some ⟨q, 1, none⟩)) (w' := w') rfl (Rg.wanted_none rfl) (by simp) ?_ rfl (fun j' _ _ h => Rr.growU 0 rfl rfl (Below.refl _ _) j' _ h) hp.grew
              clear hp
              obtain ⟨ec, eg2, ef⟩ := Rg.eval_at a
              generalize a.eval = ρ at *
              go_simp
            case s1 =>
              intro L a w' hp
              have e127 : a.eval (.tmp 127) = .pointer (some ⟨q, 1, none⟩) := (hp.at_ 0 (by rfl)).2
              have hg : Below wr.heap.size wr w' := (Below.refl wr.heap.size wr).drew.trans hp.grew
              obtain ⟨c1, c2⟩ := HS.out w' hg
              refine Rgi.step_run (v := .slice (some ⟨nb, 0, none⟩) j j) (w' := w') rfl (Rg.wanted_none rfl) (by simp) ?_ rfl (fun j' _ _ h => Rr.growU 1 rfl rfl (Below.refl _ _) j' _ h) hp.grew
              clear hg
              clear hp
              obtain ⟨ec, eg2, ef⟩ := Rg.eval_at a
              generalize a.eval = ρ at *
              go_simp
            case s2 =>
              intro L a w' hp
              have e8 : a.eval (.tmp 8) = .pointer (some ⟨q, 0, none⟩) := hp.rest 8 (by rfl)
              refine Rgi.step_run (v := .pointer (some ⟨q, 2, none⟩)) (w' := w') rfl (Rg.wanted_none rfl) (by simp) ?_ rfl (fun j' _ _ h => Rr.growU 2 rfl rfl (Below.refl _ _) j' _ h) hp.grew
              clear hp
              obtain ⟨ec, eg2, ef⟩ := Rg.eval_at a
              generalize a.eval = ρ at *
              go_simp
            case s3 =>
              intro L a w' hp
              have e129 : a.eval (.tmp 129) = .pointer (some ⟨q, 2, none⟩) := (hp.at_ 2 (by rfl)).2
              have hg : Below wr.heap.size wr w' := (Below.refl wr.heap.size wr).drew.trans hp.grew
              obtain ⟨c1, c2⟩ := HS.out w' hg
              refine Rgi.step_run (v := .slice F m d) (w' := w') rfl (Rg.wanted_none rfl) (by simp) ?_ rfl (fun j' _ _ h => Rr.growU 3 rfl rfl (Below.refl _ _) j' _ h) hp.grew
              clear hg
              clear hp
              obtain ⟨ec, eg2, ef⟩ := Rg.eval_at a
              generalize a.eval = ρ at *
              go_simp
            case s4 =>
              intro L a w' hp
              have e130 : a.eval (.tmp 130) = .slice F m d := (hp.at_ 3 (by rfl)).2
              have hg : Below wr.heap.size wr w' := (Below.refl wr.heap.size wr).drew.trans hp.grew
              refine Rgi.step_call (f := 10) (args := #[.slice F m d]) rfl (Rg.wanted_none rfl) (by simp) (by clear hp hg; obtain ⟨ec, eg2, ef⟩ := Rg.eval_at a; generalize a.eval = ρ at *; go_simp) ?_
              refine (HFL.out w' hg).mono ?_
              rintro e w'' ⟨⟨AC, cC, rfl, hoC⟩, hbC, hbC'⟩
              exact ⟨_, rfl, ⟨AC, cC, rfl, fun _ => hoC⟩, (fun j' _ _ h => Rr.growU 4 rfl rfl hbC j' _ h), hp.grew.trans (hbC.mono hp.grew.size)⟩
            case s5 =>
              intro L a w' hp
              have e1 : a.eval (.tmp 1) = .int .i64 (a' : Int) := hp.rest 1 (by rfl)
              exact Rgi.step_run (v := a.eval (.tmp 1)) (w' := w') rfl (Rg.wanted_none rfl) (by simp) rfl e1 (fun j' _ _ h => Rr.growU 5 rfl rfl (Below.refl _ _) j' _ h) hp.grew
            case s6 =>
              intro L a w' hp
              have e2 : a.eval (.tmp 2) = .int .i64 (b' : Int) := hp.rest 2 (by rfl)
              exact Rgi.step_run (v := a.eval (.tmp 2)) (w' := w') rfl (Rg.wanted_none rfl) (by simp) rfl e2 (fun j' _ _ h => Rr.growU 6 rfl rfl (Below.refl _ _) j' _ h) hp.grew
            case s7 =>
              intro L a w' hp
              have e132 : a.eval (.tmp 132) = .int .i64 (a' : Int) := (hp.at_ 5 (by rfl)).2
              have e133 : a.eval (.tmp 133) = .int .i64 (b' : Int) := (hp.at_ 6 (by rfl)).2
              refine Rgi.step_run (v := .int .i64 (X : Int)) (w' := w') rfl (Rg.wanted_none rfl) (by simp) ?_ rfl (fun j' _ _ h => Rr.growU 7 rfl rfl (Below.refl _ _) j' _ h) hp.grew
              clear hp
              obtain ⟨ec, eg2, ef⟩ := Rg.eval_at a
              generalize a.eval = ρ at *
              go_simp
              all_goals exact hmax
            case s8 =>
              intro L a w' hp
              have e1 : a.eval (.tmp 1) = .int .i64 (a' : Int) := hp.rest 1 (by rfl)
              exact Rgi.step_run (v := a.eval (.tmp 1)) (w' := w') rfl (Rg.wanted_none rfl) (by simp) rfl e1 (fun j' _ _ h => Rr.growU 8 rfl rfl (Below.refl _ _) j' _ h) hp.grew
            case s9 =>
              intro L a w' hp
              have e2 : a.eval (.tmp 2) = .int .i64 (b' : Int) := hp.rest 2 (by rfl)
              exact Rgi.step_run (v := a.eval (.tmp 2)) (w' := w') rfl (Rg.wanted_none rfl) (by simp) rfl e2 (fun j' _ _ h => Rr.growU 9 rfl rfl (Below.refl _ _) j' _ h) hp.grew
            case s10 =>
              intro L a w' hp
              have e135 : a.eval (.tmp 135) = .int .i64 (a' : Int) := (hp.at_ 8 (by rfl)).2
              have e136 : a.eval (.tmp 136) = .int .i64 (b' : Int) := (hp.at_ 9 (by rfl)).2
              refine Rgi.step_run (v := .int .i64 (Y : Int)) (w' := w') rfl (Rg.wanted_none rfl) (by simp) ?_ rfl (fun j' _ _ h => Rr.growU 10 rfl rfl (Below.refl _ _) j' _ h) hp.grew
              clear hp
              obtain ⟨ec, eg2, ef⟩ := Rg.eval_at a
              generalize a.eval = ρ at *
              go_simp
              all_goals exact hmin
            case s11 =>
              intro L a w' hp
              have e134 : a.eval (.tmp 134) = .int .i64 (X : Int) := (hp.at_ 7 (by rfl)).2
              have e137 : a.eval (.tmp 137) = .int .i64 (Y : Int) := (hp.at_ 10 (by rfl)).2
              refine Rgi.step_run (v := .agg #[.int .i64 (X : Int), .int .i64 (Y : Int), .string ⟨#[]⟩]) (w' := w') rfl (Rg.wanted_none rfl) (by simp) ?_ rfl (fun j' _ _ h => Rr.growU 11 rfl rfl (Below.refl _ _) j' _ h) hp.grew
              clear hp
              obtain ⟨ec, eg2, ef⟩ := Rg.eval_at a
              generalize a.eval = ρ at *
              go_simp
            case s12 =>
              intro L a w' hp
              have e138 : a.eval (.tmp 138) = .agg #[.int .i64 (X : Int), .int .i64 (Y : Int), .string ⟨#[]⟩] := (hp.at_ 11 (by rfl)).2
              have hb2 : Below w'.heap.size w' (w'.alloc (.cells #[.int .i64 (X : Int), .int .i64 (Y : Int), .string ⟨#[]⟩] 29)) := (Below.refl _ _).alloc (Nat.le_refl _) _
              refine Rgi.step_run (v := .slice (some ⟨w'.heap.size, 0, none⟩) 1 1) (w' := w'.alloc (.cells #[.int .i64 (X : Int), .int .i64 (Y : Int), .string ⟨#[]⟩] 29)) rfl (Rg.wanted_none rfl) (by simp) ?_ ⟨w'.heap.size, rfl, fun _ => (KRow.lit (κ := Fl.κ) w' 29 [⟨(X : Int), (Y : Int), no⟩] #[.int .i64 (X : Int), .int .i64 (Y : Int), .string ⟨#[]⟩] rfl).mono (by simp)⟩ (fun j' _ _ h => Rr.growU 12 rfl rfl hb2 j' _ h) (hp.grew.trans (hb2.mono hp.grew.size))
              clear hb2
              clear hp
              obtain ⟨ec, eg2, ef⟩ := Rg.eval_at a
              generalize a.eval = ρ at *
              go_simp
            case s13 =>
              intro L a w' hp
              obtain ⟨A, c, e131, h1⟩ := (hp.at_ 4 (by rfl)).2
              obtain ⟨g, e139, h2⟩ := (hp.at_ 12 (by rfl)).2
              have ho := h1 hp.new
              have L14 := hp.not 14 _ rfl (by rfl)
              have L16 : L 16 = false := by
                cases h : L 16 with
                | false => rfl
                | true => have := hp.down 16 14 _ rfl (by rfl) h; rw [L14] at this; cases this
              refine Rgi.step_wp (E := False) rfl (Rg.wanted_none rfl) (step_append_k (κ := Fl.κ) rfl (.tmp 131) (.tmp 139) 25 29 i1 _ 32 Try.underlying25 hi1 hy0 hy1 hy2 rfl rfl w' wr.heap.size w'.heap.size A m c (Rc.rowF m) ⟨g, 0, none⟩ ⟨(X : Int), (Y : Int), no⟩ e131 ho e139 (h2 hp.new) hmn (by decide) hp.grew.size ?_)
              intro A' c' w'' ho' hg'
              exact ⟨_, rfl, (fun h => nomatch h), ⟨A', c', rfl, ho'⟩, (fun j' _ hl h => Rr.app ho hg' hp.new L14 L16 j' _ hl h), hp.grew.trans (hg'.below ho.2 hp.grew.size)⟩
            case s14 =>
              intro L a w' hp
              have e128 : a.eval (.tmp 128) = .slice (some ⟨nb, 0, none⟩) j j := (hp.at_ 1 (by rfl)).2
              obtain ⟨A, c, e140, h1⟩ := (hp.at_ 13 (by rfl)).2
              have e140 : a.eval (.tmp 140) = .slice A (m + 1) c := e140
              refine Rgi.step_run (v := .agg #[.string ⟨#[]⟩, .slice (some ⟨nb, 0, none⟩) j j, .slice A (m + 1) c]) (w' := w') rfl (Rg.wanted_none rfl) (by simp) ?_ ⟨A, c, rfl, h1⟩ (fun j' _ _ h => Rr.growU 14 rfl rfl (Below.refl _ _) j' _ h) hp.grew
              clear h1
              clear hp
              obtain ⟨ec, eg2, ef⟩ := Rg.eval_at a
              generalize a.eval = ρ at *
              go_simp
            case s15 =>
              intro L a w' hp
              have hb2 : Below w'.heap.size w' (w'.alloc (.cells #[.string ⟨#[]⟩, .slice none 0 0, .slice none 0 0] 27)) := (Below.refl _ _).alloc (Nat.le_refl _) _
              have L16 := hp.not 16 _ rfl (by rfl)
              refine Rgi.step_run (v := .pointer (some ⟨w'.heap.size, 0, none⟩)) (w' := w'.alloc (.cells #[.string ⟨#[]⟩, .slice none 0 0, .slice none 0 0] 27)) rfl (Rg.wanted_none rfl) (by simp) ?_ ⟨w'.heap.size, rfl, hp.grew.size, fun _ => ⟨heap_alloc_new w' _, Cel.lit w' _ _⟩, fun hl => (by have hl : L 16 = true := hl; rw [L16] at hl; cases hl)⟩ (fun j' _ _ h => Rr.growU 15 rfl rfl hb2 j' _ h) (hp.grew.trans (hb2.mono hp.grew.size))
              clear hb2 L16
              clear hp
              obtain ⟨ec, eg2, ef⟩ := Rg.eval_at a
              generalize a.eval = ρ at *
              go_simp
            case s16 =>
              intro L a w' hp
              obtain ⟨q2, e17, hN, h1, _⟩ := (hp.at_ 15 (by rfl)).2
              obtain ⟨h3, h4⟩ := h1 hp.new
              obtain ⟨A, c, e141, h5⟩ := (hp.at_ 14 (by rfl)).2
              have e17 : a.eval (.tmp 17) = .pointer (some ⟨q2, 0, none⟩) := e17
              have e141 : a.eval (.tmp 141) = .agg #[.string ⟨#[]⟩, .slice (some ⟨nb, 0, none⟩) j j, .slice A (m + 1) c] := e141
              have L13 := hp.down 14 13 _ rfl (by rfl) (hp.at_ 14 (by rfl)).1
              refine Rgi.step_done (w' := Rr.st3 w' q2 (.string ⟨#[]⟩) (.slice (some ⟨nb, 0, none⟩) j j) (.slice A (m + 1) c)) rfl (Rg.wanted_none rfl) ?_ trivial (fun j' _ hl h => Rr.sto h3 h4 h5 L13 _ e17 j' hl h) (Rr.st3_below hp.grew hN _ _ _)
              obtain ⟨⟨c0, c1, c2⟩, f0, f1, f2⟩ := tri_facts h4
              clear h1 h3 h4 h5 L13
              clear hp
              obtain ⟨ec, eg2, ef⟩ := Rg.eval_at a
              generalize a.eval = ρ at *
              go_simp
              all_goals rfl
            case fin =>
              intro L a w' hsz hdf hrest hall hdone hb
              obtain ⟨q2, e17, hN, _, h2⟩ := hdone 15 (by decide)
              obtain ⟨A, c, hc, ho⟩ := h2 (hall 16 (by decide))
              have e17 : a.tmps.getD 17 undef = .pointer (some ⟨q2, 0, none⟩) := e17
              have ha := Rg.act_puts hsz hdf hrest [127, 128, 129, 130, 131, 132, 133, 134, 135, 136, 137, 138, 139, 140, 141, 17] (by kernel_rfl)
              simp only [List.foldl_cons, List.foldl_nil, Act.put, List.setIfInBounds_toArray, List.set_cons_zero, List.set_cons_succ] at ha
              rw [e17] at ha
              clear hsz hdf hrest hdone hall e17 h2
              rw [ha]
              clear ha
              clear hwm
              go_wp2
              go_meet
              exact ⟨X, Y, q2, A, c, hXY.1, hXY.2.1, hXY.2.2, rfl, hc, ho.row, hb⟩
          case rest =>
            obtain ⟨y, x', q2, A8, c8, hyj, hxa, hay, rfl, hc9, hf9, hb9⟩ := hcut
            have hm1 := HM1.out
            have hmj := HM.out
            have hway : Rc.Way (nxt j (Rc.rowF m ++ [⟨(y : Int), (x' : Int), no⟩]) (m + 1)) a' a' := by
              have h := Rc.ring_way (n := j) (x := x') (y := y) (a := a') (by omega) hxa hay hyj
              rw [hm1] at h
              rw [hmj]
              exact h
            have hord := Rc.ring_ord (n := j) (L := nxt j (Rc.rowF m ++ [⟨(y : Int), (x' : Int), no⟩]) (m + 1)) (fun u v h => nxt_lt h) hway
            have HWAY := Lib.hid hway
            have HORD := Lib.hid hord
            have HC9 := Lib.hid hc9
            have HF9 := Lib.hid hf9
            have HB9 := Lib.hid (HB8.out.trans (hb9.mono HB8.out.size))
            clear hc9 hf9 hb9 hway hord hm1 hmj hI hyj hxa hay
            obtain ⟨⟨z0, z1, z2⟩, _⟩ := tri_facts HC9.out
            have G5 := Lib.hid (rorder_any ⟨#[]⟩ (some ⟨nb, 0, none⟩) j j A8 (m + 1) c8 (Rc.rowF m ++ [⟨(y : Int), (x' : Int), no⟩]) wc HF9.out (by have := HN29.out; omega) (by have := HM.out; have := HN29.out; omega))
            unfold no at G5
            go_wp2_with fail
            refine G5.out.mono ?_
            rintro e wd ⟨hod, hbd⟩
            rcases hod with ⟨h1, _⟩ | ⟨_, rfl⟩
            · exact absurd h1 (Nat.ne_of_lt HORD.out)
            have HCd := Lib.hid (HC9.out.below hbd (Nat.le_refl _))
            have HFd := Lib.hid ((HF9.out.below hbd (Nat.le_refl _)).mono hbd.size)
            have HBd := Lib.hid (HB9.out.trans (hbd.mono HB9.out.size))
            clear hbd z0 z1 z2 G5
            obtain ⟨⟨z0, z1, z2⟩, _⟩ := tri_facts HCd.out
            have G6 := Lib.hid (rfrom_any ⟨#[]⟩ (some ⟨nb, 0, none⟩) j j A8 (m + 1) c8 (Rc.rowF m ++ [⟨(y : Int), (x' : Int), no⟩]) (a' : Int) wd HFd.out (by have := HN29.out; omega) (by have := HM.out; have := HN29.out; omega))
            unfold no at G6
            go_wp2_with fail
            refine G6.out.mono ?_
            rintro e we ⟨⟨g9, f9, rfl, hcE, hgE, hqE⟩, hbE⟩
            have hfa : f9 a' = true := (hqE a' HAL.out).2 ⟨a', rfl, HAL.out, HWAY.out⟩
            have y9 := hcE.cell a' _ (bv_at f9 HAL.out)
            rw [hfa] at y9
            have HBe := Lib.hid (HBd.out.trans (hbE.mono HBd.out.size))
            have ia0 : (0 : Int) ≤ (a' : Int) := by omega
            have iaj : (a' : Int) < (j : Int) := by have := HAL.out; omega
            clear z0 z1 z2 hcE hgE hqE hbE G6 hfa
            go_wp2
            go_ret
            exact ⟨rfl, HBe.out⟩
end Go.Proofs.Ytlmlhjepolefaaa
