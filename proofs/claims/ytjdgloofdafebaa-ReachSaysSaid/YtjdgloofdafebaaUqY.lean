/- leaseholdmake.Raw: a process of numbers, as they come. -/
import Derived.Test.YtjdgloofdafebaaGzY
import Derived.Deep.CutBlock
import Derived.Deep.RegionHeld3
import Derived.Test.YtjdgloofdafebaaYReachSays5
import Derived.Deep.DeepCutAuto
namespace Go.Proofs.Ytjdgloofdafebaa
open Go.RowKit

namespace Pr
def RawOut (name : ByteArray) (w : World) (e : Ending) (w' : World) : Prop := (∃ (A : Option Addr) (n c : Nat) (F : Option Addr) (m d : Nat) (fl : List Fl), e = .returned (.agg #[.string name, .slice A n c, .slice F m d]) ∧ KRow Fl.κ w' w'.heap.size F m fl ∧ n ≤ 100000 ∧ m ≤ 100000) ∧ Below w.heap.size w w'
/-- A node that is being made, in a block of its own, newer than wr. -/
structure Rj (wr w : World) (x : Nd) : Prop where
  nd : Cel w wr.heap.size x.cells
  bel : Below wr.heap.size wr w
theorem Rj.grow {wr w w' : World} {x : Nd} (h : Rj wr w x) (hb : Below w.heap.size w w') : Rj wr w' x := ⟨h.nd.below hb (Nat.le_refl _), h.bel.trans (hb.mono h.bel.size)⟩
theorem Rj.set {wr w : World} {x y : Nd} (h : Rj wr w x) {i : Nat} (hi : i < 8) {v : Value} (e : x.cells.set i v = y.cells) : Rj wr (w.setCell ⟨wr.heap.size, i, none⟩ v) y :=
  ⟨by rw [← e]; exact h.nd.set (i := i) hi v, h.bel.setCell (p := ⟨wr.heap.size, i, none⟩) (Nat.le_refl _) v⟩
theorem Rj.seed {wr w : World} {x : Nd} (h : Rj wr w x) {q i : Nat} {v : Value} (hc : wr.cell? ⟨q, i, none⟩ = some v) : w.cell? ⟨q, i, none⟩ = some v := (h.bel.cell (p := ⟨q, i, none⟩) (cell_lt hc)).trans hc
theorem nd_both {w : World} {z : Nat} {a0 a1 a2 a3 a4 a5 a6 a7 : Value} (h : Cel w z [a0, a1, a2, a3, a4, a5, a6, a7]) : (w.cell? ⟨z, 0, none⟩ = some a0 ∧ w.cell? ⟨z, 1, none⟩ = some a1 ∧ w.cell? ⟨z, 2, none⟩ = some a2 ∧ w.cell? ⟨z, 3, none⟩ = some a3 ∧ w.cell? ⟨z, 4, none⟩ = some a4 ∧ w.cell? ⟨z, 5, none⟩ = some a5 ∧ w.cell? ⟨z, 6, none⟩ = some a6 ∧ w.cell? ⟨z, 7, none⟩ = some a7) ∧
    (w.frozen? ⟨z, 0, none⟩ = false ∧ w.frozen? ⟨z, 1, none⟩ = false ∧ w.frozen? ⟨z, 2, none⟩ = false ∧ w.frozen? ⟨z, 3, none⟩ = false ∧ w.frozen? ⟨z, 4, none⟩ = false ∧ w.frozen? ⟨z, 5, none⟩ = false ∧ w.frozen? ⟨z, 6, none⟩ = false ∧ w.frozen? ⟨z, 7, none⟩ = false) :=
  ⟨nd_facts h, h.froz 0 (by simp), h.froz 1 (by simp), h.froz 2 (by simp), h.froz 3 (by simp), h.froz 4 (by simp), h.froz 5 (by simp), h.froz 6 (by simp), h.froz 7 (by simp)⟩
/-- A flow that is being made, in a block of its own, newer than wr. -/
structure Rf (wr w : World) (x : Fl) : Prop where
  fl : Cel w wr.heap.size x.cells
  bel : Below wr.heap.size wr w
theorem Rf.grow {wr w w' : World} {x : Fl} (h : Rf wr w x) (hb : Below w.heap.size w w') : Rf wr w' x := ⟨h.fl.below hb (Nat.le_refl _), h.bel.trans (hb.mono h.bel.size)⟩
theorem Rf.set {wr w : World} {x y : Fl} (h : Rf wr w x) {i : Nat} (hi : i < 3) {v : Value} (e : x.cells.set i v = y.cells) : Rf wr (w.setCell ⟨wr.heap.size, i, none⟩ v) y :=
  ⟨by rw [← e]; exact h.fl.set (i := i) hi v, h.bel.setCell (p := ⟨wr.heap.size, i, none⟩) (Nat.le_refl _) v⟩
theorem Rf.seed {wr w : World} {x : Fl} (h : Rf wr w x) {q i : Nat} {v : Value} (hc : wr.cell? ⟨q, i, none⟩ = some v) : w.cell? ⟨q, i, none⟩ = some v := (h.bel.cell (p := ⟨q, i, none⟩) (cell_lt hc)).trans hc
set_option maxHeartbeats 6400000 in
set_option maxRecDepth 10000 in
theorem raw_any (name : ByteArray) (KA : Option Addr) (kn kc : Nat) (EA : Option Addr) (en ec : Nat) (MA : Option Addr) (mn mc : Nat) (ks es ms : List Int) (w : World)
    (hk : Row w w.heap.size KA kn (ks.map iv)) (he : Row w w.heap.size EA en (es.map iv)) (hm : Row w w.heap.size MA mn (ms.map iv)) (hkb : ∀ k ∈ ks, -9223372036854775808 ≤ k ∧ k ≤ 9223372036854775807) (heb : ∀ k ∈ es, -9223372036854775808 ≤ k ∧ k ≤ 9223372036854775807) (hmb : ∀ k ∈ ms, -9223372036854775808 ≤ k ∧ k ≤ 9223372036854775807) (hkn : kn ≤ 28) (hen : en ≤ 60) :
    Calls Try.prog 8 #[.agg #[.string name, .slice KA kn kc, .slice EA en ec, .slice MA mn mc]] w (RawOut name w) := by
  have hkl : ks.length = kn := by simpa using hk.len
  have hel : es.length = en := by simpa using he.len
  have HK := Lib.hid hk
  have HE := Lib.hid he
  have HM := Lib.hid hm
  have HKB := Lib.hid hkb
  have HEB := Lib.hid heb
  have HMP : Hid (∀ j : Nat, j ≤ 1000 → -9223372036854775808 ≤ pick ms j ∧ pick ms j ≤ 9223372036854775807) := Lib.hid (fun j hj => by
    unfold pick
    split
    · rename_i h0
      rw [getElem!_pos ms j h0]
      exact hmb _ (List.getElem_mem _)
    · omega)
  clear hk he hm hkb heb hmb
  obtain ⟨i0, hi0, hz0, hz1, hz2⟩ := info_parts info_node
  obtain ⟨i1, hi1, hy0, hy1, hy2⟩ := info_parts info_flow
  go_enter Try.func8, Try.ntmps8
  go_wp2_with fail
  have hq := three_new w (.cells #[.string name, .slice KA kn kc, .slice EA en ec, .slice MA mn mc] 28) (.cells #[.string ⟨#[]⟩, .slice none 0 0, .slice none 0 0] 25) (.cells #[.string name, .slice none 0 0, .slice none 0 0] 25)
  have hbA : Below w.heap.size w (((w.alloc (.cells #[.string name, .slice KA kn kc, .slice EA en ec, .slice MA mn mc] 28)).alloc (.cells #[.string ⟨#[]⟩, .slice none 0 0, .slice none 0 0] 25)).alloc (.cells #[.string name, .slice none 0 0, .slice none 0 0] 25)) := below3 _ _ _ _
  generalize ((w.alloc _).alloc _).alloc _ = wb at *
  obtain ⟨q1, q2, q3⟩ := hq
  have hC0 : C wb (w.heap.size + 1 + 1) (w.heap.size + 1 + 1) ⟨name, [], []⟩ :=
    ⟨⟨none, 0, 0, none, 0, 0, cel_of q3, ⟨by decide, World.ownsRow_nil _ _ _ _⟩, ⟨by decide, World.ownsRow_nil _ _ _ _⟩, fun a ha => by (cases ha), fun a ha => by (cases ha)⟩, Nat.le_refl _⟩
  have HC0 := Lib.hid hC0
  have HX1 := Lib.hid (cel_of q1)
  have HX2 := Lib.hid (cel_of q2)
  have HBA := Lib.hid hbA
  have hsz : w.heap.size + 1 + 1 < wb.heap.size := blk_lt q3
  have HSZ := Lib.hid hsz
  clear q1 q2 q3 hC0 hbA
  go_loopw [5] (fun i wr => ∃ (j : Nat) (l : List Nd), j ≤ kn ∧ i = .int .i64 j ∧ l.length = j ∧ C wr (w.heap.size + 1 + 1) (w.heap.size + 1 + 1) ⟨name, l, []⟩ ∧ Below (w.heap.size + 1 + 1) wb wr) (fun i _ => kn - (intOf i).toNat)
  case atStart => exact ⟨0, [], Nat.zero_le _, rfl, rfl, HC0.out, Below.refl _ _⟩
  case round =>
    obtain ⟨j, l, hj, rfl, hl, hcr, hbr⟩ := hrel
    clear HC0
    have b1 : wr.cell? ⟨w.heap.size, 1, none⟩ = some (.slice KA kn kc) := (hbr.cell (p := ⟨w.heap.size, 1, none⟩) (by show w.heap.size < _; omega)).trans (HX1.out.cell 1 _ rfl)
    have b2 : wr.cell? ⟨w.heap.size, 2, none⟩ = some (.slice EA en ec) := (hbr.cell (p := ⟨w.heap.size, 2, none⟩) (by show w.heap.size < _; omega)).trans (HX1.out.cell 2 _ rfl)
    have b3 : wr.cell? ⟨w.heap.size, 3, none⟩ = some (.slice MA mn mc) := (hbr.cell (p := ⟨w.heap.size, 3, none⟩) (by show w.heap.size < _; omega)).trans (HX1.out.cell 3 _ rfl)
    have hall : Below w.heap.size w wr := HBA.out.trans (hbr.mono (by omega))
    have HALL := Lib.hid hall
    have HCR := Lib.hid hcr
    have HBR := Lib.hid hbr
    by_cases hlt : j < kn
    · have hjI : (j : Int) < (kn : Int) := by omega
      have hj0 : (0 : Int) ≤ (j : Int) := by omega
      obtain ⟨bk, ok, rfl, _, hc⟩ := (HK.out.below hall (Nat.le_refl _)).at_ hlt
      rw [List.getElem_map] at hc
      have hkm : ks[j]'(by omega) ∈ ks := List.getElem_mem _
      obtain ⟨kd1, kd2⟩ := HKB.out _ hkm
      generalize ks[j]'(by omega) = kd at *
      unfold iv at hc
      have HNK := Lib.hid (fun W => mnumber_any kd 9 W (by decide) kd1 kd2 (by decide))
      obtain ⟨kk, hkk, hkkl⟩ := nmb_nat kd 9 (by decide)
      rw [hkk] at HNK
      have HPK := Lib.hid (fun W (hb : Below w.heap.size w W) => mpick_any MA mn mc ms w.heap.size (HM.out.below hb (Nat.le_refl _)) j (by omega) (w := W))
      obtain ⟨pm, hpm⟩ : ∃ pm, pick ms j = pm := ⟨_, rfl⟩
      have hpb := HMP.out j (by omega)
      rw [hpm] at HPK hpb
      have HB1 := Lib.hid b1
      have HB3 := Lib.hid b3
      have HJL := Lib.hid hl
      clear hkm hkk kd1 kd2 hcr hbr hall hpm hl
      go_wp2_with fail
      refine (HNK.out _).mono ?_
      rintro e wy ⟨rfl, rfl⟩
      obtain ⟨x0, hx0⟩ : ∃ x0 : Nd, x0 = ⟨(kk : Int), ⟨#[]⟩, 0, 0, -1, ⟨#[]⟩, ⟨#[]⟩, -1⟩ := ⟨_, rfl⟩
      have hr0 : Rj wr (wr.alloc (.cells #[.int .i64 (kk : Int), .string ⟨#[]⟩, .int .i64 0, .int .i64 0, .int .i64 (-1), .string ⟨#[]⟩, .string ⟨#[]⟩, .int .i64 (-1)] 48)) x0 := ⟨by rw [hx0]; exact Cel.lit wr #[.int .i64 (kk : Int), .string ⟨#[]⟩, .int .i64 0, .int .i64 0, .int .i64 (-1), .string ⟨#[]⟩, .string ⟨#[]⟩, .int .i64 (-1)] 48, (Below.refl _ _).alloc (Nat.le_refl _) _⟩
      go_upto_region 7 with (fail)
      generalize wr.alloc _ = v1 at *
      have HR0 := Lib.hid hr0
      have HX0 := Lib.hid hx0
      clear hr0 hx0 hc b1 b2 b3
      have hpb1 := hpb.1
      have hpb2 := hpb.2
      have HTO := Lib.hid (fun W => mtopics_any pm W hpb1 hpb2)
      have HN10 := Lib.hid (fun W => mnumber_any pm 10 W (by decide) hpb1 hpb2 (by decide))
      have HN3 := Lib.hid (fun W => mnumber_any pm 3 W (by decide) hpb1 hpb2 (by decide))
      obtain ⟨n3, hn3, hn3l⟩ := nmb_nat pm 3 (by decide)
      rw [hn3] at HN3
      clear hpb hpb1 hpb2 hn3
      have hk0 : v1.cell? ⟨wr.heap.size, 0, none⟩ = some (.int .i64 (kk : Int)) := by
        have h := HR0.out.nd.cell 0 _ rfl
        rw [HX0.out] at h
        exact h
      go_upto_if 29 with (fail)
      go_cut [6] from 30 to 48 (fun s wx => s = .pointer (some ⟨wr.heap.size, 0, none⟩) ∧ ∃ y : Nd, Rj wr wx y ∧ y.kind = (kk : Int))
      case first =>
        by_cases h4 : kk = 4
        · subst h4
          clear hk0
          have c3 := HR0.out.seed HB3.out
          go_wp2_with fail
          refine (HPK.out _ (HALL.out.trans (HR0.out.bel.mono HALL.out.size))).mono ?_
          rintro e wy ⟨rfl, rfl⟩
          go_wp2_with fail
          refine (HTO.out _).mono ?_
          rintro e v2 ⟨rfl, hb⟩
          have HR1 := Lib.hid (HR0.out.grow hb)
          clear hb c3
          have f1 := HR1.out.nd.froz 1 (by simp [Nd.cells])
          have k1 := HR1.out.nd.cell 1 _ rfl
          have HR2 : Hid (Rj wr (v2.setCell ⟨wr.heap.size, 1, none⟩ (.string (bs (topics pm)))) { x0 with topic := bs (topics pm) }) := Lib.hid (HR1.out.set (by decide) rfl)
          go_upto_region 9 with (fail)
          generalize v2.setCell _ _ = v3 at *
          clear f1 k1
          have c3 := HR2.out.seed HB3.out
          go_wp2_with fail
          refine (HPK.out _ (HALL.out.trans (HR2.out.bel.mono HALL.out.size))).mono ?_
          rintro e wy ⟨rfl, rfl⟩
          go_wp2_with fail
          refine (HN10.out _).mono ?_
          rintro e wy ⟨rfl, rfl⟩
          clear c3
          have f1 := HR2.out.nd.froz 2 (by simp [Nd.cells])
          have k1 := HR2.out.nd.cell 2 _ rfl
          have HR3 : Hid (Rj wr (v3.setCell ⟨wr.heap.size, 2, none⟩ (.int .i64 (nmb pm 10))) { x0 with topic := bs (topics pm), prio := nmb pm 10 }) := Lib.hid (HR2.out.set (by decide) rfl)
          go_upto_region 10 with (fail)
          generalize v3.setCell _ _ = v4 at *
          clear f1 k1
          have c3 := HR3.out.seed HB3.out
          go_wp2_with fail
          refine (HPK.out _ (HALL.out.trans (HR3.out.bel.mono HALL.out.size))).mono ?_
          rintro e wy ⟨rfl, rfl⟩
          go_wp2_with fail
          refine (HN3.out _).mono ?_
          rintro e wy ⟨rfl, rfl⟩
          clear c3
          have f1 := HR3.out.nd.froz 3 (by simp [Nd.cells])
          have k1 := HR3.out.nd.cell 3 _ rfl
          have HR4 : Hid (Rj wr (v4.setCell ⟨wr.heap.size, 3, none⟩ (.int .i64 (1 + (n3 : Int)))) { x0 with topic := bs (topics pm), prio := nmb pm 10, retr := 1 + (n3 : Int) }) := Lib.hid (HR3.out.set (by decide) rfl)
          go_wp2
          go_meet
          exact ⟨rfl, _, HR4.out, by rw [HX0.out]⟩
        · have h4B : ((kk : Int) == 4) = false := by rw [beq_eq_false_iff_ne]; omega
          go_wp2
          go_meet
          exact ⟨rfl, _, HR0.out, by rw [HX0.out]⟩
      case rest =>
        obtain ⟨rfl, y, hry, hyk⟩ := hcut
        clear hk0
        have HRY := Lib.hid hry
        have HYK := Lib.hid hyk
        clear hry hyk HR0 HX0
        generalize wc = v2 at *
        have hk0 : v2.cell? ⟨wr.heap.size, 0, none⟩ = some (.int .i64 (kk : Int)) := by
          have h := HRY.out.nd.cell 0 _ rfl
          rw [HYK.out] at h
          exact h
        go_upto_if 51 with (fail)
        go_cut [6] from 52 to 52 (fun s wx => s = .pointer (some ⟨wr.heap.size, 0, none⟩) ∧ ∃ y : Nd, Rj wr wx y ∧ y.kind = (kk : Int))
        case first =>
          by_cases h3 : kk = 3
          · subst h3
            clear hk0
            have f1 := HRY.out.nd.froz 5 (by simp [Nd.cells])
            have k1 := HRY.out.nd.cell 5 _ rfl
            have HR4 : Hid (Rj wr (v2.setCell ⟨wr.heap.size, 5, none⟩ (.string ⟨#[111, 111, 112, 115]⟩)) { y with code := ⟨#[111, 111, 112, 115]⟩ }) := Lib.hid (HRY.out.set (by decide) rfl)
            go_wp2
            go_meet
            exact ⟨rfl, _, HR4.out, HYK.out⟩
          · have h3B : ((kk : Int) == 3) = false := by rw [beq_eq_false_iff_ne]; omega
            go_wp2
            go_meet
            exact ⟨rfl, _, HRY.out, HYK.out⟩
        case rest =>
          obtain ⟨rfl, z, hrz, hzk⟩ := hcut
          clear hk0
          have HRZ := Lib.hid hrz
          clear hrz HRY HYK hzk
          generalize wc = v3 at *
          obtain ⟨A, n, c, F, m, d, hc, hn, hf, h1, h2⟩ := HCR.out.ex
          obtain rfl : n = l.length := hn.len.symm
          replace hn : OwnK Nd.κ wr (w.heap.size + 1 + 1) 48 A l.length c l := hn
          replace hf : OwnK Fl.κ wr (w.heap.size + 1 + 1) 40 F m d [] := hf
          have hbz : Below wr.heap.size wr v3 := HRZ.out.bel
          have hcz := hc.below hbz (Nat.le_refl _)
          have hqlt := hc.lt
          obtain ⟨⟨c0, c1, c2⟩, g0, g1, g2⟩ := tri_facts hcz
          obtain ⟨⟨k0, k1, k2, k3, k4, k5, k6, k7⟩, _⟩ := nd_both HRZ.out.nd
          have hba : Below v3.heap.size v3 (v3.alloc (.cells #[.int .i64 z.kind, .string z.topic, .int .i64 z.prio, .int .i64 z.retr, .int .i64 z.dflt, .string z.code, .string z.caught, .int .i64 z.tgt] 48)) := (Below.refl _ _).alloc (Nat.le_refl _) _
          have HR : Hid (KRow Nd.κ (v3.alloc (.cells #[.int .i64 z.kind, .string z.topic, .int .i64 z.prio, .int .i64 z.retr, .int .i64 z.dflt, .string z.code, .string z.caught, .int .i64 z.tgt] 48)) (v3.heap.size + 1) (some ⟨v3.heap.size, 0, none⟩) 1 [z]) := Lib.hid (KRow.lit (κ := Nd.κ) v3 48 [z] #[.int .i64 z.kind, .string z.topic, .int .i64 z.prio, .int .i64 z.retr, .int .i64 z.dflt, .string z.code, .string z.caught, .int .i64 z.tgt] rfl)
          have HCA := Lib.hid (hcz.below hba (Nat.le_refl _))
          have HNA := Lib.hid ((hn.below hbz (Nat.le_refl _)).below hba (Nat.le_refl _))
          have HFA := Lib.hid ((hf.below hbz (Nat.le_refl _)).below hba (Nat.le_refl _))
          have HBA2 := Lib.hid (HBR.out.trans ((hbz.trans (hba.mono hbz.size)).mono (Nat.le_of_lt hqlt)))
          have hbase : w.heap.size + 1 + 1 ≤ (v3.alloc (.cells #[.int .i64 z.kind, .string z.topic, .int .i64 z.prio, .int .i64 z.retr, .int .i64 z.dflt, .string z.code, .string z.caught, .int .i64 z.tgt] 48)).heap.size := by have := hba.size; have := hbz.size; omega
          have hll : l.length ≤ 1000000 := by have := HJL.out; omega
          have H1 := Lib.hid h1
          have H2 := Lib.hid h2
          clear hc hn hf h1 h2 hbz hcz hba
          go_wp2_with (at_builtin; refine append_k (κ := Nd.κ) rfl (.tmp 54) (.tmp 56) 22 48 i0 _ 88 Try.underlying22 hi0 hz0 hz1 hz2 rfl rfl _ (w.heap.size + 1 + 1) _ A l.length c l ⟨v3.heap.size, 0, none⟩ z rfl HNA.out rfl HR.out hll (by decide) hbase ?_; intro A' c' w' ho hg; have hcw := cel_grew HCA.out hg H1.out; obtain ⟨⟨m0, m1, m2⟩, n0, n1, n2⟩ := tri_facts hcw; have HX1q := Lib.hid ho; have HX2q := Lib.hid hg; have HX3q := Lib.hid hcw; clear ho hg hcw)
          have HFIN := Lib.hid (C.nodes (p := ⟨name, l, []⟩) HCA.out HNA.out HFA.out H1.out H2.out (Nat.le_refl _) HX2q.out HX1q.out)
          have HBF := Lib.hid ((HBA2.out.trans (HX2q.out.below HNA.out.2 hbase)).setCell (p := ⟨w.heap.size + 1 + 1, 1, none⟩) (Nat.le_refl _) (.slice A' (l.length + 1) c'))
          clear c0 c1 c2 g0 g1 g2 m0 m1 m2 n0 n1 n2 k0 k1 k2 k3 k4 k5 k6 k7 hll hbase
          go_wp2_with fail
          go_roundw
          case measure => simp [intOf]; omega
          case rel => exact ⟨j + 1, l ++ [z], by omega, by go_num, by rw [List.length_append, HJL.out]; rfl, HFIN.out, HBF.out⟩
    · have hjI : ¬ ((j : Int) < (kn : Int)) := by omega
      obtain rfl : j = kn := by omega
      have HLL := Lib.hid hl
      have hkn0 : (0 : Int) < (j : Int) + 1 := by omega
      clear hcr hbr hall hl b1 b2 b3
      go_wp2_with fail
      go_loopw [7] (fun i wx => ∃ (g : Nat) (fl : List Fl), g ≤ en + 2 ∧ i = .int .i64 g ∧ fl.length ≤ g ∧ C wx (w.heap.size + 1 + 1) (w.heap.size + 1 + 1) ⟨name, l, fl⟩ ∧ Below (w.heap.size + 1 + 1) wb wx) (fun i _ => en + 2 - (intOf i).toNat)
      case atStart => exact ⟨0, [], Nat.zero_le _, rfl, Nat.le_refl _, HCR.out, HBR.out⟩
      case round =>
        obtain ⟨g, fl, hg, rfl, hgl, hcx, hbx⟩ := hrel
        generalize wr = wz at *
        have b2 : wz.cell? ⟨w.heap.size, 2, none⟩ = some (.slice EA en ec) := (hbx.cell (p := ⟨w.heap.size, 2, none⟩) (by show w.heap.size < _; omega)).trans (HX1.out.cell 2 _ rfl)
        have b3 : wz.cell? ⟨w.heap.size, 3, none⟩ = some (.slice MA mn mc) := (hbx.cell (p := ⟨w.heap.size, 3, none⟩) (by show w.heap.size < _; omega)).trans (HX1.out.cell 3 _ rfl)
        have hall : Below w.heap.size w wz := HBA.out.trans (hbx.mono (by omega))
        have HALL := Lib.hid hall
        have HCX := Lib.hid hcx
        have HBX := Lib.hid hbx
        by_cases hlt : g + 1 < en
        · have hgI : (g : Int) + 1 < (en : Int) := by omega
          have hg0 : (0 : Int) ≤ (g : Int) := by omega
          have hgE : (g : Int) < (en : Int) := by omega
          have hgw : IntKind.i64.wrap ((g : Int) + 1) = (g : Int) + 1 := by rw [IntKind.wrap_i64]; omega
          have hjw : IntKind.i64.wrap ((j : Int) + 1) = (j : Int) + 1 := by rw [IntKind.wrap_i64]; omega
          have hg1 : (0 : Int) ≤ (g : Int) + 1 := by omega
          have hgt : ((g : Int) + 1).toNat = g + 1 := by omega
          have hrow := HE.out.below hall (Nat.le_refl _)
          obtain ⟨be, oe, rfl, _, e1⟩ := hrow.at_ (show g < en by omega)
          obtain ⟨be', oe', hbe, _, e2⟩ := hrow.at_ hlt
          obtain ⟨rfl, rfl⟩ : be = be' ∧ oe = oe' := by have h := Option.some.inj hbe; exact ⟨congrArg Addr.block h, congrArg Addr.off h⟩
          clear hbe
          rw [List.getElem_map] at e1 e2
          obtain ⟨ea1, ea2⟩ := HEB.out (es[g]'(by omega)) (List.getElem_mem _)
          obtain ⟨eb1, eb2⟩ := HEB.out (es[g + 1]'(by omega)) (List.getElem_mem _)
          generalize es[g]'(by omega) = ea at *
          generalize es[g + 1]'(by omega) = eb at *
          unfold iv at e1 e2
          clear hrow
          have HNA := Lib.hid (fun W => mnumber_any ea ((j : Int) + 1) W (by omega) ea1 ea2 (by omega))
          have HNB := Lib.hid (fun W => mnumber_any eb ((j : Int) + 1) W (by omega) eb1 eb2 (by omega))
          obtain ⟨na, hna, hnal⟩ := nmb_nat ea ((j : Int) + 1) (by omega)
          obtain ⟨nb, hnb, hnbl⟩ := nmb_nat eb ((j : Int) + 1) (by omega)
          rw [hna] at HNA
          rw [hnb] at HNB
          have HB2 := Lib.hid b2
          have HB3 := Lib.hid b3
          have HNAL := Lib.hid hnal
          have HGL := Lib.hid hgl
          clear ea1 ea2 eb1 eb2 hna hnb hnbl hcx hbx hall hnal hgl
          go_upto_region 17 with (fail)
          have hd2 : wz.drew.cell? ⟨w.heap.size, 2, none⟩ = some (.slice (some ⟨be, oe, none⟩) en ec) := b2
          have hde1 : wz.drew.cell? ⟨be, oe + g, none⟩ = some (.int .i64 ea) := e1
          have hde2 : wz.drew.cell? ⟨be, oe + (g + 1), none⟩ = some (.int .i64 eb) := e2
          have HR0 : Hid (Rf wz (wz.alloc (.cells #[.int .i64 (na : Int), .int .i64 (nb : Int), .string ⟨#[]⟩] 40)).drew ⟨na, nb, no⟩) := Lib.hid ⟨(Cel.lit wz #[.int .i64 (na : Int), .int .i64 (nb : Int), .string ⟨#[]⟩] 40).below (Below.refl _ _).drew (Nat.le_refl _), ((Below.refl _ _).alloc (Nat.le_refl _) _).drew⟩
          go_cut [8] from 67 to 84 (fun s wx => s = .pointer (some ⟨wz.heap.size, 0, none⟩) ∧ Rf wz wx ⟨na, nb, no⟩)
          case first =>
            go_region_held3 (fun w' => w'.cell? ⟨w.heap.size, 2, none⟩ = some (.slice (some ⟨be, oe, none⟩) en ec) ∧ w'.cell? ⟨be, oe + g, none⟩ = some (.int .i64 ea) ∧ w'.cell? ⟨be, oe + (g + 1), none⟩ = some (.int .i64 eb)) (first | exact ⟨hd2, hde1, hde2⟩ | go_keep) (first
              | (go_at_call 9; (with_reducible refine (HNA.out _).mono ?_); rintro e wy ⟨rfl, rfl⟩)
              | (go_at_call 9; (with_reducible refine (HNB.out _).mono ?_); rintro e wy ⟨rfl, rfl⟩))
            all_goals
              go_wp2
              go_meet
              exact ⟨rfl, HR0.out⟩
          case rest =>
            obtain ⟨rfl, hr0⟩ := hcut
            have HR1 := Lib.hid hr0
            clear hr0 HR0 hd2 hde1 hde2 e1 e2 b2 b3 HNA HNB
            generalize wc = v1 at *
            obtain ⟨A, n, c, F, m, d, hc, hn, hf, h1, h2⟩ := HCX.out.ex
            obtain rfl : n = l.length := hn.len.symm
            obtain rfl : m = fl.length := hf.len.symm
            replace hn : OwnK Nd.κ wz (w.heap.size + 1 + 1) 48 A l.length c l := hn
            replace hf : OwnK Fl.κ wz (w.heap.size + 1 + 1) 40 F fl.length d fl := hf
            have HC0 := Lib.hid hc
            have HN0 := Lib.hid hn
            have HF0 := Lib.hid hf
            have H1 := Lib.hid h1
            have H2 := Lib.hid h2
            have hqlt := hc.lt
            have HQL := Lib.hid hqlt
            clear hc hn hf h1 h2 hqlt
            obtain ⟨⟨k0, k1, k2⟩, _⟩ := tri_facts HR1.out.fl
            obtain ⟨⟨c0, c1, c2⟩, _⟩ := tri_facts (HC0.out.below HR1.out.bel (Nat.le_refl _))
            go_upto_region 18 with (fail)
            go_cut [108] from 85 to 108 (fun s wx => (∃ B : Bool, s = .bool B) ∧ wx = v1)
            case first =>
              by_cases hlt2 : na < l.length
              · have hI : (na : Int) < (l.length : Int) := by omega
                have hI0 : (0 : Int) ≤ (na : Int) := by omega
                have hJ : (na : Int) < (j : Int) := by have := HLL.out; omega
                obtain ⟨gg, rfl, _, _⟩ := HN0.out.some_of (by omega)
                obtain ⟨y0, _⟩ := nd_at (HN0.out.row.below HR1.out.bel (Nat.le_refl _)) hlt2
                rw [Nat.zero_add] at y0
                generalize (l[na]!).kind = kd at *
                by_cases h5 : kd = 5
                · have h5B : (kd == 5) = true := by rw [beq_iff_eq]; exact h5
                  go_wp2
                  go_meet
                  exact ⟨⟨_, rfl⟩, rfl⟩
                · have h5B : (kd == 5) = false := by rw [beq_eq_false_iff_ne]; exact h5
                  go_wp2
                  go_meet
                  exact ⟨⟨_, rfl⟩, rfl⟩
              · have hJ : ¬ ((na : Int) < (j : Int)) := by have := HLL.out; omega
                go_wp2
                go_meet
                exact ⟨⟨_, rfl⟩, rfl⟩
            case rest =>
              obtain ⟨⟨B, rfl⟩, rfl⟩ := hcut
              generalize wc = v1 at *
              go_upto_if 108 with (fail)
              go_cut [8] from 109 to 114 (fun s wx => s = .pointer (some ⟨wz.heap.size, 0, none⟩) ∧ ∃ y : Fl, Rf wz wx y)
              case first =>
                cases B with
                | false =>
                  go_wp2
                  go_meet
                  exact ⟨rfl, _, HR1.out⟩
                | true =>
                  clear k0 k1 k2 c0 c1 c2
                  obtain ⟨pm, hpm⟩ : ∃ pm, pick ms g = pm := ⟨_, rfl⟩
                  have hpb := HMP.out g (by omega)
                  rw [hpm] at hpb
                  have HPK := Lib.hid (mpick_any MA mn mc ms w.heap.size (HM.out.below (HALL.out.trans (HR1.out.bel.mono HALL.out.size)) (Nat.le_refl _)) g (by omega) (w := v1))
                  rw [hpm] at HPK
                  have HCO := Lib.hid (fun W => mconds_any pm W hpb.1 hpb.2)
                  clear hpb hpm
                  have c3 := HR1.out.seed HB3.out
                  go_wp2_with fail
                  refine HPK.out.mono ?_
                  rintro e wy ⟨rfl, rfl⟩
                  go_wp2_with fail
                  refine (HCO.out _).mono ?_
                  rintro e v2 ⟨rfl, hb⟩
                  have HR2 := Lib.hid (HR1.out.grow hb)
                  clear hb c3
                  have f1 := HR2.out.fl.froz 2 (by simp [Fl.cells])
                  have k1 := HR2.out.fl.cell 2 _ rfl
                  have HR3 : Hid (Rf wz (v2.setCell ⟨wz.heap.size, 2, none⟩ (.string (bs (conds pm)))) ⟨na, nb, bs (conds pm)⟩) := Lib.hid (HR2.out.set (by decide) rfl)
                  go_wp2
                  go_meet
                  exact ⟨rfl, _, HR3.out⟩
              case rest =>
                obtain ⟨rfl, z, hrz⟩ := hcut
                clear k0 k1 k2 c0 c1 c2
                have HRZ := Lib.hid hrz
                clear hrz HR1
                generalize wc = v3 at *
                have hbz : Below wz.heap.size wz v3 := HRZ.out.bel
                have hcz := HC0.out.below hbz (Nat.le_refl _)
                obtain ⟨⟨c0, c1, c2⟩, g0, g1, g2⟩ := tri_facts hcz
                obtain ⟨⟨k0, k1, k2⟩, _⟩ := tri_facts HRZ.out.fl
                have hba : Below v3.heap.size v3 (v3.alloc (.cells #[.int .i64 z.frm, .int .i64 z.til, .string z.cond] 40)) := (Below.refl _ _).alloc (Nat.le_refl _) _
                have HR : Hid (KRow Fl.κ (v3.alloc (.cells #[.int .i64 z.frm, .int .i64 z.til, .string z.cond] 40)) (v3.heap.size + 1) (some ⟨v3.heap.size, 0, none⟩) 1 [z]) := Lib.hid (KRow.lit (κ := Fl.κ) v3 40 [z] #[.int .i64 z.frm, .int .i64 z.til, .string z.cond] rfl)
                have HCA := Lib.hid (hcz.below hba (Nat.le_refl _))
                have HNA := Lib.hid ((HN0.out.below hbz (Nat.le_refl _)).below hba (Nat.le_refl _))
                have HFA := Lib.hid ((HF0.out.below hbz (Nat.le_refl _)).below hba (Nat.le_refl _))
                have hqlt := HQL.out
                have HBA2 := Lib.hid (HBX.out.trans ((hbz.trans (hba.mono hbz.size)).mono (Nat.le_of_lt hqlt)))
                have hbase : w.heap.size + 1 + 1 ≤ (v3.alloc (.cells #[.int .i64 z.frm, .int .i64 z.til, .string z.cond] 40)).heap.size := by have := hba.size; have := hbz.size; omega
                have hfl : fl.length ≤ 1000000 := by have := HGL.out; omega
                clear hbz hcz hba
                go_wp2_with (at_builtin; refine append_k (κ := Fl.κ) rfl (.tmp 116) (.tmp 118) 23 40 i1 _ 32 Try.underlying23 hi1 hy0 hy1 hy2 rfl rfl _ (w.heap.size + 1 + 1) _ F fl.length d fl ⟨v3.heap.size, 0, none⟩ z rfl HFA.out rfl HR.out hfl (by decide) hbase ?_; intro F' d' w' ho hg; have hcw := cel_grew HCA.out hg H2.out; obtain ⟨⟨m0, m1, m2⟩, n0, n1, n2⟩ := tri_facts hcw; have HX1q := Lib.hid ho; have HX2q := Lib.hid hg; have HX3q := Lib.hid hcw; clear ho hg hcw)
                have HFIN := Lib.hid (C.flows (p := ⟨name, l, fl⟩) HCA.out HNA.out HFA.out H1.out H2.out (Nat.le_refl _) HX2q.out HX1q.out)
                have HBF := Lib.hid ((HBA2.out.trans (HX2q.out.below HFA.out.2 hbase)).setCell (p := ⟨w.heap.size + 1 + 1, 2, none⟩) (Nat.le_refl _) (.slice F' (fl.length + 1) d'))
                clear c0 c1 c2 g0 g1 g2 m0 m1 m2 n0 n1 n2 k0 k1 k2 hfl hbase hgw
                have hgw2 : IntKind.i64.wrap ((g : Int) + 2) = (g : Int) + 2 := by rw [IntKind.wrap_i64]; omega
                go_wp2_with fail
                go_roundw
                case measure => simp [intOf]; omega
                case rel => exact ⟨g + 2, fl ++ [z], by omega, by go_num, by rw [List.length_append, List.length_singleton]; have := HGL.out; omega, HFIN.out, HBF.out⟩
        · have hgI : ¬ ((g : Int) + 1 < (en : Int)) := by omega
          obtain ⟨A, n, c, F, m, d, hc, hn, hf, h1, h2⟩ := HCX.out.ex
          obtain rfl : n = l.length := hn.len.symm
          obtain rfl : m = fl.length := hf.len.symm
          have hz : Cel wz (w.heap.size + 1) [.string ⟨#[]⟩, .slice none 0 0, .slice none 0 0] := by
            have hb1 : w.heap.size + 1 < w.heap.size + 1 + 1 := Nat.lt_succ_self _
            exact Pr.Cel.low HX2.out hbx hb1
          obtain ⟨⟨c0, c1, c2⟩, _⟩ := tri_facts hc
          obtain ⟨⟨z0, z1, z2⟩, f0, f1, f2⟩ := tri_facts hz
          have hzb : Below w.heap.size w (((wz.setCell ⟨w.heap.size + 1, 0, none⟩ (.string name)).setCell ⟨w.heap.size + 1, 1, none⟩ (.slice A l.length c)).setCell ⟨w.heap.size + 1, 2, none⟩ (.slice F fl.length d)) := ((hall.setCell (p := ⟨w.heap.size + 1, 0, none⟩) (Nat.le_succ _) _).setCell (p := ⟨w.heap.size + 1, 1, none⟩) (Nat.le_succ _) _).setCell (p := ⟨w.heap.size + 1, 2, none⟩) (Nat.le_succ _) _
          have hzc := ((hz.set (i := 0) (by simp) (.string name)).set (i := 1) (by simp) (.slice A l.length c)).set (i := 2) (by simp) (.slice F fl.length d)
          have hgr := set_grown (set_grown (set_grown (World.grownBy.refl wz (some (w.heap.size + 1))) 0 (.string name)) 1 (.slice A l.length c)) 2 (.slice F fl.length d)
          have hfz := hf.kept hgr (fun a ha e => by have h3 := (hf.block ha).1; have h4 : w.heap.size + 1 = a.block := Option.some.inj e; omega)
          have HZB := Lib.hid hzb
          have HZC := Lib.hid hzc
          have HFZ := Lib.hid hfz
          have HNL := Lib.hid (show l.length ≤ 100000 by have := HLL.out; omega)
          have HFL := Lib.hid (show fl.length ≤ 100000 by omega)
          clear hc hn hf h1 h2 hz hzb hzc hgr hfz hcx hbx hall
          go_wp2
          generalize ((wz.setCell _ _).setCell _ _).setCell _ _ = we at *
          obtain ⟨⟨k0, k1, k2⟩, _⟩ := tri_facts HZC.out
          exact bodyPost_ret (v := .agg #[.string name, .slice A l.length c, .slice F fl.length d]) (by simp [results, Try.results8, go_sem, k0, k1, k2]) rfl ⟨⟨A, l.length, c, F, fl.length, d, fl, rfl, HFZ.out.row, HNL.out, HFL.out⟩, HZB.out⟩
end Pr
end Go.Proofs.Ytjdgloofdafebaa
