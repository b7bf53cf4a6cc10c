/- ProcessBounds: the walk. -/
import Derived.Test.YtjababmmcejgdaaGreatDoorYProcessBounds12
import Derived.Test.YtjababmmcejgdaaGreatDoorBeY
import Derived.Test.YtjababmmcejgdaaGreatDoorFiY
import Derived.Test.YtjababmmcejgdaaGreatDoorLmY
import Derived.Test.YtjababmmcejgdaaGreatDoorSeeY
import Derived.Test.YtjababmmcejgdaaGreatDoorYProcessBounds11
namespace Go.Proofs.YtjababmmcejgdaaGreatDoor
open Go.RowKit
open Pr
theorem seenF_nil {E : Int → Option Addr} {w : World} {v : Value} (h : SeenF E w v 0 none) : v = .nilIface := by
  generalize hc0 : (0 : Int) = c at h
  generalize hp0 : (none : Option Nat) = p at h
  cases h with
  | nil => rfl
  | bare c a h hc => exact absurd hc0.symm hc
  | at_ => cases hp0
theorem seenF_bare {E : Int → Option Addr} {w : World} {v : Value} {c : Int} (h : SeenF E w v c none) (hc : c ≠ 0) : ∃ a, v = errV a ∧ E c = some a := by
  generalize hp0 : (none : Option Nat) = p at h
  cases h with
  | nil => exact absurd rfl hc
  | bare c a h _ => exact ⟨a, rfl, h⟩
  | at_ => cases hp0
theorem nm_bang (s : ByteArray) : nm (s ++ ⟨#[33]⟩) = false := by
  unfold nm
  rw [ByteArray.toList_eq]
  have h : (s ++ (⟨#[33]⟩ : ByteArray)).data.toList = s.data.toList ++ [33] := by simp
  rw [h]
  exact Vr.name_not (k := s.data.toList.length) (by simp) (by rw [List.getElem_append_right (Nat.le_refl _)]; simp; decide)
theorem check_bang (p : P) (s : ByteArray) : check ⟨s ++ ⟨#[33]⟩, p.nodes, p.flows⟩ = (106, none) := by
  unfold check
  rw [if_pos (nm_bang s)]
theorem cel_store8 {w : World} {z : Nat} {a0 a1 a2 a3 a4 a5 a6 a7 : Value} (h : Cel w z [a0, a1, a2, a3, a4, a5, a6, a7]) (b0 b1 b2 b3 b4 b5 b6 b7 : Value) :
    Cel ((((((((w.setCell ⟨z, 0, none⟩ b0).setCell ⟨z, 1, none⟩ b1).setCell ⟨z, 2, none⟩ b2).setCell ⟨z, 3, none⟩ b3).setCell ⟨z, 4, none⟩ b4).setCell ⟨z, 5, none⟩ b5).setCell ⟨z, 6, none⟩ b6).setCell ⟨z, 7, none⟩ b7) z [b0, b1, b2, b3, b4, b5, b6, b7] :=
  (((((((h.set (i := 0) (by simp) b0).set (i := 1) (by simp) b1).set (i := 2) (by simp) b2).set (i := 3) (by simp) b3).set (i := 4) (by simp) b4).set (i := 5) (by simp) b5).set (i := 6) (by simp) b6).set (i := 7) (by simp) b7
theorem below_store8 {w0 w : World} {B z : Nat} (h : Below B w0 w) (hz : B ≤ z) (b0 b1 b2 b3 b4 b5 b6 b7 : Value) :
    Below B w0 ((((((((w.setCell ⟨z, 0, none⟩ b0).setCell ⟨z, 1, none⟩ b1).setCell ⟨z, 2, none⟩ b2).setCell ⟨z, 3, none⟩ b3).setCell ⟨z, 4, none⟩ b4).setCell ⟨z, 5, none⟩ b5).setCell ⟨z, 6, none⟩ b6).setCell ⟨z, 7, none⟩ b7) :=
  (((((((h.setCell (p := ⟨z, 0, none⟩) hz b0).setCell (p := ⟨z, 1, none⟩) hz b1).setCell (p := ⟨z, 2, none⟩) hz b2).setCell (p := ⟨z, 3, none⟩) hz b3).setCell (p := ⟨z, 4, none⟩) hz b4).setCell (p := ⟨z, 5, none⟩) hz b5).setCell (p := ⟨z, 6, none⟩) hz b6).setCell (p := ⟨z, 7, none⟩) hz b7
theorem tmod36 (x : Int) (h : 0 ≤ x) : ∃ k : Nat, k < 36 ∧ x.tmod 36 = k := ⟨(x.tmod 36).toNat, by rw [Int.tmod_eq_emod_of_nonneg h]; omega, by rw [Int.tmod_eq_emod_of_nonneg h]; omega⟩
set_option maxHeartbeats 6400000 in
set_option maxRecDepth 10000 in
theorem processBounds_walk (n : Int) (name : ByteArray) (ads : List Addr) (w : World) (hn1 : -9223372036854775808 ≤ n) (hn2 : n ≤ 9223372036854775807) (_ : name.size ≤ maxLen)
    (hE0 : Errs w 213 sents ads) (hW : CoWords w) (hT : ErrTy w) :
    Calls Tryz.prog 5 #[.int .i64 n, .string name] w fun e w' => e = .returned (.bool true) ∧ Below w.heap.size w w' := by
  have HE0 := Lib.hid hE0
  have HC' := Lib.hid (coErrs16 hE0 hW)
  have HPE := Lib.hid (prErrs16 hE0)
  have HT := Lib.hid hT
  clear hE0 hW hT
  go_enter Tryz.func5, Tryz.ntmps5
  go_wp2_with fail
  refine (first_any w).mono ?_
  rintro e w1 ⟨rfl, hb1⟩
  have HB1 := Lib.hid hb1
  clear hb1
  go_upto_if 14 with (fail)
  go_cut [0] from 15 to 17 (fun s wx => (∃ x : Int, 0 ≤ x ∧ s = .int .i64 x) ∧ wx = w1)
  case first =>
    by_cases h : n < 0
    · have e1 : IntKind.i64.wrap (n + 1) = n + 1 := by rw [IntKind.wrap_i64]; omega
      have e2 : IntKind.i64.wrap (-(n + 1)) = -(n + 1) := by rw [IntKind.wrap_i64]; omega
      go_wp2_with fail
      go_meet
      exact ⟨⟨-(n + 1), by omega, rfl⟩, rfl⟩
    · go_wp2_with fail
      go_meet
      exact ⟨⟨n, by omega, rfl⟩, rfl⟩
  case rest =>
    obtain ⟨⟨x, hx, rfl⟩, rfl⟩ := hcut
    obtain ⟨k, hk, he⟩ := tmod36 x hx
    generalize wc = w1 at *
    have hkI : (k : Int) < 36 := by omega
    by_cases hsz : 30 < name.size
    · have hszI : (name.size : Int) > 30 := by omega
      go_wp2
      go_ret
      exact ⟨rfl, HB1.out⟩
    have hszI : ¬ (name.size : Int) > 30 := by omega
    have hq := Cel.lit w1 #[.string ⟨#[114, 111, 119]⟩, .slice none 0 0, .slice none 0 0] 30
    have hbq : Below w1.heap.size w1 (w1.alloc (.cells #[.string ⟨#[114, 111, 119]⟩, .slice none 0 0, .slice none 0 0] 30)) := (Below.refl _ _).alloc (Nat.le_refl _) _
    have hC0 : C (w1.alloc (.cells #[.string ⟨#[114, 111, 119]⟩, .slice none 0 0, .slice none 0 0] 30)) w1.heap.size w1.heap.size (rowP k 0) :=
      ⟨⟨none, 0, 0, none, 0, 0, hq, ⟨by decide, World.ownsRow_nil _ _ _ _⟩, ⟨by decide, World.ownsRow_nil _ _ _ _⟩, (fun a ha => by cases ha), (fun a ha => by cases ha)⟩, Nat.le_refl _⟩
    have HC0 := Lib.hid hC0
    have HBQ := Lib.hid hbq
    clear hq hbq hC0
    obtain ⟨i0, hi0, hz0, hz1, hz2⟩ := info_parts info_node
    obtain ⟨i1, hi1, hy0, hy1, hy2⟩ := info_parts info_flow
    go_wp2_with fail
    generalize w1.alloc _ = wa at *
    go_loopw [7] (fun i wr => ∃ j : Nat, j ≤ k ∧ i = .int .i64 j ∧ C wr w1.heap.size w1.heap.size (rowP k j) ∧ Below w1.heap.size w1 wr) (fun i _ => k - (intOf i).toNat)
    case atStart => exact ⟨0, Nat.zero_le _, rfl, HC0.out, HBQ.out⟩
    case round =>
      obtain ⟨j, hj, rfl, hc, hbr⟩ := hrel
      have hj0 : (0 : Int) ≤ (j : Int) := by omega
      have HC := Lib.hid hc
      have HBR := Lib.hid hbr
      clear hc hbr HC0 HBQ
      by_cases hlt : j < k
      · have hI : (j : Int) < (k : Int) := by omega
        have hek : IntKind.i64.wrap ((k : Int) - 1) = (k : Int) - 1 := by rw [IntKind.wrap_i64]; omega
        have hq := Cel.lit wr #[.int .i64 4, .string ⟨#[116]⟩, .int .i64 0, .int .i64 1, .int .i64 (-1), .string ⟨#[]⟩, .string ⟨#[]⟩, .int .i64 (-1)] 36
        have hbq : Below wr.heap.size wr (wr.alloc (.cells #[.int .i64 4, .string ⟨#[116]⟩, .int .i64 0, .int .i64 1, .int .i64 (-1), .string ⟨#[]⟩, .string ⟨#[]⟩, .int .i64 (-1)] 36)) := (Below.refl _ _).alloc (Nat.le_refl _) _
        go_upto_if 32 with (fail)
        generalize wr.alloc _ = wb at *
        go_cut [8] from 28 to 38 (fun s wx => s = .pointer (some ⟨wr.heap.size, 0, none⟩) ∧ Cel wx wr.heap.size (Nd.cells (rowN k j)) ∧ Below wr.heap.size wr wx)
        case first =>
          have HQ := Lib.hid hq
          have HBq := Lib.hid hbq
          obtain ⟨x0, x1, x2, x3, x4, x5, x6, x7⟩ := nd_facts hq
          obtain ⟨f0, f1, f2, f3, f4, f5, f6, f7⟩ : wb.frozen? ⟨wr.heap.size, 0, none⟩ = false ∧ wb.frozen? ⟨wr.heap.size, 1, none⟩ = false ∧ wb.frozen? ⟨wr.heap.size, 2, none⟩ = false ∧ wb.frozen? ⟨wr.heap.size, 3, none⟩ = false ∧ wb.frozen? ⟨wr.heap.size, 4, none⟩ = false ∧ wb.frozen? ⟨wr.heap.size, 5, none⟩ = false ∧ wb.frozen? ⟨wr.heap.size, 6, none⟩ = false ∧ wb.frozen? ⟨wr.heap.size, 7, none⟩ = false :=
            ⟨hq.froz 0 (by simp), hq.froz 1 (by simp), hq.froz 2 (by simp), hq.froz 3 (by simp), hq.froz 4 (by simp), hq.froz 5 (by simp), hq.froz 6 (by simp), hq.froz 7 (by simp)⟩
          clear hq hbq
          by_cases h0 : j = 0
          · subst h0
            go_wp2_with fail
            go_meet
            exact ⟨rfl, cel_store8 HQ.out _ _ _ _ _ _ _ _, below_store8 HBq.out (Nat.le_refl _) _ _ _ _ _ _ _ _⟩
          · have hjB : ((j : Int) == 0) = false := by rw [beq_eq_false_iff_ne]; omega
            by_cases h1 : j + 1 = k
            · have hjE : ((j : Int) == (k : Int) - 1) = true := by rw [beq_iff_eq]; omega
              go_wp2_with fail
              go_meet
              refine ⟨rfl, ?_, below_store8 HBq.out (Nat.le_refl _) _ _ _ _ _ _ _ _⟩
              have : rowN k j = Nd.plain 2 := by unfold rowN; rw [if_neg h0, if_pos h1]
              rw [this]
              exact cel_store8 HQ.out _ _ _ _ _ _ _ _
            · have hjE : ((j : Int) == (k : Int) - 1) = false := by rw [beq_eq_false_iff_ne]; omega
              go_wp2_with fail
              go_meet
              refine ⟨rfl, ?_, HBq.out⟩
              have : rowN k j = Nd.work (bs [116]) 0 1 := by unfold rowN; rw [if_neg h0, if_neg h1]
              rw [this]
              exact HQ.out
        case rest =>
          obtain ⟨rfl, hcn, hbn⟩ := hcut
          generalize wc = wm at *
          have hcm := HC.out.below hbn (Nat.le_refl _)
          have HBM := Lib.hid (HBR.out.trans (hbn.mono HBR.out.size))
          have hqs : w1.heap.size < wr.heap.size := HC.out.lt
          have hms : wr.heap.size ≤ wm.heap.size := hbn.size
          obtain ⟨A, an, ac, F, fm, fd, hcel, hN, hF, h1, h2⟩ := hcm.ex
          obtain rfl : j = an := by rw [← hN.len]; exact (row_n k j).symm
          have hfm : fm = j - 1 := by rw [← hF.len]; exact row_m k j
          have hx8 : ({ rowN k j with dflt := (rowN k j).dflt } : Nd) = rowN k j := rfl
          have HSUC := Lib.hid (row_succ k j)
          generalize rowN k j = x at *
          have HX := Lib.hid hcn
          have hba : Below wm.heap.size wm (wm.alloc (.cells #[.int .i64 x.kind, .string x.topic, .int .i64 x.prio, .int .i64 x.retr, .int .i64 x.dflt, .string x.code, .string x.caught, .int .i64 x.tgt] 36)) := (Below.refl _ _).alloc (Nat.le_refl _) _
          have HCa := Lib.hid (hcel.below hba (Nat.le_refl _))
          have HNa := Lib.hid (hN.below hba (Nat.le_refl _))
          have HFa := Lib.hid (hF.below hba (Nat.le_refl _))
          have HBa := Lib.hid (HBM.out.trans (hba.mono HBM.out.size))
          have HR : Hid (KRow Nd.κ (wm.alloc (.cells #[.int .i64 x.kind, .string x.topic, .int .i64 x.prio, .int .i64 x.retr, .int .i64 x.dflt, .string x.code, .string x.caught, .int .i64 x.tgt] 36)) (wm.heap.size + 1) (some ⟨wm.heap.size, 0, none⟩) 1 [x]) := Lib.hid (KRow.lit (κ := Nd.κ) wm 36 [x] #[.int .i64 x.kind, .string x.topic, .int .i64 x.prio, .int .i64 x.retr, .int .i64 x.dflt, .string x.code, .string x.caught, .int .i64 x.tgt] rfl)
          have hbw : w1.heap.size ≤ (wm.alloc (.cells #[.int .i64 x.kind, .string x.topic, .int .i64 x.prio, .int .i64 x.retr, .int .i64 x.dflt, .string x.code, .string x.caught, .int .i64 x.tgt] 36)).heap.size := by simp; omega
          obtain ⟨⟨z0, z1, z2⟩, y0, y1, y2⟩ := tri_facts hcel
          obtain ⟨x0, x1, x2, x3, x4, x5, x6, x7⟩ := nd_facts hcn
          have hlow := HC.out.low
          clear hcm hcel hN hF hba hcn hbn hx8 hq hbq
          go_upto_region 19 with (at_builtin; refine append_k (κ := Nd.κ) rfl (.tmp 40) (.tmp 42) 27 36 i0 _ 88 Tryz.underlying27 hi0 hz0 hz1 hz2 rfl rfl _ w1.heap.size _ A j ac (rowP k j).nodes ⟨wm.heap.size, 0, none⟩ x rfl HNa.out rfl HR.out (by omega) (by decide) hbw ?_; intro A' c' w' ho hg; obtain ⟨⟨d0, d1, d2⟩, g0, g1, g2⟩ := tri_facts (cel_grew HCa.out hg h1))
          have HC2 := Lib.hid (C.nodes HCa.out HNa.out HFa.out h1 h2 hlow hg ho)
          have HB2 := Lib.hid ((HBa.out.trans (hg.below HNa.out.2 hbw)).setCell (p := ⟨w1.heap.size, 1, none⟩) (Nat.le_refl _) (.slice A' (j + 1) c'))
          clear ho hg z0 z1 z2 y0 y1 y2 x0 x1 x2 x3 x4 x5 x6 x7 d0 d1 d2 g0 g1 g2 HCa HNa HFa HBa HR HX HBM h1 h2 HC HBR hbw
          generalize w'.setCell _ _ = wn at *
          by_cases h0 : j = 0
          · subst h0
            go_wp2_with fail
            go_roundw
            case measure => simp [intOf]; omega
            case rel => exact ⟨1, by omega, by go_num, by rw [HSUC.out]; exact HC2.out, HB2.out⟩
          · have hjp : (j : Int) > 0 := by omega
            obtain ⟨p2, hp2⟩ : ∃ p2 : P, (⟨(rowP k j).name, (rowP k j).nodes ++ [x], (rowP k j).flows⟩ : P) = p2 := ⟨_, rfl⟩
            have HSU : Hid (rowP k (j + 1) = ⟨p2.name, p2.nodes, p2.flows ++ [⟨(j : Int) - 1, (j : Int), no⟩]⟩) := Lib.hid (by rw [HSUC.out, if_neg h0, ← hp2])
            have hpm : p2.flows.length = j - 1 := by rw [← hp2]; exact row_m k j
            have HC2 : Hid (C wn w1.heap.size w1.heap.size p2) := Lib.hid (by rw [← hp2]; exact HC2.out)
            clear hp2
            have e1 : IntKind.i64.wrap ((j : Int) - 1) = (j : Int) - 1 := by rw [IntKind.wrap_i64]; omega
            obtain ⟨A2, an, ac2, F2, fm2, fd2, hcel, hN, hF, h1, h2⟩ := HC2.out.ex
            obtain rfl : j - 1 = fm2 := by rw [← hF.len]; exact hpm.symm
            have hwn : w1.heap.size < wn.heap.size := HC2.out.lt
            have hba : Below wn.heap.size wn (wn.alloc (.cells #[.int .i64 ((j : Int) - 1), .int .i64 (j : Int), .string ⟨#[]⟩] 38)) := (Below.refl _ _).alloc (Nat.le_refl _) _
            have HCa := Lib.hid (hcel.below hba (Nat.le_refl _))
            have HNa := Lib.hid (hN.below hba (Nat.le_refl _))
            have HFa := Lib.hid (hF.below hba (Nat.le_refl _))
            have HBa := Lib.hid (HB2.out.trans (hba.mono HB2.out.size))
            have HR : Hid (KRow Fl.κ (wn.alloc (.cells #[.int .i64 ((j : Int) - 1), .int .i64 (j : Int), .string ⟨#[]⟩] 38)) (wn.heap.size + 1) (some ⟨wn.heap.size, 0, none⟩) 1 [⟨(j : Int) - 1, (j : Int), no⟩]) := Lib.hid (KRow.lit (κ := Fl.κ) wn 38 [⟨(j : Int) - 1, (j : Int), no⟩] #[.int .i64 ((j : Int) - 1), .int .i64 (j : Int), .string ⟨#[]⟩] rfl)
            have hbw : w1.heap.size ≤ (wn.alloc (.cells #[.int .i64 ((j : Int) - 1), .int .i64 (j : Int), .string ⟨#[]⟩] 38)).heap.size := by simp; omega
            obtain ⟨⟨z0, z1, z2⟩, y0, y1, y2⟩ := tri_facts hcel
            clear hcel hN hF hba
            go_wp2_with (at_builtin; refine append_k (κ := Fl.κ) rfl (.tmp 48) (.tmp 53) 28 38 i1 _ 32 Tryz.underlying28 hi1 hy0 hy1 hy2 rfl rfl _ w1.heap.size _ F2 (j - 1) fd2 p2.flows ⟨wn.heap.size, 0, none⟩ ⟨(j : Int) - 1, (j : Int), no⟩ rfl HFa.out rfl HR.out (by omega) (by decide) hbw ?_; intro F' c3 w3 ho hg; obtain ⟨⟨d0, d1, d2⟩, g0, g1, g2⟩ := tri_facts (cel_grew HCa.out hg h2))
            have HC3 := Lib.hid (C.flows HCa.out HNa.out HFa.out h1 h2 hlow hg ho)
            have HB3 := Lib.hid ((HBa.out.trans (hg.below HFa.out.2 hbw)).setCell (p := ⟨w1.heap.size, 2, none⟩) (Nat.le_refl _) (.slice F' (j - 1 + 1) c3))
            clear ho hg
            go_roundw
            case measure => simp [intOf]; omega
            case rel => exact ⟨j + 1, by omega, by go_num, by rw [HSU.out]; exact HC3.out, HB3.out⟩
      · obtain rfl : j = k := by omega
        have hI : ¬ (j : Int) < (j : Int) := by omega
        obtain ⟨A, an, ac, F, fm, fd, hcel, hN, hF, h1, h2⟩ := HC.out.ex
        obtain rfl : j = an := by rw [← hN.len]; exact (row_n j j).symm
        obtain rfl : j - 1 = fm := by rw [← hF.len]; exact (row_m j j).symm
        have HB := Lib.hid (HB1.out.trans (HBR.out.mono HB1.out.size))
        have HCH := Lib.hid (check_any HPE.out HC'.out HT.out A j ac F (j - 1) fd (rowP j j) wr HB.out hN.row hF.row (by omega) (by omega) (row_lite j j) (row_cond j j))
        have HCE := Lib.hid hcel
        have HN := Lib.hid hN
        have HF := Lib.hid hF
        have hlow := HC.out.low
        obtain ⟨⟨z0, z1, z2⟩, _⟩ := tri_facts hcel
        clear hcel hN hF
        rw [show (rowP j j).name = bs [114, 111, 119] from rfl] at z0 HCH
        go_wp2_with fail
        refine HCH.out.mono ?_
        rintro e w2 ⟨⟨ev, rfl, hev⟩, hb2⟩
        have HB2 := Lib.hid (HB.out.trans (hb2.mono HB.out.size))
        have HCE2 := Lib.hid (HCE.out.below hb2 (Nat.le_refl _))
        have HN2 := Lib.hid (HN.out.below hb2 (Nat.le_refl _))
        have HF2 := Lib.hid (HF.out.below hb2 (Nat.le_refl _))
        have hs2 := hb2.size
        clear hb2 z0 z1 z2
        by_cases hm : j < 2 ∨ 30 < j
        · rw [row_many j hm] at hev
          obtain ⟨a, rfl, ha⟩ := seenF_bare hev (by decide)
          have HIS := Lib.hid (is_any ads (errV a) 104 w2 (HE0.out.below HB2.out (Nat.le_refl _)) (seenAs_of HE0.out (.err 104 a ha (by decide))) 104)
          clear hev ha
          have hmI : (j : Int) < 2 ∨ (j : Int) > 30 ∧ ¬ (j : Int) < 2 := by omega
          clear hm
          rcases hmI with h | ⟨h, h'⟩
          · go_wp2_with fail
            refine HIS.out.mono ?_
            rintro e w3 ⟨rfl, hb3⟩
            have HB3 := Lib.hid (HB2.out.trans (hb3.mono HB2.out.size))
            clear hb3
            go_wp2
            go_ret
            exact ⟨rfl, HB3.out⟩
          · go_wp2_with fail
            refine HIS.out.mono ?_
            rintro e w3 ⟨rfl, hb3⟩
            have HB3 := Lib.hid (HB2.out.trans (hb3.mono HB2.out.size))
            clear hb3
            go_wp2
            go_ret
            exact ⟨rfl, HB3.out⟩
        · have r1 : ¬ (j : Int) < 2 := by omega
          have r2 : ¬ (j : Int) > 30 := by omega
          rw [row_check j (by omega) (by omega)] at hev
          obtain rfl : ev = .nilIface := seenF_nil hev
          obtain ⟨⟨z0, z1, z2⟩, y0, y1, y2⟩ := tri_facts HCE2.out
          clear hev hm
          have hset : w2.grownBy (w2.setCell ⟨w1.heap.size, 0, none⟩ (.string (name ++ ⟨#[33]⟩))) (some w1.heap.size) := grown_setCell w2 ⟨w1.heap.size, 0, none⟩ _
          have HCE3 := Lib.hid (HCE2.out.set (i := 0) (by simp) (.string (name ++ ⟨#[33]⟩)))
          have HN3 := Lib.hid (HN2.out.kept hset (fun a ha e => h1 a ha (Option.some.inj e).symm))
          have HF3 := Lib.hid (HF2.out.kept hset (fun a ha e => h2 a ha (Option.some.inj e).symm))
          have HB3 := Lib.hid (HB2.out.setCell (p := ⟨w1.heap.size, 0, none⟩) HB1.out.size (.string (name ++ ⟨#[33]⟩)))
          have hszp : (name ++ (⟨#[33]⟩ : ByteArray)).size ≤ 9223372036854775807 := by
            rw [ByteArray.size_append]
            show name.size + 1 ≤ _
            omega
          clear hset
          go_upto_region 25 with (fail)
          clear z0 z1 z2 y0 y1 y2
          generalize hps : name ++ (⟨#[33]⟩ : ByteArray) = nb at *
          generalize w2.setCell _ _ = w3 at *
          have hck : check ⟨nb, (rowP j j).nodes, (rowP j j).flows⟩ = (106, none) := by rw [← hps]; exact check_bang _ _
          have hl : Lite ⟨nb, (rowP j j).nodes, (rowP j j).flows⟩ := ⟨hszp, (row_lite j j).nodes, (row_lite j j).flows⟩
          have HCH3 := Lib.hid (check_any HPE.out HC'.out HT.out A j ac F (j - 1) fd ⟨nb, (rowP j j).nodes, (rowP j j).flows⟩ w3 HB3.out HN3.out.row HF3.out.row (by omega) (by omega) hl (row_cond j j))
          rw [hck] at HCH3
          obtain ⟨⟨z0, z1, z2⟩, _⟩ := tri_facts HCE3.out
          clear hck hl hps hszp HCH
          go_wp2_with fail
          refine HCH3.out.mono ?_
          rintro e w4 ⟨⟨ev, rfl, hev⟩, hb4⟩
          have HB4 := Lib.hid (HB3.out.trans (hb4.mono HB3.out.size))
          obtain ⟨a, rfl, ha⟩ := seenF_bare hev (by decide)
          have HIS := Lib.hid (is_any ads (errV a) 106 w4 (HE0.out.below HB4.out (Nat.le_refl _)) (seenAs_of HE0.out (.err 106 a ha (by decide))) 106)
          clear hev ha hb4 z0 z1 z2 HCH3
          go_wp2_with fail
          refine HIS.out.mono ?_
          rintro e w5 ⟨rfl, hb5⟩
          have HB5 := Lib.hid (HB4.out.trans (hb5.mono HB4.out.size))
          clear hb5
          have HLI := Lib.hid (fun W => mlight_any ⟨⟨#[]⟩, none, 0, 0, none, 0, 0, none, 0, 0, [], [], []⟩ W)
          go_wp2_with fail
          refine (HLI.out _).mono ?_
          rintro e w6 ⟨rfl, hb6⟩
          have HB6 := Lib.hid (HB5.out.trans (hb6.mono HB5.out.size))
          clear hb6
          rw [show light ⟨⟨#[]⟩, none, 0, 0, none, 0, 0, none, 0, 0, [], [], []⟩ = true from by decide]
          go_wp2
          go_ret
          exact ⟨rfl, HB6.out⟩
end Go.Proofs.YtjababmmcejgdaaGreatDoor
