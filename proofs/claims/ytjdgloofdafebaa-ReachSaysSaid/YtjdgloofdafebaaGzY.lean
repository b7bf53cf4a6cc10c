/- Walks of leaseholdmake: the number that is picked; a process that may be, out of few numbers. -/
import Derived.Test.YtjdgloofdafebaaGyY
import Derived.Test.YtjdgloofdafebaaGcY
namespace Go.Proofs.Ytjdgloofdafebaa
open Go.RowKit

namespace Pr
theorem pieces_stop (rings : Bool) (ks ms : List Int) (i : Nat) (h : ¬ (pieces rings ks ms i).1.n < 22) : ∀ d, pieces rings ks ms (i + d) = pieces rings ks ms i
  | 0 => rfl
  | d + 1 => by
    have ih := pieces_stop rings ks ms i h d
    show (let r := pieces rings ks ms (i + d); if r.1.n < 22 then _ else r) = _
    simp only [ih]
    rw [if_neg h]
def iv (k : Int) : Value := .int .i64 k
section
variable {w : World}
set_option maxHeartbeats 800000 in
theorem mpick_any (A : Option Addr) (n c : Nat) (ks : List Int) (B : Nat) (hr : Row w B A n (ks.map iv)) (i : Nat) (hi : i ≤ 1000) :
    Calls Try.prog 22 #[.slice A n c, .int .i64 i] w fun e w' => e = .returned (.int .i64 (pick ks i)) ∧ w = w' := by
  have hl : ks.length = n := by simpa using hr.len
  unfold pick
  have hi0 : (0 : Int) ≤ (i : Int) := by omega
  by_cases hlt : i < n
  · obtain ⟨b, off, rfl, _, hc⟩ := hr.at_ hlt
    rw [List.getElem_map] at hc
    have e : ks[i]! = ks[i]'(by rw [hl]; exact hlt) := getElem!_pos ks i (by rw [hl]; exact hlt)
    rw [if_pos (by rw [hl]; exact hlt), e]
    generalize ks[i]'(by rw [hl]; exact hlt) = x at *
    unfold iv at hc
    have hI : (i : Int) < (n : Int) := by omega
    clear e hr
    go_enter Try.func22, Try.ntmps22
    go_wp2
    go_ret
    exact ⟨rfl, rfl⟩
  · rw [if_neg (by rw [hl]; exact hlt)]
    have hI : ¬ (i : Int) < (n : Int) := by omega
    clear hr
    go_enter Try.func22, Try.ntmps22
    go_wp2
    go_ret
    exact ⟨rfl, rfl⟩
theorem piece_work {rings : Bool} {kd m : Int} {p : P} {at_ : Nat} (h : nmb kd 7 ≤ 2 ∨ (nmb kd 7 = 6 ∧ rings = false)) : piece rings kd m p at_ = work p at_ m := by
  unfold piece
  simp only []
  rcases h with h | ⟨h, rfl⟩
  · rw [if_pos h]
  · rw [h]; rfl
theorem piece_parts {rings : Bool} {kd m : Int} {p : P} {at_ : Nat} (k : Int) (h : nmb kd 7 = k) (hk : k = 3 ∨ k = 4 ∨ k = 5) : piece rings kd m p at_ = parts p at_ m (k + 2) (k + 2) := by
  unfold piece
  simp only []
  rcases hk with rfl | rfl | rfl <;> rw [h] <;> rfl
theorem piece_loop {kd m : Int} {p : P} {at_ : Nat} (h : nmb kd 7 = 6) : piece true kd m p at_ = loop p at_ m := by
  unfold piece
  simp only []
  rw [h]; rfl
theorem four_new (w : World) (o1 o2 o3 o4 : Obj) : ((((w.alloc o1).alloc o2).alloc o3).alloc o4).heap[w.heap.size]? = some o1 ∧ ((((w.alloc o1).alloc o2).alloc o3).alloc o4).heap[w.heap.size + 1]? = some o2 ∧
    ((((w.alloc o1).alloc o2).alloc o3).alloc o4).heap[w.heap.size + 1 + 1]? = some o3 ∧ ((((w.alloc o1).alloc o2).alloc o3).alloc o4).heap[w.heap.size + 1 + 1 + 1]? = some o4 := by
  obtain ⟨h1, h2, h3⟩ := three_new w o1 o2 o3
  have s3 : (((w.alloc o1).alloc o2).alloc o3).heap.size = w.heap.size + 1 + 1 + 1 := by simp
  have h4 := heap_alloc_new (((w.alloc o1).alloc o2).alloc o3) o4
  rw [s3] at h4
  have b4 : Below (((w.alloc o1).alloc o2).alloc o3).heap.size (((w.alloc o1).alloc o2).alloc o3) ((((w.alloc o1).alloc o2).alloc o3).alloc o4) := (Below.refl _ _).alloc (Nat.le_refl _) o4
  exact ⟨(b4.block _ (by omega)).trans h1, (b4.block _ (by omega)).trans h2, (b4.block _ (by omega)).trans h3, h4⟩
theorem cel_of {w : World} {b : Nat} {cs : Array Value} {T : TypeId} (h : w.heap[b]? = some (.cells cs T (0, 0))) : Cel w b cs.toList := by
  refine ⟨fun i v hi => ?_, fun i _ => ?_, blk_lt h⟩
  · rw [cell_of_row w b i cs T (0, 0) h]; simpa using hi
  · unfold World.frozen?; rw [h]; rfl
theorem C.cell1 {w : World} {base q : Nat} {p : P} (h : C w base q p) : ∃ (A : Option Addr) (c : Nat), w.cell? ⟨q, 1, none⟩ = some (.slice A p.n c) := by
  obtain ⟨A, n, c, F, m, d, hc, hn, _⟩ := h.ex
  obtain rfl : p.n = n := hn.len
  exact ⟨A, c, hc.cell 1 _ rfl⟩
theorem Cel.low {w w' : World} {b B : Nat} {cs : List Value} (h : Cel w b cs) (hb : Below B w w') (hB : b < B) : Cel w' b cs :=
  ⟨fun i v hi => (hb.cell (p := ⟨b, i, none⟩) hB).trans (h.cell i v hi), fun i hi => (hb.frozen (p := ⟨b, i, none⟩) hB).trans (h.froz i hi), Nat.lt_of_lt_of_le h.lt hb.size⟩
/-- The row of the one node that stands first. -/
theorem own_lit {w : World} {g : Nat} (h : w.heap[g]? = some (.cells #[.int .i64 1, .string ⟨#[]⟩, .int .i64 0, .int .i64 0, .int .i64 (-1), .string ⟨#[]⟩, .string ⟨#[]⟩, .int .i64 (-1)] 48 (0, 0))) {base : Nat} (hb : base ≤ g) :
    OwnK Nd.κ w base 48 (some ⟨g, 0, none⟩) 1 1 [Nd.plain 1] :=
  ⟨by decide, rfl, .inr ⟨g, 1, _, rfl, hb, h, by decide, by unfold maxLen; decide, rfl, rfl⟩⟩
set_option maxHeartbeats 3200000 in
set_option maxRecDepth 10000 in
theorem mgood_any (name : ByteArray) (KA : Option Addr) (kn kc : Nat) (EA : Option Addr) (en ec : Nat) (MA : Option Addr) (mn mc : Nat) (ks ms : List Int) (rings : Bool)
    (hk : Row w w.heap.size KA kn (ks.map iv)) (hm : Row w w.heap.size MA mn (ms.map iv)) (hkb : ∀ k ∈ ks, -9223372036854775808 ≤ k ∧ k ≤ 9223372036854775807) (hmb : ∀ k ∈ ms, -9223372036854775808 ≤ k ∧ k ≤ 9223372036854775807) (hkn : kn ≤ 1000) :
    Calls Try.prog 10 #[.agg #[.string name, .slice KA kn kc, .slice EA en ec, .slice MA mn mc], .bool rings] w fun e w' =>
      (∃ (A : Option Addr) (n c : Nat) (F : Option Addr) (m d : Nat), e = .returned (.agg #[.string (bs [112]), .slice A n c, .slice F m d]) ∧ OwnK Nd.κ w' w.heap.size 48 A n c (good ks ms rings).nodes ∧ OwnK Fl.κ w' w.heap.size 40 F m d (good ks ms rings).flows) ∧ Below w.heap.size w w' := by
  have hkl : ks.length = kn := by simpa using hk.len
  have HK := Lib.hid hk
  have HM := Lib.hid hm
  have HKB := Lib.hid hkb
  have HMB := Lib.hid hmb
  have HST := Lib.hid (fun i => pieces_st rings ks ms i)
  clear hk hm hkb hmb
  go_enter Try.func10, Try.ntmps10
  go_wp2_with fail
  have hq := four_new w (.cells #[.string name, .slice KA kn kc, .slice EA en ec, .slice MA mn mc] 28) (.cells #[.string ⟨#[]⟩, .slice none 0 0, .slice none 0 0] 25)
    (.cells #[.int .i64 1, .string ⟨#[]⟩, .int .i64 0, .int .i64 0, .int .i64 (-1), .string ⟨#[]⟩, .string ⟨#[]⟩, .int .i64 (-1)] 48) (.cells #[.string ⟨#[112]⟩, .slice (some ⟨w.heap.size + 1 + 1, 0, none⟩) 1 1, .slice none 0 0] 25)
  have hbA : Below w.heap.size w ((((w.alloc (.cells #[.string name, .slice KA kn kc, .slice EA en ec, .slice MA mn mc] 28)).alloc (.cells #[.string ⟨#[]⟩, .slice none 0 0, .slice none 0 0] 25)).alloc
    (.cells #[.int .i64 1, .string ⟨#[]⟩, .int .i64 0, .int .i64 0, .int .i64 (-1), .string ⟨#[]⟩, .string ⟨#[]⟩, .int .i64 (-1)] 48)).alloc (.cells #[.string ⟨#[112]⟩, .slice (some ⟨w.heap.size + 1 + 1, 0, none⟩) 1 1, .slice none 0 0] 25)) := (below3 _ _ _ _).alloc (by simp; omega) _
  generalize (((w.alloc _).alloc _).alloc _).alloc _ = wb at *
  obtain ⟨q1, q2, q3, q4⟩ := hq
  have x1 := cel_of q1
  have x2 := cel_of q2
  have hC0 : C wb (w.heap.size + 1 + 1) (w.heap.size + 1 + 1 + 1) ⟨bs [112], [Nd.plain 1], []⟩ :=
    ⟨⟨some ⟨w.heap.size + 1 + 1, 0, none⟩, 1, 1, none, 0, 0, cel_of q4, own_lit q3 (Nat.le_refl _), ⟨by decide, World.ownsRow_nil _ _ _ _⟩, fun a ha => by obtain rfl := Option.some.inj ha; simp, fun a ha => by cases ha⟩, by omega⟩
  have HC0 := Lib.hid hC0
  have HX1 := Lib.hid x1
  have HX2 := Lib.hid x2
  have HBA := Lib.hid hbA
  have hsz : w.heap.size + 1 + 1 ≤ wb.heap.size := Nat.le_of_lt (blk_lt q3)
  clear q1 q2 q3 q4 x1 x2 hC0 hbA
  go_loopw [6, 7] (fun at_ i wr => ∃ j : Nat, j ≤ kn ∧ at_ = .int .i64 ((pieces rings ks ms j).2 : Int) ∧ i = .int .i64 j ∧ C wr (w.heap.size + 1 + 1) (w.heap.size + 1 + 1 + 1) (pieces rings ks ms j).1 ∧ Below (w.heap.size + 1 + 1) wb wr) (fun _ i _ => kn - (intOf i).toNat)
  case atStart => exact ⟨0, Nat.zero_le _, rfl, rfl, HC0.out, Below.refl _ _⟩
  case round =>
    obtain ⟨j, hj, rfl, rfl, hcr, hbr⟩ := hrel
    clear HC0
    obtain ⟨A1, c1, a1⟩ := hcr.cell1
    have b1 : wr.cell? ⟨w.heap.size, 1, none⟩ = some (.slice KA kn kc) := (hbr.cell (p := ⟨w.heap.size, 1, none⟩) (by show w.heap.size < _; omega)).trans (HX1.out.cell 1 _ rfl)
    have b3 : wr.cell? ⟨w.heap.size, 3, none⟩ = some (.slice MA mn mc) := (hbr.cell (p := ⟨w.heap.size, 3, none⟩) (by show w.heap.size < _; omega)).trans (HX1.out.cell 3 _ rfl)
    have hst := HST.out j
    have hnx : pieces rings ks ms (j + 1) = if (pieces rings ks ms j).1.n < 22 then piece rings ks[j]! (pick ms j) (pieces rings ks ms j).1 (pieces rings ks ms j).2 else pieces rings ks ms j := rfl
    have hstop := pieces_stop rings ks ms j
    have hlast : j = kn → pieces rings ks ms ks.length = pieces rings ks ms j := fun e => by rw [hkl, e]
    have hgood : good ks ms rings = ((pieces rings ks ms ks.length).1.node (Nd.plain 2)).join (pieces rings ks ms ks.length).2 (pieces rings ks ms ks.length).1.n no := rfl
    generalize hpj : pieces rings ks ms j = pr at *
    obtain ⟨p, at_⟩ := pr
    dsimp only at *
    obtain ⟨hs1, hs2, hs3, hs4⟩ := hst
    have hall : Below w.heap.size w wr := HBA.out.trans (hbr.mono (by omega))
    clear hs1
    by_cases hgo : j < kn ∧ p.n < 22
    · obtain ⟨hlt, h22⟩ := hgo
      rw [if_pos h22] at hnx
      have hjI : (j : Int) < (kn : Int) := by omega
      have h22I : (p.n : Int) < 22 := by omega
      have hj0 : (0 : Int) ≤ (j : Int) := by omega
      have HPK := Lib.hid (mpick_any MA mn mc ms w.heap.size (HM.out.below hall (Nat.le_refl _)) j (by omega))
      obtain ⟨bk, ok, rfl, _, hc⟩ := (HK.out.below hall (Nat.le_refl _)).at_ hlt
      rw [List.getElem_map] at hc
      have hkm : ks[j]'(by omega) ∈ ks := List.getElem_mem _
      have ekd : ks[j]! = ks[j]'(by omega) := getElem!_pos ks j (by omega)
      have hmm : -9223372036854775808 ≤ pick ms j ∧ pick ms j ≤ 9223372036854775807 := by
        unfold pick
        split
        · rename_i h0
          rw [getElem!_pos ms j h0]
          exact HMB.out _ (List.getElem_mem _)
        · omega
      obtain ⟨kd1, kd2⟩ := HKB.out _ hkm
      rw [ekd] at hnx
      generalize ks[j]'(by omega) = kd at *
      generalize pick ms j = mm at *
      unfold iv at hc
      have NK := Lib.hid (fun W => mnumber_any kd 7 W (by decide) kd1 kd2 (by decide))
      obtain ⟨k7, hk7, hk7'⟩ := nmb_nat kd 7 (by decide)
      rw [hk7] at NK
      have HK7 := Lib.hid hk7
      have HMM := Lib.hid hmm
      have HN := Lib.hid hnx
      have HCR := Lib.hid hcr
      have HBR := Lib.hid hbr
      clear hk7 hmm hnx hcr hbr hkm ekd kd1 kd2 hstop hlast hgood hall HM HK HX2 HBA HST HKB HMB
      go_wp2_with fail
      refine HPK.out.mono ?_
      rintro e w2 ⟨rfl, rfl⟩
      go_wp2_with fail
      refine (NK.out _).mono ?_
      rintro e w3 ⟨rfl, rfl⟩
      clear HPK NK
      have e7 : k7 = 0 ∨ k7 = 1 ∨ k7 = 2 ∨ k7 = 3 ∨ k7 = 4 ∨ k7 = 5 ∨ k7 = 6 := by omega
      rcases e7 with rfl | rfl | rfl | rfl | rfl | rfl | rfl
      · go_wp2_with fail
        refine (mwork_any at_ mm HCR.out (by omega) (by omega) HMM.out.1 HMM.out.2).mono ?_
        rintro e w5 ⟨rfl, hc5, hb5⟩
        have HC5 := Lib.hid hc5
        have HB5 := Lib.hid (HBR.out.trans hb5)
        have HE := Lib.hid (HN.out.trans (piece_work (.inl (by rw [HK7.out]; decide))))
        clear hc5 hb5
        go_wp2_with fail
        go_roundw
        case measure => simp [intOf]; omega
        case rel => exact ⟨j + 1, by omega, by rw [HE.out]; first | done | rfl, by go_num, by rw [HE.out]; exact HC5.out, HB5.out⟩
      · go_wp2_with fail
        refine (mwork_any at_ mm HCR.out (by omega) (by omega) HMM.out.1 HMM.out.2).mono ?_
        rintro e w5 ⟨rfl, hc5, hb5⟩
        have HC5 := Lib.hid hc5
        have HB5 := Lib.hid (HBR.out.trans hb5)
        have HE := Lib.hid (HN.out.trans (piece_work (.inl (by rw [HK7.out]; decide))))
        clear hc5 hb5
        go_wp2_with fail
        go_roundw
        case measure => simp [intOf]; omega
        case rel => exact ⟨j + 1, by omega, by rw [HE.out]; first | done | rfl, by go_num, by rw [HE.out]; exact HC5.out, HB5.out⟩
      · go_wp2_with fail
        refine (mwork_any at_ mm HCR.out (by omega) (by omega) HMM.out.1 HMM.out.2).mono ?_
        rintro e w5 ⟨rfl, hc5, hb5⟩
        have HC5 := Lib.hid hc5
        have HB5 := Lib.hid (HBR.out.trans hb5)
        have HE := Lib.hid (HN.out.trans (piece_work (.inl (by rw [HK7.out]; decide))))
        clear hc5 hb5
        go_wp2_with fail
        go_roundw
        case measure => simp [intOf]; omega
        case rel => exact ⟨j + 1, by omega, by rw [HE.out]; first | done | rfl, by go_num, by rw [HE.out]; exact HC5.out, HB5.out⟩
      · go_wp2_with fail
        refine (mparts_any at_ mm 5 5 HCR.out (by omega) (by omega) HMM.out.1 HMM.out.2).mono ?_
        rintro e w5 ⟨rfl, hc5, hb5⟩
        have HC5 := Lib.hid hc5
        have HB5 := Lib.hid (HBR.out.trans hb5)
        have HE := Lib.hid (HN.out.trans (piece_parts 3 HK7.out (by decide)))
        clear hc5 hb5
        go_wp2_with fail
        go_roundw
        case measure => simp [intOf]; omega
        case rel => exact ⟨j + 1, by omega, by rw [HE.out]; first | done | rfl, by go_num, by rw [HE.out]; exact HC5.out, HB5.out⟩
      · go_wp2_with fail
        refine (mparts_any at_ mm 6 6 HCR.out (by omega) (by omega) HMM.out.1 HMM.out.2).mono ?_
        rintro e w5 ⟨rfl, hc5, hb5⟩
        have HC5 := Lib.hid hc5
        have HB5 := Lib.hid (HBR.out.trans hb5)
        have HE := Lib.hid (HN.out.trans (piece_parts 4 HK7.out (by decide)))
        clear hc5 hb5
        go_wp2_with fail
        go_roundw
        case measure => simp [intOf]; omega
        case rel => exact ⟨j + 1, by omega, by rw [HE.out]; first | done | rfl, by go_num, by rw [HE.out]; exact HC5.out, HB5.out⟩
      · go_wp2_with fail
        refine (mparts_any at_ mm 7 7 HCR.out (by omega) (by omega) HMM.out.1 HMM.out.2).mono ?_
        rintro e w5 ⟨rfl, hc5, hb5⟩
        have HC5 := Lib.hid hc5
        have HB5 := Lib.hid (HBR.out.trans hb5)
        have HE := Lib.hid (HN.out.trans (piece_parts 5 HK7.out (by decide)))
        clear hc5 hb5
        go_wp2_with fail
        go_roundw
        case measure => simp [intOf]; omega
        case rel => exact ⟨j + 1, by omega, by rw [HE.out]; first | done | rfl, by go_num, by rw [HE.out]; exact HC5.out, HB5.out⟩
      · cases rings
        · go_wp2_with fail
          refine (mwork_any at_ mm HCR.out (by omega) (by omega) HMM.out.1 HMM.out.2).mono ?_
          rintro e w5 ⟨rfl, hc5, hb5⟩
          have HC5 := Lib.hid hc5
          have HB5 := Lib.hid (HBR.out.trans hb5)
          have HE := Lib.hid (HN.out.trans (piece_work (.inr ⟨HK7.out, rfl⟩)))
          clear hc5 hb5
          go_wp2_with fail
          go_roundw
          case measure => simp [intOf]; omega
          case rel => exact ⟨j + 1, by omega, by rw [HE.out]; first | done | rfl, by go_num, by rw [HE.out]; exact HC5.out, HB5.out⟩
        · go_wp2_with fail
          refine (mloop_any at_ mm HCR.out (by omega) (by omega) HMM.out.1 HMM.out.2).mono ?_
          rintro e w5 ⟨rfl, hc5, hb5⟩
          have HC5 := Lib.hid hc5
          have HB5 := Lib.hid (HBR.out.trans hb5)
          have HE := Lib.hid (HN.out.trans (piece_loop HK7.out))
          clear hc5 hb5
          go_wp2_with fail
          go_roundw
          case measure => simp [intOf]; omega
          case rel => exact ⟨j + 1, by omega, by rw [HE.out]; first | done | rfl, by go_num, by rw [HE.out]; exact HC5.out, HB5.out⟩
    · have hpe : pieces rings ks ms ks.length = (p, at_) := by
        by_cases e : j = kn
        · exact hlast e
        · have h1 := hstop (by omega) (ks.length - j)
          rwa [show j + (ks.length - j) = ks.length from by omega] at h1
      rw [hpe] at hgood
      have HG := Lib.hid hgood
      have HCR := Lib.hid hcr
      have HBR := Lib.hid hbr
      clear hpe hgood hcr hbr hstop hlast hnx hall HK HM HKB HMB HST
      by_cases hlt : j < kn
      · have hjI : (j : Int) < (kn : Int) := by omega
        have h22I : ¬ (p.n : Int) < 22 := by omega
        clear hgo hlt
        go_wp2_with fail
        refine (mplain_any 2 HCR.out (by omega)).mono ?_
        rintro e w5 ⟨rfl, hc5, hb5⟩
        have HB5 := Lib.hid (HBR.out.trans hb5)
        have HC5 := Lib.hid hc5
        clear hc5 hb5 HBR HCR
        go_wp2_with fail
        refine (mjoin_any (at_ : Int) (p.n : Int) no HC5.out (by rw [node_m]; omega)).mono ?_
        rintro e w6 ⟨rfl, hc6, hb6, -⟩
        have hb6c := HB5.out.trans hb6
        rw [← HG.out] at hc6
        obtain ⟨A, n, c, F, m, d, hc, hn, hf, h1, h2⟩ := hc6.ex
        have hnm : (good ks ms rings).name = bs [112] := by rw [HG.out]; exact hs4
        rw [hnm] at hc
        have hy := Cel.low HX2.out hb6c (by omega)
        have hz := ((hy.set (i := 0) (by simp) (.string (bs [112]))).set (i := 1) (by simp) (.slice A n c)).set (i := 2) (by simp) (.slice F m d)
        have hbz : Below w.heap.size w (((w6.setCell ⟨w.heap.size + 1, 0, none⟩ (.string (bs [112]))).setCell ⟨w.heap.size + 1, 1, none⟩ (.slice A n c)).setCell ⟨w.heap.size + 1, 2, none⟩ (.slice F m d)) :=
          (((HBA.out.trans (hb6c.mono (by omega))).setCell (p := ⟨w.heap.size + 1, 0, none⟩) (Nat.le_succ _) _).setCell (p := ⟨w.heap.size + 1, 1, none⟩) (Nat.le_succ _) _).setCell (p := ⟨w.heap.size + 1, 2, none⟩) (Nat.le_succ _) _
        have hgr : w6.grownBy (((w6.setCell ⟨w.heap.size + 1, 0, none⟩ (.string (bs [112]))).setCell ⟨w.heap.size + 1, 1, none⟩ (.slice A n c)).setCell ⟨w.heap.size + 1, 2, none⟩ (.slice F m d)) (some (w.heap.size + 1)) :=
          set_grown (set_grown (set_grown (World.grownBy.refl _ _) 0 _) 1 _) 2 _
        have HN6 := Lib.hid ((hn.kept hgr fun a ha e => by have := (hn.block ha).1; have := Option.some.inj e; omega).lower (base' := w.heap.size) (by omega))
        have HF6 := Lib.hid ((hf.kept hgr fun a ha e => by have := (hf.block ha).1; have := Option.some.inj e; omega).lower (base' := w.heap.size) (by omega))
        have HZ := Lib.hid hz
        have HBZ := Lib.hid hbz
        obtain ⟨⟨y0, y1, y2⟩, z0, z1, z2⟩ := tri_facts hy
        obtain ⟨⟨t0, t1, t2⟩, _⟩ := tri_facts hc
        clear hc6 hc hn hf h1 h2 hy hz hbz hgr hb6c HB5 HC5 hb6
        unfold bs at *
        go_wp2
        generalize ((w6.setCell _ _).setCell _ _).setCell _ _ = wf at *
        obtain ⟨⟨v0, v1, v2⟩, _⟩ := tri_facts HZ.out
        exact bodyPost_ret (v := .agg #[.string ⟨#[112]⟩, .slice A n c, .slice F m d]) (by simp [results, Try.results10, go_sem, v0, v1, v2]) rfl ⟨⟨A, n, c, F, m, d, rfl, HN6.out, HF6.out⟩, HBZ.out⟩
      · have hjI : ¬ (j : Int) < (kn : Int) := by omega
        clear hgo hlt
        go_wp2_with fail
        refine (mplain_any 2 HCR.out (by omega)).mono ?_
        rintro e w5 ⟨rfl, hc5, hb5⟩
        have HB5 := Lib.hid (HBR.out.trans hb5)
        have HC5 := Lib.hid hc5
        clear hc5 hb5 HBR HCR
        go_wp2_with fail
        refine (mjoin_any (at_ : Int) (p.n : Int) no HC5.out (by rw [node_m]; omega)).mono ?_
        rintro e w6 ⟨rfl, hc6, hb6, -⟩
        have hb6c := HB5.out.trans hb6
        rw [← HG.out] at hc6
        obtain ⟨A, n, c, F, m, d, hc, hn, hf, h1, h2⟩ := hc6.ex
        have hnm : (good ks ms rings).name = bs [112] := by rw [HG.out]; exact hs4
        rw [hnm] at hc
        have hy := Cel.low HX2.out hb6c (by omega)
        have hz := ((hy.set (i := 0) (by simp) (.string (bs [112]))).set (i := 1) (by simp) (.slice A n c)).set (i := 2) (by simp) (.slice F m d)
        have hbz : Below w.heap.size w (((w6.setCell ⟨w.heap.size + 1, 0, none⟩ (.string (bs [112]))).setCell ⟨w.heap.size + 1, 1, none⟩ (.slice A n c)).setCell ⟨w.heap.size + 1, 2, none⟩ (.slice F m d)) :=
          (((HBA.out.trans (hb6c.mono (by omega))).setCell (p := ⟨w.heap.size + 1, 0, none⟩) (Nat.le_succ _) _).setCell (p := ⟨w.heap.size + 1, 1, none⟩) (Nat.le_succ _) _).setCell (p := ⟨w.heap.size + 1, 2, none⟩) (Nat.le_succ _) _
        have hgr : w6.grownBy (((w6.setCell ⟨w.heap.size + 1, 0, none⟩ (.string (bs [112]))).setCell ⟨w.heap.size + 1, 1, none⟩ (.slice A n c)).setCell ⟨w.heap.size + 1, 2, none⟩ (.slice F m d)) (some (w.heap.size + 1)) :=
          set_grown (set_grown (set_grown (World.grownBy.refl _ _) 0 _) 1 _) 2 _
        have HN6 := Lib.hid ((hn.kept hgr fun a ha e => by have := (hn.block ha).1; have := Option.some.inj e; omega).lower (base' := w.heap.size) (by omega))
        have HF6 := Lib.hid ((hf.kept hgr fun a ha e => by have := (hf.block ha).1; have := Option.some.inj e; omega).lower (base' := w.heap.size) (by omega))
        have HZ := Lib.hid hz
        have HBZ := Lib.hid hbz
        obtain ⟨⟨y0, y1, y2⟩, z0, z1, z2⟩ := tri_facts hy
        obtain ⟨⟨t0, t1, t2⟩, _⟩ := tri_facts hc
        clear hc6 hc hn hf h1 h2 hy hz hbz hgr hb6c HB5 HC5 hb6
        unfold bs at *
        go_wp2
        generalize ((w6.setCell _ _).setCell _ _).setCell _ _ = wf at *
        obtain ⟨⟨v0, v1, v2⟩, _⟩ := tri_facts HZ.out
        exact bodyPost_ret (v := .agg #[.string ⟨#[112]⟩, .slice A n c, .slice F m d]) (by simp [results, Try.results10, go_sem, v0, v1, v2]) rfl ⟨⟨A, n, c, F, m, d, rfl, HN6.out, HF6.out⟩, HBZ.out⟩
end
end Pr
end Go.Proofs.Ytjdgloofdafebaa
