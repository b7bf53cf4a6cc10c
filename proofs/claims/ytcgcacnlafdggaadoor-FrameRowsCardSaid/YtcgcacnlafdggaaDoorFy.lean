/- The walk of FrameRows. -/
import Derived.Test.YtcgcacnlafdggaaDoorFz
import Derived.Test.YtcgcacnlafdggaaDoorSame
import Derived.Test.YtcgcacnlafdggaaDoorOpb
import Derived.Deep.CutBlock
import Derived.Deep.CutRange
namespace Go.Proofs.YtcgcacnlafdggaaDoor
open Go.RowKit

theorem Fr.row_snoc : ∀ (l : List (List UInt8)) (i : Nat) (b : List UInt8), Fr.row i (l ++ [b]) = Fr.row i l ++ Fr.put (UInt8.ofNat (i + l.length)) b
  | [], i, b => by simp [Fr.row]
  | a :: l, i, b => by
    simp only [List.cons_append, Fr.row, Fr.row_snoc l (i + 1) b, List.append_assoc, List.length_cons]
    rw [show i + 1 + l.length = i + (l.length + 1) from by omega]
/-- The bodies of the parts. -/
def bodies (ps : List Part) : List (List UInt8) := ps.map (·.l)
theorem bodies_take (ps : List Part) (k : Nat) (h : k < ps.length) : bodies (ps.take (k + 1)) = bodies (ps.take k) ++ [ps[k].l] := by
  unfold bodies
  rw [List.take_succ_eq_append_getElem h, List.map_append]; rfl
theorem row_len40 : ∀ (l : List (List UInt8)) (i : Nat), (∀ b ∈ l, b.length ≤ 40) → (Fr.row i l).length ≤ 50 * l.length
  | [], _, _ => by simp [Fr.row]
  | b :: l, i, h => by
    have h1 := row_len40 l (i + 1) (fun c hc => h c (List.mem_cons_of_mem _ hc))
    have h2 := h b (List.mem_cons_self ..)
    simp only [Fr.row, List.length_append, Fr.put_len, List.length_cons]
    omega
/-- The length of a slice's value. -/
def lenOfV (v : Value) : Nat := match v with | .slice _ n _ => n | _ => 0

set_option maxRecDepth 8000 in
set_option maxHeartbeats 4000000 in
theorem frameRows_walk (A : Option Addr) (n c : Nat) (ps : List Part) (C : Option Addr) (nc cc : Nat) (cuts : List Int) (noise : Int) (ads : List Addr) (w : World)
    (h0 : InRow w 1 A n c (ps.map Part.val)) (hp : ∀ y ∈ ps, PartIn w y) (h1 : InRow w 1 C nc cc (cuts.map (Value.int .i64))) (hcu : ∀ y ∈ cuts, -9223372036854775808 ≤ y ∧ y ≤ 9223372036854775807)
    (b1 : -9223372036854775808 ≤ noise) (b2 : noise ≤ 9223372036854775807)
    (hE0 : Errs w 77 [0, 3, 2, 1] ads) (ht : Steps w) :
    Calls Tryd.prog 5 #[.slice A n c, .slice C nc cc, .int .i64 noise] w fun e w' => e = .returned (.bool true) ∧ Below w.heap.size w w' := by
  obtain ⟨i0, hi0, hz0, hz1, hz2⟩ := info_parts info_u8
  obtain ⟨E, hE⟩ : ∃ E, FrErrs w E := ⟨_, frErrs4 hE0⟩
  clear hE0
  have r0 : Row w w.heap.size A n (ps.map Part.val) := h0.row
  have r1 : Row w w.heap.size C nc (cuts.map (Value.int .i64)) := h1.row
  have ln : ps.length = n := by simpa using r0.len
  have lc : cuts.length = nc := by simpa using r1.len
  have HP := Lib.hid hp
  have HC := Lib.hid hcu
  clear h0 h1 hp hcu
  by_cases hall : n ≤ 8 ∧ nc ≤ 30
  · obtain ⟨hn, hnc⟩ := hall
    go_enter Tryd.func5, Tryd.ntmps5
    go_wp2_with fail
    refine (first_any w ht).mono ?_
    rintro e w1 ⟨rfl, hb1⟩
    go_wp2_with fail
    go_loopw [8, 9] (fun v i wr => ∃ k : Nat, k ≤ 20 ∧ i = .int .i64 k ∧ (∃ A1 c1, v = .slice A1 k c1 ∧ OwnBytes wr w.heap.size 5 A1 k c1 (List.replicate k 16)) ∧ Below w.heap.size w wr) (fun _ i _ => 20 - (intOf i).toNat)
    case atStart => exact ⟨0, by omega, rfl, ⟨none, 0, rfl, World.ownsRow_nil _ _ _ _⟩, hb1⟩
    case round =>
      obtain ⟨k, hk, rfl, ⟨A1, c1, rfl, ho1⟩, hbw⟩ := hrel
      clear hb1
      go_wp2_with fail
      refine (number_any noise 20 wr (by decide) b1 b2 (by decide)).mono ?_
      rintro e w2 ⟨⟨j, rfl, hj⟩, rfl⟩
      by_cases hkj : k < j
      · go_wp2_with (at_builtin; refine append_byte rfl (.tmp 38) (.tmp 39) 25 rfl 5 i0 _ Tryd.underlying25 hi0 hz0 hz1 hz2 rfl wr 16 16 rfl w.heap.size _ k _ rfl ho1 rfl (by omega) hbw.size ?_)
        intro A3 c3 w3 ho3 hg3
        have hb3 := below_grew hbw hg3 ho1 (Nat.le_refl _)
        rw [← List.replicate_succ'] at ho3
        clear ho1 hg3 hbw
        go_wp2
        go_roundw
        case rel => exact ⟨k + 1, by omega, by go_num, ⟨A3, c3, rfl, ho3⟩, hb3⟩
        case measure => simp [intOf]; omega
      · clear hj
        go_wp2_with fail
        obtain ⟨wo, hwo⟩ : ∃ wo : World, wo = wr := ⟨_, rfl⟩
        rw [← hwo]
        rw [← hwo] at ho1 hbw
        clear hwo
        go_loopw [8, 10] (fun v i wr => ∃ m : Nat, m ≤ n ∧ i = .int .i64 m ∧ (∃ A2 n2 c2, v = .slice A2 n2 c2 ∧ OwnBytes wr w.heap.size 5 A2 n2 c2 (List.replicate k 16 ++ Fr.row 0 (bodies (ps.take m)))) ∧ (∀ b ∈ bodies (ps.take m), b.length ≤ 40) ∧ Below w.heap.size w wr) (fun _ i _ => n - (intOf i).toNat)
        case atStart => exact ⟨0, Nat.zero_le _, rfl, ⟨A1, k, c1, rfl, by simpa [bodies, Fr.row] using ho1⟩, fun b hb => by simp [bodies] at hb, hbw⟩
        case round =>
          obtain ⟨m, hm, rfl, ⟨A2, n2, c2, rfl, ho2⟩, h40, hbw2⟩ := hrel
          clear ho1 hbw
          by_cases hmn : m < n
          · have hm' : m < ps.length := by omega
            obtain ⟨b, off, rfl, hb, hc0⟩ := r0.2 (by omega)
            have hc1 : w.cell? ⟨b, off + m, none⟩ = some (ps[m].val) := hc0 m _ (by simp [hm'])
            have hc := (hbw2.cell (p := ⟨b, off + m, none⟩) hb).trans hc1
            have hP := HP.out ps[m] (List.getElem_mem hm')
            have HT := Lib.hid (bodies_take ps m hm')
            have hbl : (bodies (ps.take m)).length = m := by simp [bodies]; omega
            clear hc0 hc1
            generalize ps[m]'hm' = P at *
            obtain ⟨pa, pn, pc, pl⟩ := P
            have hP' : InBytes w pa pn pc pl := hP
            have hc' : wr.cell? ⟨b, off + m, none⟩ = some (.slice pa pn pc) := hc
            clear hP hc
            have hpl := hP'.bytes.len
            have hn2 : n2 ≤ 20 + 50 * m := by
              have h1 := ho2.len
              rw [List.length_append, List.length_replicate] at h1
              have h2 := row_len40 _ 0 h40
              rw [hbl] at h2
              omega
            by_cases h4 : 40 < pn
            · go_wp2
              go_ret
              exact ⟨rfl, hbw2⟩
            · have hk8 : ((UInt8.ofNat m).toNat : Int) = (m : Int) := by rw [UInt8.toNat_ofNat', Nat.mod_eq_of_lt (by omega)]
              have hput := fput_any (w := wr) (UInt8.ofNat m) pa pn pc pl (ht.below hbw2 (Nat.le_refl _)) ((hP'.bytes.below hbw2 (Nat.le_refl _)).mono hbw2.size) hP'.nn (by omega)
              rw [hk8] at hput
              go_wp2_with fail
              refine hput.mono ?_
              rintro e w5 ⟨A5, c5, rfl, ho5, hb5⟩
              have hbw5 := hbw2.trans (hb5.mono hbw2.size)
              have ho2' := own_below (show wr.ownsRow w.heap.size 5 1 (.slice A2 n2 c2) n2 _ from ho2) hb5 (Nat.le_refl _)
              clear hput hb5 hbw2 ho2
              go_wp2_with (at_builtin; refine append_row rfl (.tmp 66) (.tmp 67) 25 rfl 5 i0 _ 1 1 Tryd.underlying25 hi0 hz0 hz1 hz2 rfl (by decide) w.heap.size _ n2 _ rfl ho2' w5.heap.size A5 (pn + 10) c5 _ rfl ho5.nn ho5.bytes (bv_one _) ?h5 ?h6 hbw5.size ?_)
              case h5 => unfold maxLen; omega
              case h6 => omega
              intro v6 w6 ho6 hg6 hat6
              obtain ⟨A6, c6, rfl, _⟩ := own_form ho6
              have hb6 : Below w.heap.size w w6 := hbw5.grown hg6 hbw5.size (fun k hk => (ho2'.lt k hk).1)
              have ho6' : OwnBytes w6 w.heap.size 5 A6 (n2 + (pn + 10)) c6 (List.replicate k 16 ++ Fr.row 0 (bodies (ps.take (m + 1)))) := by
                unfold OwnBytes
                rw [HT.out, Fr.row_snoc, hbl, Nat.zero_add]
                simpa only [List.map_append, List.map_replicate, List.append_assoc] using ho6
              have h40' : ∀ b ∈ bodies (ps.take (m + 1)), b.length ≤ 40 := by
                rw [HT.out]
                intro b hb
                rcases List.mem_append.1 hb with hb | hb
                · exact h40 b hb
                · obtain rfl := List.mem_singleton.1 hb; omega
              clear ho6 hg6 hat6 ho2' hbw5 ho5 h40 HT
              go_wp2
              go_roundw
              case rel => exact ⟨m + 1, by omega, by go_num, ⟨A6, _, c6, rfl, ho6'⟩, h40', hb6⟩
              case measure => simp [intOf]; omega
          · obtain rfl : m = n := by omega
            rw [List.take_of_length_le (by omega)] at ho2 h40
            have hs2 := hbw2.size
            obtain ⟨p, hp⟩ : ∃ p, p = wr.heap.size := ⟨_, rfl⟩
            have hst0 : StC (wr.alloc (.cells #[.slice none 0 0] 27)) p p none [] := by
              subst hp
              refine ⟨⟨none, 0, 0, cell_of_row _ wr.heap.size 0 _ _ (0, 0) (heap_alloc_new wr _), ?_, OwnTail.nil _ _ _, rfl⟩, Nat.le_refl _, by simp⟩
              unfold World.frozen?; rw [heap_alloc_new wr]; rfl
            have hb3 : Below w.heap.size w (wr.alloc (.cells #[.slice none 0 0] 27)) := hbw2.alloc hs2 _
            have hrow : Bytes (wr.alloc (.cells #[.slice none 0 0] 27)) p A2 n2 (List.replicate k 16 ++ Fr.row 0 (bodies ps)) := by
              subst hp
              exact ho2.bytes.below ((Below.refl wr.heap.size wr).alloc (Nat.le_refl _) _) (Nat.le_refl _)
            have hnn2 := ho2.nn
            have hcap2 := ho2.cap
            have hpw : w.heap.size ≤ p := by rw [hp]; exact hs2
            have hlen : (List.replicate k (16 : UInt8) ++ Fr.row 0 (bodies ps)).length ≤ 1000 := by
              have h2 := row_len40 _ 0 h40
              have h3 : (bodies ps).length = ps.length := by simp [bodies]
              rw [List.length_append, List.length_replicate]
              omega
            have h4000 : ∀ b ∈ bodies ps, b.length ≤ 4000 := fun b hb => Nat.le_trans (h40 b hb) (by decide)
            go_wp2_with fail
            rw [← hp]
            clear hp hs2 hbw2 ho2 h40
            generalize wr.alloc (.cells #[.slice none 0 0] 27) = w3 at *
            have hpb : p ≤ w3.heap.size := Nat.le_of_lt hst0.lt
            go_loopw [8, 14, 15] (fun v g i wr => ∃ (A4 : Option Addr) (n4 c4 : Nat) (rest waits : List UInt8) (q : Option Nat) (mm ii z : Nat), v = .slice A4 n4 c4 ∧ g = .int .i64 mm ∧ i = .int .i64 ii ∧ Bytes w3 p A4 n4 rest ∧ (A4 = none → n4 = 0 ∧ c4 = 0) ∧ n4 ≤ c4 ∧ StC wr p p q waits ∧ mm ≤ m ∧
              waits.length + rest.length ≤ 1000 ∧ waits ++ rest = List.replicate z 16 ++ Fr.row mm ((bodies ps).drop mm) ∧ (rest = [] → mm = m ∧ waits = []) ∧ ii ≤ nc + 1 ∧ (nc < ii → rest = []) ∧ Below p w3 wr) (fun v _ i _ => (nc - (intOf i).toNat) + min (lenOfV v) 1)
            case atStart =>
              refine ⟨A2, n2, c2, _, [], none, 0, 0, k, rfl, rfl, rfl, hrow, hnn2, hcap2, hst0, Nat.zero_le _, by simpa using hlen, by simp, fun h => ?_, by omega, fun h => by omega, Below.refl _ _⟩
              have h2 := (List.append_eq_nil_iff.1 h).2
              cases hps : ps with
              | nil => rw [hps] at ln; exact ⟨by simpa using ln, rfl⟩
              | cons P t =>
                rw [hps] at h2
                have := congrArg List.length h2
                simp [bodies, Fr.row, Fr.put_len] at this
            case round =>
              obtain ⟨A4, n4, c4, rest, waits, q, mm, ii, z, rfl, rfl, rfl, hr4, hnn4, hcap4, hst, hmm, hlen4, heq, hfin, hii, hii2, hbw⟩ := hrel
              clear hst0 hrow hnn2 hcap2 hlen
              have hl4 := hr4.len
              have hbw0 : Below w.heap.size w wr := hb3.trans (hbw.mono hpw)
              by_cases hpos : 0 < n4
              · obtain ⟨ga, offa, rfl, hga, _⟩ := hr4.2 hpos
                clear hfin
                have hiic : ii ≤ nc := by
                  rcases Nat.lt_or_ge nc ii with h | h
                  · have := hii2 h
                    rw [this] at hl4
                    simp at hl4; omega
                  · exact h
                go_upto_if 79 with (fail)
                go_cut [16] from 69 to 122 (fun s16 wx => (∃ kk : Nat, s16 = .int .i64 kk ∧ kk ≤ n4 ∧ (nc ≤ ii → kk = n4)) ∧ wx = wr)
                case first =>
                  by_cases hi : ii < nc
                  · have hic : ii < cuts.length := by omega
                    obtain ⟨bc, offc, rfl, hbc, hcc0⟩ := r1.2 (by omega)
                    have hcc1 : w.cell? ⟨bc, offc + ii, none⟩ = some (.int .i64 cuts[ii]) := hcc0 ii _ (by simp [hic])
                    have hcc := (hbw0.cell (p := ⟨bc, offc + ii, none⟩) hbc).trans hcc1
                    obtain ⟨k1, k2⟩ := HC.out cuts[ii] (List.getElem_mem hic)
                    clear hcc0 hcc1
                    generalize cuts[ii]'hic = y at *
                    go_wp2_with fail
                    refine (number_any y ((n4 : Int) + 1) wr (by omega) k1 k2 (by omega)).mono ?_
                    rintro e w5 ⟨⟨kk, rfl, hkk⟩, rfl⟩
                    go_wp2_with fail
                    go_meet
                    exact ⟨⟨kk, rfl, by omega, fun h => by omega⟩, rfl⟩
                  · go_wp2_with fail
                    go_meet
                    exact ⟨⟨n4, rfl, Nat.le_refl _, fun _ => rfl⟩, rfl⟩
                case rest =>
                  obtain ⟨⟨kk, rfl, hkk, hlast⟩, rfl⟩ := hcut
                  have hr6 : Bytes wc p (some ⟨ga, offa, none⟩) n4 rest := hr4.below hbw (Nat.le_refl p)
                  have hpwc : p ≤ wc.heap.size := Nat.le_of_lt hst.lt
                  have hfeed := feed_any hst p (some ⟨ga, offa, none⟩) kk c4 _ (fun h => by cases h) (hr6.front hkk) (by omega) hpwc
                  have hkc : (kk : Int) ≤ (c4 : Int) := by omega
                  go_wp2_with fail
                  refine hfeed.mono ?_
                  rintro e w6 ⟨rfl, ⟨q6, hst6, hq6⟩, hTwo⟩
                  have hbw6 : Below p w3 w6 := hTwo.below hbw hpb (Nat.le_refl p) (fun g e => (hst.qlt g e).1)
                  have hrd : (rest.drop kk).length = n4 - kk := by rw [List.length_drop, hl4]
                  have hrt : (rest.take kk).length = kk := by rw [List.length_take]; omega
                  have hst6l : (waits ++ rest.take kk).length + (rest.drop kk).length ≤ 1000 := by rw [List.length_append]; omega
                  have heq6 : (waits ++ rest.take kk) ++ rest.drop kk = List.replicate z 16 ++ Fr.row mm ((bodies ps).drop mm) := by rw [List.append_assoc, List.take_append_drop]; exact heq
                  clear hTwo hfeed hr6 hq6 heq hst hbw hpwc
                  go_upto_region 29 with (fail)
                  go_cut [8] from 69 to 122 (fun s8 wx => (∃ A5, s8 = .slice A5 (n4 - kk) (c4 - kk) ∧ Bytes w3 p A5 (n4 - kk) (rest.drop kk) ∧ A5 ≠ none) ∧ wx = w6)
                  case first =>
                    by_cases hck : c4 = kk
                    · subst hck
                      obtain rfl : n4 = c4 := by omega
                      go_wp2_with fail
                      go_meet
                      refine ⟨⟨some ⟨ga, offa, none⟩, by simp, ?_, by simp⟩, rfl⟩
                      have : rest.drop n4 = [] := List.drop_eq_nil_of_le (by omega)
                      rw [this, Nat.sub_self]
                      exact Bytes.nil _ _ _
                    · go_wp2_with fail
                      go_meet
                      exact ⟨⟨some ⟨ga, offa + kk, none⟩, rfl, hr4.back hkk, by simp⟩, rfl⟩
                  case rest =>
                    obtain ⟨⟨A5, rfl, hr5, hA5⟩, rfl⟩ := hcut
                    clear hr4
                    go_wp2_with fail
                    go_loopw [14, 17, 18, 19] (fun g _ _ _ wr => ∃ (mm : Nat) (waits : List UInt8) (q : Option Nat) (z : Nat), g = .int .i64 mm ∧ StC wr p p q waits ∧ mm ≤ m ∧ waits.length + (rest.drop kk).length ≤ 1000 ∧
                      waits ++ rest.drop kk = List.replicate z 16 ++ Fr.row mm ((bodies ps).drop mm) ∧ Below p w3 wr) (fun _ _ _ _ wr => waitsLen p wr)
                    case atStart => exact ⟨mm, _, q6, z, rfl, hst6, hmm, hst6l, heq6, hbw6⟩
                    case round =>
                      obtain ⟨mm2, wts, q2, z2, rfl, hst2, hmm2, hlen2, heq2, hbw2⟩ := hrel
                      clear hst6 hst6l heq6 hbw6
                      have hbw20 : Below w.heap.size w wr := hb3.trans (hbw2.mono hpw)
                      have hpwr : p ≤ wr.heap.size := Nat.le_of_lt hst2.lt
                      have hnext := next_any hE ht hbw20 hpw hst2 (by omega)
                      rcases Fr.next_row mm2 z2 _ wts _ (fun b hb => h4000 b (List.mem_of_mem_drop hb)) heq2 with ⟨b, t, hbt, hsome, heq3⟩ | ⟨hnone, z3, heq3, hfin3⟩
                      · rw [Fr.got_some hsome] at hnext
                        have hb40 : b.length ≤ 4000 := h4000 b (List.mem_of_mem_drop (hbt ▸ List.mem_cons_self ..))
                        have hlt : (Fr.next wts).2.length < wts.length := by
                          have h1 := congrArg List.length heq2
                          have h2 := congrArg List.length heq3
                          rw [hbt] at h1
                          simp only [List.length_append, List.length_replicate, Fr.row, Fr.put_len] at h1 h2
                          omega
                        have hmps : mm2 < ps.length := by
                          rcases Nat.lt_or_ge mm2 ps.length with h | h
                          · exact h
                          · rw [List.drop_eq_nil_of_le (by simp [bodies]; omega)] at hbt; cases hbt
                        have hbs : mm2 < (bodies ps).length := by simpa [bodies] using hmps
                        rw [List.drop_eq_getElem_cons hbs] at hbt
                        injection hbt with hb1' ht1
                        rw [← ht1] at heq3
                        have hbP : b = ps[mm2].l := by rw [← hb1']; simp [bodies]
                        have hP : InBytes w ps[mm2].a ps[mm2].n ps[mm2].c ps[mm2].l := HP.out ps[mm2] (List.getElem_mem hmps)
                        obtain ⟨bo, offo, rfl, hbo, hc0⟩ := r0.2 (by omega)
                        have hc1 : w.cell? ⟨bo, offo + mm2, none⟩ = some (.slice ps[mm2].a ps[mm2].n ps[mm2].c) := hc0 mm2 _ (by simp [hmps, Part.val])
                        clear hc0 hsome hb1' ht1 heq2
                        generalize ps[mm2]'hmps = P at *
                        obtain ⟨pa, pn, pc, pl⟩ := P
                        have hbP' : b = pl := hbP
                        subst hbP'
                        have hc1' : w.cell? ⟨bo, offo + mm2, none⟩ = some (.slice pa pn pc) := hc1
                        have hP' : InBytes w pa pn pc b := hP
                        clear hbP hc1 hP
                        have hpl := hP'.bytes.len
                        have hk8 : ((UInt8.ofNat mm2).toNat : Int) = (mm2 : Int) := by rw [UInt8.toNat_ofNat', Nat.mod_eq_of_lt (by omega)]
                        rw [hk8] at hnext
                        go_wp2_with fail
                        refine hnext.mono ?_
                        rintro e w7 ⟨A7, c7, rfl, ho7, hst7, hg7⟩
                        have hbw7 : Below p w3 w7 := hbw2.grown hg7 hpwr (fun g h => by cases h; exact Nat.le_refl p)
                        have hbw70 : Below w.heap.size w w7 := hb3.trans (hbw7.mono hpw)
                        have hc7 := (hbw70.cell (p := ⟨bo, offo + mm2, none⟩) hbo).trans hc1'
                        have hp7 := (hP'.bytes.below hbw70 (Nat.le_refl _)).mono hbw70.size
                        have hbb : (b == b) = true := by simp
                        have ho7b : Bytes w7 w7.heap.size A7 pn b := hpl ▸ ho7.bytes
                        have hmi : (mm2 : Int) < (m : Int) := by omega
                        have hw2 := hst2.waits
                        clear hnext hg7 hst2 hbw2 hc1'
                        go_wp2_with (go_at_call 13; refine (same_any A7 pa pn pn c7 pc b b _ ho7b hp7 (by omega) (by omega)).mono ?_; rintro e w8 ⟨rfl, hb8⟩)
                        have hst8 := hst7.below hb8
                        go_roundw
                        case rel => exact ⟨mm2 + 1, _, q2, 0, by go_num, hst8, by omega, by omega, heq3, hbw7.trans (hb8.mono (Nat.le_of_lt hst7.lt))⟩
                        case measure => rw [hw2, hst8.waits]; exact hlt
                      · rw [Fr.got_none hnone] at hnext
                        have hwl : (Fr.next wts).2.length + (rest.drop kk).length ≤ 1000 := by
                          have := Fr.next_len wts
                          omega
                        clear hnone heq2
                        go_wp2_with fail
                        refine hnext.mono ?_
                        rintro e w7 ⟨A7, c7, rfl, ho7, hst7, hg7⟩
                        have hbw7 : Below p w3 w7 := hbw2.grown hg7 hpwr (fun g h => by cases h; exact Nat.le_refl p)
                        clear hnext ho7 hg7 hst2 hbw2
                        go_wp2
                        go_roundw
                        case rel =>
                          refine ⟨A5, n4 - kk, c4 - kk, rest.drop kk, _, q2, mm2, ii + 1, z3, rfl, rfl, by go_num, hr5, fun h => absurd h hA5, by omega, hst7, hmm2, hwl, heq3, fun h => ?_, by omega, fun h => ?_, hbw7⟩
                          · obtain ⟨h1, h2⟩ := hfin3 h
                            have h3 := congrArg List.length h1
                            simp [bodies] at h3
                            exact ⟨by omega, h2⟩
                          · have := hlast (by omega)
                            exact List.eq_nil_of_length_eq_zero (by omega)
                        case measure => simp [intOf, lenOfV]; omega
              · obtain rfl : rest = [] := List.eq_nil_of_length_eq_zero (by omega)
                obtain ⟨rfl, rfl⟩ := hfin rfl
                go_wp2_with (go_at_call 14; refine (left_any hst).mono ?_; rintro e w8 ⟨rfl, rfl⟩)
                go_ret
                exact ⟨by simp; omega, hbw0⟩
  · go_enter Tryd.func5, Tryd.ntmps5
    go_wp2_with fail
    refine (first_any w ht).mono ?_
    rintro e w1 ⟨rfl, hb1⟩
    by_cases h8 : n ≤ 8
    · have h30 : 30 < nc := by omega
      go_wp2
      go_ret
      exact ⟨rfl, hb1⟩
    · go_wp2
      go_ret
      exact ⟨rfl, hb1⟩
end Go.Proofs.YtcgcacnlafdggaaDoor
