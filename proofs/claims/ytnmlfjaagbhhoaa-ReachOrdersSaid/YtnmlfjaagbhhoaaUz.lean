/- ReachOrders: the walk. -/
import Derived.Test.YtnmlfjaagbhhoaaQo
import Derived.Test.YtnmlfjaagbhhoaaUy
import Derived.Test.YtnmlfjaagbhhoaaUx
import Derived.Test.YtnmlfjaagbhhoaaHa
namespace Go.Proofs.Ytnmlfjaagbhhoaa
open Go.RowKit
open Pr
theorem own_cap {α : Type} {κ : Cs α} {w : World} {base n c : Nat} {e : TypeId} {A : Option Addr} {l : List α} (h : OwnK κ w base e A n c l) : n ≤ c := by
  rcases h.2.2 with ⟨hv, h0⟩ | ⟨g, cap, cur, hv, _, _, hle, _⟩
  · omega
  · injection hv with _ _ h3
    omega
theorem measO {n k : Nat} (h : k < n) : n - (intOf (.int .i64 ((k : Int) + 1))).toNat < n - (intOf (.int .i64 (k : Int))).toNat := by
  show n - ((k : Int) + 1).toNat < n - ((k : Int)).toNat
  omega
theorem krow_take {w : World} {B n j : Nat} {A : Option Addr} {l : List Int} (h : KRow iκ w B A n l) (hj : j ≤ n) : KRow iκ w B A j (l.take j) := by
  have hl := h.len (by decide)
  refine ⟨by rw [Cs.flat_len, List.length_take, Nat.min_eq_left (by omega)], fun h0 => ?_⟩
  obtain ⟨b, off, rfl, hb, hc⟩ := h.2 (by omega)
  refine ⟨b, off, rfl, hb, fun k v hv => hc k v ?_⟩
  have e : l.flatMap iκ.cs = (l.take j).flatMap iκ.cs ++ (l.drop j).flatMap iκ.cs := by rw [← List.flatMap_append, List.take_append_drop]
  rw [e, List.getElem?_append_left (List.getElem?_eq_some_iff.1 hv).1]
  exact hv
theorem has_quiet (A : Option Addr) (n c : Nat) (l : List Int) (B : Nat) (x : Int) (w : World) (hr : KRow iκ w B A n l) (hn : n ≤ 100000) (ha : (l.any fun y => y == x) = false) (q : Nat) :
    Calls Try.prog 10 #[.slice A n c, .int .i64 x] (w.drewN q) fun r w' => r = .returned (.bool false) ∧ ∃ m, w' = w.drewN m :=
  (refhas_any A n c l B x (w.drewN q) (hr.below (below_drewN (Below.refl B w) q) (Nat.le_refl _)) hn).mono fun _ _ ⟨h1, h2⟩ => ⟨by rw [h1, ha], q, h2.symm⟩
set_option maxHeartbeats 6400000 in
set_option maxRecDepth 10000 in
theorem reachOrders_walk (s : SeedV) (rings : Bool) (w : World) (hS : InSeed w s) :
    Calls Try.prog 3 #[s.val, .bool rings] w fun e w' => e = .returned (.bool true) ∧ Below w.heap.size w w' := by
  have HSD := Lib.hid hS
  have HB0 := Lib.hid ((Below.refl w.heap.size w).alloc (Nat.le_refl _) (.cells #[.string s.name, .slice s.KA s.kn s.kc, .slice s.EA s.en s.ec, .slice s.MA s.mn s.mc] 24))
  have hq0 := Cel.lit w #[.string s.name, .slice s.KA s.kn s.kc, .slice s.EA s.en s.ec, .slice s.MA s.mn s.mc] 24
  have HL := Lib.hid (fun w => mlight_any s w)
  clear hS
  unfold SeedV.val
  go_enter Try.func3, Try.ntmps3
  go_wp2_with fail
  generalize hwa : w.alloc _ = wa at *
  refine (rfirst_any wa).mono ?_
  rintro e w1 ⟨rfl, hb1'⟩
  have HQ1 := Lib.hid (hq0.below hb1' (Nat.le_refl _))
  have HB1 := Lib.hid (HB0.out.trans (hb1'.mono HB0.out.size))
  clear hq0 hb1' HB0 hwa
  obtain ⟨q0, q1, q2, q3⟩ := quad_facts HQ1.out
  go_wp2_with fail
  unfold SeedV.val at HL
  refine (HL.out _).mono ?_
  rintro e w2 ⟨rfl, hb2'⟩
  have HQ2 := Lib.hid (HQ1.out.below hb2' (Nat.le_refl _))
  have HB2 := Lib.hid (HB1.out.trans (hb2'.mono HB1.out.size))
  clear hb2' HQ1 HB1 q0 q1 q2 q3 HL
  obtain ⟨lt, hlt⟩ : ∃ b, light s = b := ⟨_, rfl⟩
  rw [hlt]
  cases lt with
  | false =>
    go_wp2
    go_ret
    exact ⟨rfl, HB2.out⟩
  | true =>
    have hkn : s.kn ≤ 28 := by
      unfold light at hlt
      simp only [Bool.and_eq_true, decide_eq_true_eq] at hlt
      exact hlt.2.1
    clear hlt
    obtain ⟨z0, z1, z2, z3⟩ := quad_facts HQ2.out
    have hk2 := (HSD.out.k.row.below HB2.out (Nat.le_refl _)).mono HB2.out.size
    have hm2 := (HSD.out.m.row.below HB2.out (Nat.le_refl _)).mono HB2.out.size
    have HG := Lib.hid (mgood_any (w := w2) s.name s.KA s.kn s.kc s.EA s.en s.ec s.MA s.mn s.mc s.ks s.ms rings hk2 hm2 HSD.out.kb HSD.out.mb (by omega))
    clear hk2 hm2
    go_wp2_with fail
    refine HG.out.mono ?_
    rintro e w3 ⟨⟨A, pn, cc, F, pm, d, rfl, hN, hF⟩, hb3⟩
    have HN := Lib.hid hN
    have HF := Lib.hid hF
    have HB3 := Lib.hid (HB2.out.trans (hb3.mono HB2.out.size))
    clear hN hF hb3 HG z0 z1 z2 z3 HQ2 HB2
    obtain ⟨hinv, h2n, hn27, hm52, hname⟩ := good_inv s.ks s.ms rings
    have hrk : rings = false → ∃ r, Rk (good s.ks s.ms rings) r := fun h => by rw [h]; exact good_rk _ _
    have HRK := Lib.hid hrk
    have HINV := Lib.hid hinv
    clear hrk hinv
    generalize good s.ks s.ms rings = p at *
    rw [← hname]
    have HPC := Lib.hid (Cel.lit w3 #[.string p.name, .slice A pn cc, .slice F pm d] 30)
    have hba : Below w3.heap.size w3 (w3.alloc (.cells #[.string p.name, .slice A pn cc, .slice F pm d] 30)) := (Below.refl _ _).alloc (Nat.le_refl _) _
    have HF4 := Lib.hid ((HF.out.below hba (Nat.le_refl _)).row)
    have HN4 := Lib.hid ((HN.out.below hba (Nat.le_refl _)).row)
    have HB4 := Lib.hid (HB3.out.trans (hba.mono HB3.out.size))
    obtain rfl : p.n = pn := HN.out.len
    obtain rfl : p.m = pm := HF.out.len
    clear hba HN HF HB3 hname
    go_upto_region 7 with (fail)
    generalize w3.alloc _ = w4 at *
    obtain ⟨⟨z0, z1, z2⟩, _⟩ := tri_facts HPC.out
    have hwt := HINV.out.wt
    have HO := Lib.hid (rorder_any p.name A p.n cc F p.m d p.flows w4 HF4.out (by omega) (by omega))
    go_wp2_with fail
    refine HO.out.mono ?_
    rintro e w5 ⟨ho5, hb5⟩
    have HPC5 := Lib.hid (HPC.out.below hb5 (Nat.le_refl _))
    have HF5 := Lib.hid ((HF4.out.below hb5 (Nat.le_refl _)).mono hb5.size)
    have HN5 := Lib.hid ((HN4.out.below hb5 (Nat.le_refl _)).mono hb5.size)
    have HB5 := Lib.hid (HB4.out.trans (hb5.mono HB4.out.size))
    have HLG := Lib.hid (rlongest_any p.name A p.n cc F p.m d p.flows w5 HF5.out (by omega) (by omega))
    clear z0 z1 z2 hb5 HO HPC HF4 HN4 HB4
    obtain ⟨⟨z0, z1, z2⟩, _⟩ := tri_facts HPC5.out
    have HWT := Lib.hid hwt
    clear hwt
    rcases ho5 with ⟨hfull, X, cx, rfl, hx⟩ | ⟨hlt, rfl⟩
    rotate_left
    · have HLT := Lib.hid hlt
      clear hlt
      go_wp2_with fail
      refine HLG.out.mono ?_
      rintro e w6 ⟨hl6, hb6⟩
      rcases hl6 with ⟨h1, _⟩ | ⟨_, rfl⟩
      · exact absurd h1 (Nat.ne_of_lt HLT.out)
      have HPC6 := Lib.hid (HPC5.out.below hb6 (Nat.le_refl _))
      have HB6 := Lib.hid (HB5.out.trans (hb6.mono HB5.out.size))
      have HRG := Lib.hid (ring_gen A p.n cc F p.m d p HWT.out w6 ((HN5.out.below hb6 (Nat.le_refl _)).mono hb6.size) ((HF5.out.below hb6 (Nat.le_refl _)).mono hb6.size) (by omega) (by omega))
      clear z0 z1 z2 hb6 HLG
      obtain ⟨⟨z0, z1, z2⟩, _⟩ := tri_facts HPC6.out
      cases rings with
      | false =>
        obtain ⟨r, hr⟩ := HRK.out rfl
        have h9 : (Rc.ord p.n (nxt p.n p.flows p.m)).length = p.n := ord_of_rk hr
        exact absurd h9 (Nat.ne_of_lt HLT.out)
      | true =>
        go_wp2_with fail
        refine HRG.out.mono ?_
        rintro e w7 ⟨⟨r, rfl, hr⟩, hb7⟩
        obtain rfl : r = true := hr.2 HLT.out
        have HB7 := Lib.hid (HB6.out.trans (hb7.mono HB6.out.size))
        clear hb7 hr z0 z1 z2
        go_wp2
        go_ret
        exact ⟨rfl, HB7.out⟩
    have HFU := Lib.hid hfull
    have HX5 := Lib.hid hx
    have hlong : 1 ≤ Rc.lg (nxt p.n p.flows p.m) (Rc.ord p.n (nxt p.n p.flows p.m)) ∧ Rc.lg (nxt p.n p.flows p.m) (Rc.ord p.n (nxt p.n p.flows p.m)) < p.n := ord_long HINV.out hfull
    have hfirst := ord_first HINV.out
    clear hfull hx
    go_wp2_with fail
    refine HLG.out.mono ?_
    rintro e w6 ⟨hl6, hb6⟩
    rcases hl6 with ⟨_, rfl⟩ | ⟨h1, _⟩
    rotate_left
    · exact absurd HFU.out (Nat.ne_of_lt h1)
    have HPC6 := Lib.hid (HPC5.out.below hb6 (Nat.le_refl _))
    have HB6 := Lib.hid (HB5.out.trans (hb6.mono HB5.out.size))
    have HX6 := Lib.hid (HX5.out.below hb6 (Nat.le_refl _))
    have HF6 := Lib.hid ((HF5.out.below hb6 (Nat.le_refl _)).mono hb6.size)
    have HRG := Lib.hid (ring_gen A p.n cc F p.m d p HWT.out w6 ((HN5.out.below hb6 (Nat.le_refl _)).mono hb6.size) HF6.out (by omega) (by omega))
    clear z0 z1 z2 hb6 HLG HX5 HF5 HN5 HPC5 HB5
    obtain ⟨⟨z0, z1, z2⟩, _⟩ := tri_facts HPC6.out
    go_wp2_with fail
    refine HRG.out.mono ?_
    rintro e w7 ⟨⟨r, rfl, hr⟩, hb7⟩
    obtain rfl : r = false := by
      cases r with
      | false => rfl
      | true => exact absurd HFU.out (Nat.ne_of_lt (hr.1 rfl))
    have HPC7 := Lib.hid (HPC6.out.below hb7 (Nat.le_refl _))
    have HB7 := Lib.hid (HB6.out.trans (hb7.mono HB6.out.size))
    have HX7 := Lib.hid (HX6.out.below hb7 (Nat.le_refl _))
    have HF7 := Lib.hid ((HF6.out.below hb7 (Nat.le_refl _)).mono hb7.size)
    clear z0 z1 z2 hb7 hr HRG HPC6 HB6 HX6 HF6
    obtain ⟨⟨z0, z1, z2⟩, _⟩ := tri_facts HPC7.out
    have HFI := Lib.hid hfirst
    clear hfirst
    obtain ⟨lgv, hlg⟩ : ∃ lgv, lgv = Rc.lg (nxt p.n p.flows p.m) (Rc.ord p.n (nxt p.n p.flows p.m)) := ⟨_, rfl⟩
    rw [← hlg]
    rw [← hlg] at hlong
    have hgl1 : (1 : Int) ≤ (lgv : Int) := by have := hlong.1; omega
    have hgl2 : (lgv : Int) < (p.n : Int) := by have := hlong.2; omega
    clear hlong hlg
    obtain ⟨out, hout⟩ : ∃ out, out = Rc.ord p.n (nxt p.n p.flows p.m) := ⟨_, rfl⟩
    have htop := Rc.ord_top p.n (nxt p.n p.flows p.m)
    have hof := Lib.hid (fun f hf => ord_flow HWT.out HFU.out (f := f) hf)
    have HALL := Lib.hid (fun v (hv : v < p.n) => htop.all HFU.out hv)
    rw [show (p.nxL : Nat → List Nat) = nxt p.n p.flows p.m from rfl] at HFI hof
    rw [← hout] at HX7 HFI hof HALL htop HFU
    have HTOP := Lib.hid htop
    have HCAP := Lib.hid (own_cap HX7.out)
    clear htop hout
    obtain ⟨gx, rfl, _, hgx⟩ := HX7.out.some_of (show 0 < p.n by omega)
    obtain ⟨i0, hi0, hy0, hy1, hy2⟩ := info_parts info_int
    go_upto_region 14 with (at_make; refine wpList_make_full _ rfl (.tmp 74) (.tmp 74) 22 rfl w7.heap.size 3 i0 _ 1 Try.underlying22 hi0 hy0 hy1 .i64 .i64 _ _ p.n rfl rfl rfl rfl (by rw [hy2]; omega) (by unfold maxLen; omega) (Nat.le_refl _) ?_; intro w8 ho8 hg8)
    have hY := own_cel ho8
    rw [made_one _ rfl] at hY
    have HY : Hid (Cel w8 w7.heap.size (wv (atO out 0) p.n)) := Lib.hid (by rw [← wv_zero]; exact hY)
    have HB8 := Lib.hid ((Below.refl w7.heap.size w7).grown hg8 (Nat.le_refl _) (fun k hk => by cases hk))
    clear z0 z1 z2 hY ho8 hg8
    go_wp2_with fail
    go_loopw [12] (fun i wr => ∃ j : Nat, j ≤ p.n ∧ i = .int .i64 j ∧ Cel wr w7.heap.size (wv (atO out j) p.n) ∧ Below w7.heap.size w7 wr) (fun i _ => p.n - (intOf i).toNat)
    case atStart => exact ⟨0, Nat.zero_le _, rfl, HY.out, HB8.out⟩
    case round =>
      obtain ⟨j, hj, rfl, hc, hbr⟩ := hrel
      have hj0 : (0 : Int) ≤ (j : Int) := by omega
      have HBR := Lib.hid hbr
      have HCR := Lib.hid hc
      by_cases hlt : j < p.n
      · have hI : (j : Int) < (p.n : Int) := by omega
        have hjl : j < out.length := by have := HFU.out; omega
        have hrow := HX7.out.row.below hbr (Nat.le_refl _)
        have c1 := iκ_cells hrow hlt
        have hgv : (out.map Int.ofNat)[j]! = (out[j] : Int) := by
          rw [getElem!_pos _ j (by simpa using hjl)]; simp
        rw [hgv, Nat.zero_add] at c1
        have hvn := HTOP.out.lt _ (List.getElem_mem hjl)
        have HHQ := Lib.hid (has_quiet (some ⟨gx, 0, none⟩) j cx ((out.map Int.ofNat).take j) w7.heap.size (out[j] : Int) wr (krow_take hrow hj) (by omega) (take_not HTOP.out.nod hjl))
        have HAS := Lib.hid (atO_succ HTOP.out.nod hjl)
        generalize out[j] = v at *
        have hv0 : (0 : Int) ≤ (v : Int) := by omega
        have hv1 : ¬ (v : Int) < 0 := by omega
        have hv2 : (v : Int) < (p.n : Int) := by omega
        have hv3 : ¬ (v : Int) ≥ (p.n : Int) := by omega
        have hjc : (j : Int) ≤ (cx : Int) := by have := HCAP.out; omega
        clear hgv hrow hc hbr
        go_wp2_with fail
        go_quiet ((go_at_call 10; with_reducible exact HHQ.out _))
        have HBD := Lib.hid (below_drewN HBR.out nq)
        have hcd := HCR.out.below (below_drewN (Below.refl wr.heap.size wr) nq) (Nat.le_refl _)
        have d1 := below_cells (below_drewN (Below.refl wr.heap.size wr) nq) c1
        have HCS := Lib.hid (hcd.set (i := v) (by unfold wv; simpa using hvn) (.int .i64 (j : Int)))
        have y1 := hcd.cell v _ (wv_at _ hvn)
        have y2 := hcd.froz v (by unfold wv; simpa using hvn)
        have HBS := Lib.hid (HBD.out.setCell (p := ⟨w7.heap.size, v, none⟩) (Nat.le_refl _) (.int .i64 (j : Int)))
        clear hcd c1
        generalize wr.drewN nq = wd at *
        go_wp2_with fail
        go_roundw
        case measure => exact measO hlt
        case rel => exact ⟨j + 1, hlt, by go_num, by rw [← HAS.out, ← wv_set]; exact HCS.out, HBS.out⟩
      · obtain rfl : j = p.n := by omega
        have hI : ¬ ((p.n : Int) < (p.n : Int)) := by omega
        have HPCr := Lib.hid (HPC7.out.below hbr (Nat.le_refl _))
        have HFr := Lib.hid ((HF7.out.below hbr (Nat.le_refl _)).mono hbr.size)
        have HXr := Lib.hid ((HX7.out.row.below hbr (Nat.le_refl _)).mono hbr.size)
        have HBr := Lib.hid (HB7.out.trans (hbr.mono HB7.out.size))
        have HATF := Lib.hid (fun v (hv : v < p.n) => (show atO out p.n v = (Rc.rank out v : Int) by rw [← HFU.out]; exact atO_full (HALL.out v hv)))
        clear hc hbr HPC7 HF7 HX7 HB7 HY HB8 HBR
        generalize wr = w9 at *
        go_wp2_with fail
        go_loopw [13] (fun i wr => ∃ k : Nat, k ≤ p.m ∧ i = .int .i64 k ∧ Below w9.heap.size w9 wr) (fun i _ => p.m - (intOf i).toNat)
        case atStart => exact ⟨0, Nat.zero_le _, rfl, Below.refl _ _⟩
        case round =>
          obtain ⟨k, hk, rfl, hbk⟩ := hrel
          have hk0 : (0 : Int) ≤ (k : Int) := by omega
          have HBK := Lib.hid hbk
          by_cases hlk : k < p.m
          · have hJ : (k : Int) < (p.m : Int) := by omega
            obtain ⟨b, off, rfl, _, _⟩ := HFr.out.2 (by omega)
            obtain ⟨⟨z0, z1, z2⟩, _⟩ := tri_facts (HPCr.out.below hbk (Nat.le_refl _))
            obtain ⟨f0, f1, f2⟩ := fl_at (HFr.out.below hbk (Nat.le_refl _)) hlk
            obtain ⟨x, y, hx, hy, hxn, hyn, hrk⟩ := hof.out _ (fl_mem hlk)
            have a1 := (HCR.out.below hbk (Nat.le_refl _)).cell x _ (wv_at _ hxn)
            have a2 := (HCR.out.below hbk (Nat.le_refl _)).cell y _ (wv_at _ hyn)
            rw [HATF.out x hxn] at a1
            rw [HATF.out y hyn] at a2
            generalize p.flows[k]! = f at *
            obtain ⟨frm, til, cond⟩ := f
            dsimp only at hx hy f0 f1 f2
            subst hx
            subst hy
            generalize Rc.rank out x = ra at *
            generalize Rc.rank out y = rb at *
            have hx0 : (0 : Int) ≤ (x : Int) := by omega
            have hxI : (x : Int) < (p.n : Int) := by omega
            have hy0 : (0 : Int) ≤ (y : Int) := by omega
            have hyI : (y : Int) < (p.n : Int) := by omega
            have hg1 : ¬ (rb ≤ ra) := by omega
            have hg2 : ¬ ((rb : Int) ≤ (ra : Int)) := by omega
            clear hbk
            go_wp2_with fail
            go_quiet (fail)
            go_wp2_with fail
            go_roundw
            case measure => exact measO hlk
            case rel => exact ⟨k + 1, hlk, by go_num, below_drewN HBK.out _⟩
          · obtain rfl : k = p.m := by omega
            have hJ : ¬ ((p.m : Int) < (p.m : Int)) := by omega
            obtain ⟨⟨z0, z1, z2⟩, _⟩ := tri_facts (HPCr.out.below hbk (Nat.le_refl _))
            have c1 := iκ_cells (HXr.out.below hbk (Nat.le_refl _)) (j := 0) (by omega)
            have hfirst := HFI.out
            obtain ⟨h1, h2⟩ := List.getElem?_eq_some_iff.1 hfirst
            have hgv : (out.map Int.ofNat)[0]! = (0 : Int) := by
              rw [getElem!_pos _ 0 (by simpa using h1), List.getElem_map, h2]; rfl
            rw [hgv] at c1
            have hn0 : (0 : Int) < (p.n : Int) := by omega
            clear hgv h1 h2 hfirst hbk
            go_wp2
            go_ret
            exact ⟨rfl, HBr.out.trans (HBK.out.mono HBr.out.size)⟩
end Go.Proofs.Ytnmlfjaagbhhoaa
