/- Package reach: Order, Longest. -/
import Derived.Test.YtjdgloofdafebaaQmY
import Derived.Test.YtjdgloofdafebaaYReachSays4
namespace Go.Proofs.Ytjdgloofdafebaa
open Go.RowKit

namespace Pr
section
variable (s : ByteArray) (A : Option Addr) (n c : Nat) (F : Option Addr) (m d : Nat) (fl : List Fl)
theorem OrdOut.after {n : Nat} {L : Nat → List Nat} {w w1 w' : World} {e : Ending} (hb : Below w.heap.size w w1) (h : OrdOut n L w1 e w') : OrdOut n L w e w' := by
  refine ⟨h.1.imp (fun ⟨h1, X, cc, h2, h3⟩ => ⟨h1, X, cc, h2, h3.lower hb.size⟩) id, hb.trans (h.2.mono hb.size)⟩
set_option maxHeartbeats 800000 in
theorem rorder_any (w : World) (hF : KRow Fl.κ w w.heap.size F m fl) (hn : n ≤ 100000) (hm : m ≤ 100000) :
    Calls Try.prog 12 #[.agg #[.string s, .slice A n c, .slice F m d]] w (OrdOut n (nxt n fl m) w) := by
  have hba : Below w.heap.size w (w.alloc (.cells #[.string s, .slice A n c, .slice F m d] 25)) := (Below.refl _ _).alloc (Nat.le_refl _) _
  have HC := Lib.hid (Cel.lit w #[.string s, .slice A n c, .slice F m d] 25)
  have HFa := Lib.hid ((hF.below hba (Nat.le_refl _)).mono hba.size)
  have HB := Lib.hid hba
  clear hF hba
  go_enter Try.func12, Try.ntmps12
  go_upto_region 1 with (fail)
  generalize w.alloc _ = wa at *
  obtain ⟨⟨z0, z1, z2⟩, _⟩ := tri_facts HC.out
  go_wp2_with fail
  refine (onward_any s A n c F m d fl wa HFa.out hn hm).mono ?_
  rintro e w1 ⟨⟨nb, B, rfl, hnx, _⟩, hb1⟩
  have HR := Lib.hid (ordered_any nb B w1.heap.size n (nxt n fl m) w1 hnx (Nat.le_refl _) hn (nxt_len' n fl hm) (fun u v h => (nxt_lt h).2))
  have HB1 := Lib.hid (HB.out.trans (hb1.mono HB.out.size))
  clear hnx hb1 z0 z1 z2
  go_wp2_with fail
  refine HR.out.mono ?_
  rintro e w2 ho
  have HO := Lib.hid (OrdOut.after HB1.out ho)
  rcases ho with ⟨⟨h1, X, cc, rfl, h2⟩ | ⟨h1, rfl⟩, h5⟩
  · clear h1 h2 h5
    go_wp2
    go_ret2
    exact HO.out
  · clear h1 h5
    go_wp2
    go_ret2
    exact HO.out
def LongOut (n : Nat) (L : Nat → List Nat) (w : World) (e : Ending) (w' : World) : Prop :=
  ((Rc.ord n L).length = n ∧ e = .returned (.tuple #[.int .i64 (Rc.lg L (Rc.ord n L) : Int), .bool true]) ∨ (Rc.ord n L).length < n ∧ e = .returned (.tuple #[.int .i64 0, .bool false])) ∧ Below w.heap.size w w'
set_option maxHeartbeats 3200000 in
set_option maxRecDepth 10000 in
theorem rlongest_any (w : World) (hF : KRow Fl.κ w w.heap.size F m fl) (hn : n ≤ 100000) (hm : m ≤ 100000) :
    Calls Try.prog 11 #[.agg #[.string s, .slice A n c, .slice F m d]] w (LongOut n (nxt n fl m) w) := by
  obtain ⟨i0, hi0, hz0, hz1, hz2⟩ := info_parts info_int
  have hba : Below w.heap.size w (w.alloc (.cells #[.string s, .slice A n c, .slice F m d] 25)) := (Below.refl _ _).alloc (Nat.le_refl _) _
  have HC := Lib.hid (Cel.lit w #[.string s, .slice A n c, .slice F m d] 25)
  have HFa := Lib.hid ((hF.below hba (Nat.le_refl _)).mono hba.size)
  have HB := Lib.hid hba
  clear hF hba
  go_enter Try.func11, Try.ntmps11
  go_upto_region 1 with (fail)
  generalize w.alloc _ = wa at *
  obtain ⟨⟨z0, z1, z2⟩, _⟩ := tri_facts HC.out
  go_wp2_with fail
  refine (onward_any s A n c F m d fl wa HFa.out hn hm).mono ?_
  rintro e w1 ⟨⟨nb, B, rfl, hnx, _⟩, hb1⟩
  have HNX := Lib.hid hnx
  have HR := Lib.hid (ordered_any nb B w1.heap.size n (nxt n fl m) w1 hnx (Nat.le_refl _) hn (nxt_len' n fl hm) (fun u v h => (nxt_lt h).2))
  have HB1 := Lib.hid (HB.out.trans (hb1.mono HB.out.size))
  have HLE := Lib.hid (nxt_len' n fl hm)
  have HLT := Lib.hid (fun u v (h : v ∈ nxt n fl m u) => (nxt_lt h).2)
  clear hnx hb1 z0 z1 z2
  generalize nxt n fl m = L at *
  go_wp2_with fail
  refine HR.out.mono ?_
  rintro e w2 ⟨ho, hb2⟩
  have HB2 := Lib.hid (HB1.out.trans (hb2.mono HB1.out.size))
  have HNX2 := Lib.hid (HNX.out.kept (grown_none hb2 (Nat.le_refl _)) (by simp) (fun g hg => by cases hg))
  have hw12 := hb2.size
  have HTOP := Lib.hid (Rc.ord_top n L)
  clear hb2 HNX HR
  rcases ho with ⟨h1, X, cc, rfl, h2⟩ | ⟨h1, rfl⟩
  · have HO := Lib.hid h2
    have HEN := Lib.hid h1
    clear h1 h2
    go_upto_region 7 with (at_make; refine wpList_make_full _ rfl (.tmp 23) (.tmp 23) 26 rfl w2.heap.size 3 i0 _ 1 Try.underlying26 hi0 hz0 hz1 .i64 .i64 _ _ n rfl rfl rfl rfl (by rw [hz2]; omega) (by unfold maxLen; omega) (Nat.le_refl _) ?_; intro w3 ho3 hg3)
    have hY := own_cel ho3
    rw [made_one _ rfl] at hY
    have hKO : Hid (∃ R rc, KO w2 w3 nb w2.heap.size B n L R rc (fun _ => 0)) := by
      obtain ⟨R, rc, hr⟩ := (HNX2.out.kept hg3 (by simp) (fun g hg => by cases hg)).nr
      have hnb : nb < w2.heap.size := by obtain ⟨_, _, hc, _⟩ := HNX2.out.ex; exact hc.lt
      exact ⟨R, rc, ⟨⟨hr.low, hr.cel, fun i hi => ⟨(hr.own i hi).1, fun a ha => by have := (hr.own i hi).2 a ha; omega⟩⟩, hY, (Below.refl w2.heap.size w2).grown hg3 (Nat.le_refl _) (fun k hk => by cases hk), hnb, Nat.le_refl _⟩⟩
    obtain ⟨R, rc, hk⟩ := hKO.out
    have HK := Lib.hid hk
    clear hKO hk hg3 hY ho3 HNX2
    obtain ⟨o, hoo⟩ : ∃ o, Rc.ord n L = o := ⟨_, rfl⟩
    rw [hoo] at HO HEN HTOP
    have HOO := Lib.hid hoo
    have hrk : ∀ x, Rc.rank o x ≤ n := fun x => by unfold Rc.rank; have := List.idxOf_le_length (l := o) (a := x); rw [HEN.out] at this; exact this
    have HRK := Lib.hid hrk
    clear hoo hrk
    go_wp2_with fail
    go_loopw [7, 27] (fun s k wr => ∃ (j mx : Nat) (Fv : Nat → Nat), j ≤ n ∧ s = .int .i64 mx ∧ k = .int .i64 j ∧ KO w2 wr nb w2.heap.size B n L R rc Fv ∧ Rc.lgF L (o.drop j) mx Fv = Rc.lg L o ∧ (∀ x, Fv x ≤ Rc.rank o x) ∧ mx ≤ n) (fun _ k _ => n - (intOf k).toNat)
    case atStart => exact ⟨0, 0, fun _ => 0, Nat.zero_le _, rfl, rfl, HK.out, rfl, fun _ => Nat.zero_le _, Nat.zero_le _⟩
    case round =>
      obtain ⟨j, mx, Fv, hj, rfl, rfl, hk, hlg, hfr, hmx⟩ := hrel
      have hj0 : (0 : Int) ≤ (j : Int) := by omega
      have HKr := Lib.hid hk
      have HLG := Lib.hid hlg
      have HFR := Lib.hid hfr
      clear hk hlg hfr HK
      by_cases hlt : j < n
      · have hI : (j : Int) < (n : Int) := by omega
        have hol : j < o.length := by rw [HEN.out]; exact hlt
        have hrow := HO.out.row.below HKr.out.bel (Nat.le_refl _)
        obtain ⟨b, off, rfl, _, _⟩ := hrow.2 (by omega)
        have g1 := iκ_cells hrow hlt
        have hgv : (o.map Int.ofNat)[j]! = (o[j] : Int) := by
          rw [getElem!_pos (o.map Int.ofNat) j (by simpa using hol)]; simp
        rw [hgv] at g1
        have hvn : o[j] < n := HTOP.out.lt _ (List.getElem_mem hol)
        have hdr : o.drop j = o[j] :: o.drop (j + 1) := List.drop_eq_getElem_cons hol
        generalize o[j] = v at *
        have hlg := HLG.out
        rw [hdr] at hlg
        have HLG2 : Hid (Rc.lgF L (o.drop (j + 1)) (max mx (Fv v)) (Rc.relax v (L v) Fv) = Rc.lg L o) := hlg
        have hv0 : (0 : Int) ≤ (v : Int) := by omega
        have hvI : (v : Int) < (n : Int) := by omega
        have y1 := HKr.out.ways.cell v _ (wv_at _ hvn)
        have hfv : Fv v ≤ n := Nat.le_trans (HFR.out v) (HRK.out v)
        have r1 := HKr.out.rows.cel.cell v (.slice (R v) (L v).length (rc v)) (by rw [List.getElem?_map, List.getElem?_range hvn]; rfl)
        have hlL := HLE.out v
        have hmm : max (mx : Int) (Fv v : Int) = ((max mx (Fv v) : Nat) : Int) := by omega
        have hmm2 : max mx (Fv v) ≤ n := by omega
        clear hgv hdr hlg hrow
        go_upto_region 10 with (fail)
        go_cut [7] from 31 to 36 (fun s wx => s = .int .i64 ((max mx (Fv v) : Nat) : Int) ∧ wx = wr)
        case first =>
          generalize Fv v = fv at *
          rcases Nat.lt_or_ge mx fv with hle | hle
          · have h1 : (mx : Int) < (fv : Int) := by omega
            have h2 : ¬ (fv : Int) < (mx : Int) := by omega
            have h3 : max mx fv = fv := by omega
            have h4 : ¬ (fv : Int) ≤ (mx : Int) := by omega
            have h5 : (mx : Int) ≤ (fv : Int) := by omega
            have H3 := Lib.hid h3
            clear h3 hmm hmm2 hfv hle
            go_wp2_with fail
            go_meet
            exact ⟨by rw [H3.out], rfl⟩
          · have h1 : ¬ (mx : Int) < (fv : Int) := by omega
            have h3 : max mx fv = mx := by omega
            have h5 : (fv : Int) ≤ (mx : Int) := by omega
            have H3 := Lib.hid h3
            clear h3 hmm hmm2 hfv hle
            go_wp2_with fail
            go_meet
            exact ⟨by rw [H3.out], rfl⟩
        case rest =>
        obtain ⟨rfl, rfl⟩ := hcut
        generalize wc = wr at *
        go_wp2_with fail
        clear r1 y1 g1
        generalize hRu : R v = Ru at *
        have HRU := Lib.hid hRu
        clear hRu
        generalize rc v = ru at *
        go_loopw [42] (fun i wr' => ∃ (t : Nat) (F2 : Nat → Nat), t ≤ (L v).length ∧ i = .int .i64 t ∧ KO w2 wr' nb w2.heap.size B n L R rc F2 ∧ Rc.relax v ((L v).drop t) F2 = Rc.relax v (L v) Fv ∧ (∀ x, F2 x ≤ Rc.rank o x)) (fun i _ => (L v).length - (intOf i).toNat)
        case atStart => exact ⟨0, Fv, Nat.zero_le _, rfl, HKr.out, rfl, HFR.out⟩
        case round =>
          clear HKr
          obtain ⟨t, F2, htl, rfl, hk, hre, hfr2⟩ := hrel
          have ht0 : (0 : Int) ≤ (t : Int) := by omega
          have HKs := Lib.hid hk
          have HRE := Lib.hid hre
          have HF2 := Lib.hid hfr2
          clear hk hre hfr2
          by_cases htt : t < (L v).length
          · have hIt : (t : Int) < ((L v).length : Int) := by omega
            have hrow := (HKs.out.rows.own v hvn).1.row
            rw [HRU.out] at hrow
            obtain ⟨b2, off2, rfl, _, _⟩ := hrow.2 (by omega)
            have g1 := iκ_cells hrow htt
            have hgt : ((L v).map Int.ofNat)[t]! = ((L v)[t] : Int) := by
              rw [getElem!_pos ((L v).map Int.ofNat) t (by simpa using htt)]; simp
            rw [hgt] at g1
            have hxn := HLT.out v _ (List.getElem_mem htt)
            have hrl := HTOP.out.rank HEN.out hvn hxn (List.getElem_mem htt)
            have hdr : (L v).drop t = (L v)[t] :: (L v).drop (t + 1) := List.drop_eq_getElem_cons htt
            have hre := HRE.out
            rw [hdr] at hre
            generalize (L v)[t] = x at *
            have hx0 : (0 : Int) ≤ (x : Int) := by omega
            have hxI : (x : Int) < (n : Int) := by omega
            have y1 := HKs.out.ways.cell x _ (wv_at _ hxn)
            have y2 := HKs.out.ways.froz x (by unfold wv; simpa using hxn)
            have y3 := HKs.out.ways.cell v _ (wv_at _ hvn)
            have hyl := HKs.out.ways.lt
            have hfx : F2 x ≤ n := Nat.le_trans (HF2.out x) (HRK.out x)
            have hfv2 : F2 v ≤ n := Nat.le_trans (HF2.out v) (HRK.out v)
            have hw : IntKind.i64.wrap ((F2 v : Int) + 1) = (F2 v : Int) + 1 := by rw [IntKind.wrap_i64]; omega
            have hmm3 : max (F2 x : Int) ((F2 v : Int) + 1) = ((max (F2 x) (F2 v + 1) : Nat) : Int) := by omega
            have HS := Lib.hid ((HKs.out.set hxn (max (F2 x) (F2 v + 1))).below (show Below _ _ (wr.setCell ⟨w2.heap.size, x, none⟩ (.int .i64 ((max (F2 x) (F2 v + 1) : Nat) : Int))).drew from (Below.refl _ _).drew))
            have HRE2 : Hid (Rc.relax v ((L v).drop (t + 1)) (fun i => if i = x then max (F2 x) (F2 v + 1) else F2 i) = Rc.relax v (L v) Fv) := hre
            have HFR2 : Hid (∀ y, (fun i => if i = x then max (F2 x) (F2 v + 1) else F2 i) y ≤ Rc.rank o y) := fun y => by
              show (if y = x then max (F2 x) (F2 v + 1) else F2 y) ≤ _
              have h1 := HF2.out y
              have h2 := HF2.out v
              by_cases e : y = x
              · subst e; rw [if_pos rfl]; omega
              · rw [if_neg e]; exact h1
            clear hgt hdr hre hrow hrl
            go_wp2_with fail
            apply once
            case h =>
              intro hr
              go_region
              exact hr
            rw [show (if ((F2 x : Nat) : Int) < (F2 v : Int) + 1 then (F2 v : Int) + 1 else (F2 x : Int)) = ((max (F2 x) (F2 v + 1) : Nat) : Int) from by split <;> omega]
            change Exit.inBlock _ _ _ _ (wr.setCell ⟨w2.heap.size, x, none⟩ (.int .i64 ((max (F2 x) (F2 v + 1) : Nat) : Int))).drew
            generalize (wr.setCell _ _).drew = ws at *
            clear y1 y2 y3 g1 hmm3 hw hmm
            go_wp2_with fail
            go_roundw
            case measure => simp [intOf]; omega
            case rel => exact ⟨t + 1, _, by omega, by go_num, HS.out, HRE2.out, HFR2.out⟩
          · obtain rfl : t = (L v).length := by omega
            have hIt : ¬ (((L v).length : Nat) : Int) < ((L v).length : Int) := by omega
            have hre := HRE.out
            rw [List.drop_length] at hre
            have HRE2 : Hid (F2 = Rc.relax v (L v) Fv) := hre
            clear hre
            go_wp2_with fail
            go_roundw
            case measure => simp [intOf]; omega
            case rel => exact ⟨j + 1, _, F2, by omega, rfl, by go_num, HKs.out, by rw [HRE2.out]; exact HLG2.out, HF2.out, hmm2⟩
      · obtain rfl : j = n := by omega
        have hI : ¬ ((j : Nat) : Int) < (j : Int) := by omega
        have hlg := HLG.out
        rw [List.drop_of_length_le (by rw [HEN.out]; exact Nat.le_refl _)] at hlg
        have HMX : Hid (mx = Rc.lg L o) := hlg
        have HF : Hid (LongOut j L w (.returned (.tuple #[.int .i64 (mx : Int), .bool true])) wr) := ⟨.inl ⟨by rw [HOO.out]; exact HEN.out, by rw [HMX.out, HOO.out]⟩, HB2.out.trans (HKr.out.bel.mono HB2.out.size)⟩
        clear hlg
        go_wp2
        go_ret2
        exact HF.out
  · have HF : Hid (LongOut n L w (.returned (.tuple #[.int .i64 0, .bool false])) w2) := ⟨.inr ⟨h1, rfl⟩, HB2.out⟩
    clear h1
    go_wp2
    go_ret2
    exact HF.out
end
end Pr
end Go.Proofs.Ytjdgloofdafebaa
