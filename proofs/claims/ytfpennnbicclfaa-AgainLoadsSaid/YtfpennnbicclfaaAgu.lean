/- Package again: Load. -/
import Derived.Test.YtfpennnbicclfaaAgt
namespace Go.Proofs.Ytfpennnbicclfaa
open Go.RowKit

namespace Ag
def loads : List Ab → List Ab → Option (List Ab)
  | M, [] => some M
  | M, p :: r => if (at? Ab.wkr p.wkr M).isSome || !fitsA p then none else loads (ins Ab.wkr p M) r
def loadA (ps : List Ab) : Option (List Ab) := if 6 < ps.length then none else loads [] ps
def LoadOut (w : World) (q : Nat) (R : Option (List Ab)) (e : Ending) (w' : World) : Prop :=
  match R with
  | none => e = .returned (.bool false) ∧ Below w.heap.size w w'
  | some M => e = .returned (.bool true) ∧ ∃ m' l', BkC w' q m' l' ∧ l'.map Pg.ab = M ∧ Kp (fun x => x = q) w w' ∧ ∀ x, Foot q m' l' x → x = q ∨ w.heap.size ≤ x
theorem run_makeMapN {P : Program} {t k e : TypeId} (hu : P.underlying t = some (.map k e)) (n : Int) (w : World) : (Instr.makeMap t (some (.int .i64 n))).run P w = .ok (.map (some w.heap.size)) (w.alloc (.map #[] 0)) := by
  simp [Instr.makeMap, run_underlying hu, asInt, asIntOf, Result.andThen]
theorem r_cells {w : World} {b off n B : Nat} {l : List Pg} (h : KRow rκ w B (some ⟨b, off, none⟩) n (l.map Pg.raw)) {j : Nat} (hj : j < l.length) :
    w.cell? ⟨b, off + j * 4, none⟩ = some (.string (l[j]).wkr) ∧ w.cell? ⟨b, off + j * 4 + 1, none⟩ = some (.int .i64 (l[j]).inc) ∧ w.cell? ⟨b, off + j * 4 + 2, none⟩ = some (.slice (l[j]).ka (l[j]).keys.length (l[j]).kc) ∧ w.cell? ⟨b, off + j * 4 + 3, none⟩ = some (.slice (l[j]).ra (l[j]).rows.length (l[j]).rc) := by
  have hl := h.len (by decide)
  rw [List.length_map] at hl
  obtain ⟨b', off', he, _, hc⟩ := h.2 (by omega)
  injection he with he
  injection he with e1 e2
  subst e1
  subst e2
  have key : ∀ i v, (Rw.cells (l[j]).raw)[i]? = some v → w.cell? ⟨b, off + j * 4 + i, none⟩ = some v := fun i v hv => by
    have hi : i < rκ.k := by
      have h1 := (List.getElem?_eq_some_iff.1 hv).1
      exact h1
    have h2 := hc (j * rκ.k + i) v (by
      rw [Cs.flat_at rκ (l.map Pg.raw) j i (by simpa using hj) hi, List.getElem_map]
      exact hv)
    rw [Nat.add_assoc]
    exact h2
  exact ⟨key 0 _ rfl, key 1 _ rfl, key 2 _ rfl, key 3 _ rfl⟩
set_option maxRecDepth 10000 in
set_option maxHeartbeats 3200000 in
theorem load_any (q : Nat) (m : Option Nat) (l : List Pg) (A : Option Addr) (n c : Nat) (qs : List Pg) (w : World) (hb : BkC w q m l) (hr : KRow rκ w w.heap.size A n (qs.map Pg.raw)) (hp : ∀ p ∈ qs, PgArg w p ∧ p.wkr.size ≤ 1000000) :
    Calls Try.prog 17 #[.pointer (some ⟨q, 0, none⟩), .slice A n c] w (LoadOut w q (loadA (qs.map Pg.ab))) := by
  have hl : qs.length = n := by have := hr.len (by decide); rwa [List.length_map] at this
  have HB := Lib.hid hb
  have HR := Lib.hid hr
  have HP := Lib.hid hp
  have HL := Lib.hid hl
  obtain ⟨R, hR⟩ : ∃ R, loadA (qs.map Pg.ab) = R := ⟨_, rfl⟩
  rw [hR]
  unfold loadA at hR
  rw [List.length_map, hl] at hR
  by_cases h6 : 6 < n
  · rw [if_pos h6] at hR
    subst hR
    have hI : (6 : Int) < (n : Int) := by omega
    clear hb hr hp hl
    go_enter Try.func17, Try.ntmps17
    go_wp2
    go_ret
    exact ⟨rfl, Below.refl _ _⟩
  rw [if_neg h6] at hR
  have HRR := Lib.hid hR
  have hI : ¬ (6 : Int) < (n : Int) := by omega
  have hmm := fun n w => run_makeMapN (P := Try.prog) Try.underlying25 n w
  have HM0 := Lib.hid (Mp.made w (Nat.le_refl w.heap.size))
  have HB0 := Lib.hid ((Below.refl w.heap.size w).alloc (Nat.le_refl _) (.map #[] 0))
  clear hb hr hp hl hR
  go_enter Try.func17, Try.ntmps17
  go_wp2_with fail
  have hbl : w.heap.size < (w.alloc (.map #[] 0)).heap.size := by simp
  generalize w.alloc _ = w1 at *
  clear hmm
  go_loopw [18] (fun s18 wr => ∃ (j : Nat) (k : List Pg), s18 = .int .i64 j ∧ j ≤ n ∧ k.length ≤ j ∧ Mp w.heap.size wr w.heap.size k ∧ loads (k.map Pg.ab) ((qs.drop j).map Pg.ab) = R ∧ Below w.heap.size w wr) (fun s18 _ => n - (intOf s18).toNat)
  case atStart => exact ⟨0, [], rfl, Nat.zero_le _, Nat.le_refl _, HM0.out, HRR.out, HB0.out⟩
  case round =>
    obtain ⟨j, k, rfl, hj, hkl, hmp, hld, hbr⟩ := hrel
    have hj0 : (0 : Int) ≤ (j : Int) := by omega
    have HMP := Lib.hid hmp
    have HLD := Lib.hid hld
    have HBR := Lib.hid hbr
    clear hmp hld hbr HM0 HB0
    by_cases hlt : j < n
    · have hI2 : (j : Int) < (n : Int) := by omega
      have hjl : j < qs.length := by have := HL.out; omega
      obtain ⟨b, off, rfl, _⟩ := (HR.out.below HBR.out (Nat.le_refl _)).2 (by omega)
      obtain ⟨k0, k1, k2, k3⟩ := r_cells (HR.out.below HBR.out (Nat.le_refl _)) hjl
      have hpp := HP.out qs[j] (List.getElem_mem hjl)
      have hdr : qs.drop j = qs[j] :: qs.drop (j + 1) := List.drop_eq_getElem_cons hjl
      have hld := HLD.out
      rw [hdr, List.map_cons] at hld
      unfold loads at hld
      have hmat := map_at Pg.wkr Ab.wkr Pg.ab ab_wkr (qs[j]).wkr k
      generalize qs[j] = p at *
      clear hdr HLD
      have hwk : p.wkr.size ≤ maxLen := by have := hpp.2; unfold maxLen; omega
      have hlk := look_run (HMP.out.below ((Below.refl wr.heap.size wr).alloc (Nat.le_refl _) (.cells #[.string p.wkr, .int .i64 p.inc, .slice p.ka p.keys.length p.kc, .slice p.ra p.rows.length p.rc] 51))).own hwk
      have hha : hasAt p.wkr k = (at? Ab.wkr p.ab.wkr (k.map Pg.ab)).isSome := by
        rw [ab_wkr, hmat, Option.isSome_map]
        rfl
      rw [← hha] at hld
      obtain ⟨wkr, inc, ka, kc, keys, ra, rc, rows⟩ := p
      obtain ⟨X, hX⟩ : ∃ X, rawAt wkr k = X := ⟨_, rfl⟩
      obtain ⟨B, hB⟩ : ∃ B, hasAt wkr k = B := ⟨_, rfl⟩
      dsimp only at hlk hld k0 k1 k2 k3
      rw [hX, hB] at hlk
      rw [hB] at hld
      obtain ⟨xw, xi, xka, xkn, xkc, xra, xrn, xrc⟩ := X
      unfold Rw.val at hlk
      dsimp only at hlk
      have hb2 : Below wr.heap.size wr ((wr.alloc (.cells #[.string wkr, .int .i64 inc, .slice ka keys.length kc, .slice ra rows.length rc] 51)).alloc (.cells #[.string xw, .int .i64 xi, .slice xka xkn xkc, .slice xra xrn xrc] 51)) := ((Below.refl _ _).alloc (Nat.le_refl _) _).alloc (by simp) _
      have hc2 : Cel ((wr.alloc (.cells #[.string wkr, .int .i64 inc, .slice ka keys.length kc, .slice ra rows.length rc] 51)).alloc (.cells #[.string xw, .int .i64 xi, .slice xka xkn xkc, .slice xra xrn xrc] 51)) wr.heap.size [.string wkr, .int .i64 inc, .slice ka keys.length kc, .slice ra rows.length rc] := (Cel.lit wr #[.string wkr, .int .i64 inc, .slice ka keys.length kc, .slice ra rows.length rc] 51).alloc _
      have HLD := Lib.hid hld
      have HB2 := Lib.hid (HBR.out.trans (hb2.mono HBR.out.size))
      have HMP2 := Lib.hid (HMP.out.below hb2)
      have HC2 := Lib.hid hc2
      have HPP := Lib.hid hpp
      have HBH := Lib.hid hB
      clear hld hb2 hpp hX hB hha hmat hc2 HMP HBR
      go_upto_region 8 with (fail)
      clear k0 k1 k2 k3 hlk
      generalize (wr.alloc _).alloc _ = w2 at *
      have hat2 := HPP.out.1.below HB2.out
      have HFI := Lib.hid (fits_any _ w2 hat2)
      obtain ⟨⟨p0, p1, p2, p3⟩, _⟩ := cel4 HC2.out
      obtain ⟨F, hF⟩ : ∃ F, fitsA (Pg.ab ⟨wkr, inc, ka, kc, keys, ra, rc, rows⟩) = F := ⟨_, rfl⟩
      have hld := HLD.out
      rw [hF] at HFI hld
      clear HLD
      cases B with
      | true =>
        obtain rfl : none = R := hld
        go_wp2
        go_ret
        exact ⟨rfl, HB2.out⟩
      | false =>
        unfold Pg.raw Rw.val at HFI
        dsimp only at HFI
        cases F with
        | false =>
          obtain rfl : none = R := hld
          go_wp2_with (go_at_call 31; (with_reducible refine HFI.out.mono ?_); rintro e w3 ⟨rfl, hb3⟩)
          go_ret
          exact ⟨rfl, HB2.out.trans (hb3.mono HB2.out.size)⟩
        | true =>
          have hld : loads (ins Ab.wkr (Pg.ab ⟨wkr, inc, ka, kc, keys, ra, rc, rows⟩) (k.map Pg.ab)) ((qs.drop (j + 1)).map Pg.ab) = R := hld
          have HLD := Lib.hid hld
          have HFEW := Lib.hid (show keys.length ≤ 4 ∧ rows.length = keys.length ∧ 1 ≤ keys.length by
            unfold fitsA Pg.ab at hF
            simp only [Bool.and_eq_true, decide_eq_true_eq, List.length_map] at hF
            omega)
          clear hld hF hat2
          go_wp2_with fail
          (with_reducible refine HFI.out.mono ?_)
          rintro e w3 ⟨rfl, hb3⟩
          have HB3 := Lib.hid (HB2.out.trans (hb3.mono HB2.out.size))
          have hc3 := HC2.out.below hb3 (Nat.le_refl _)
          have HC3 := Lib.hid hc3
          have HMP3 := Lib.hid (HMP2.out.below hb3)
          clear p0 p1 p2 p3 hb3 HFI HB2 HC2 HMP2
          obtain ⟨⟨p0, p1, p2, p3⟩, _⟩ := cel4 hc3
          have hbd : Below w3.heap.size w3 w3.drew := (Below.refl _ _).drew
          have HMPd := Lib.hid (HMP3.out.below hbd)
          have HBd := Lib.hid (HB3.out.trans (hbd.mono HB3.out.size))
          have HCd := Lib.hid (hc3.below hbd (Nat.le_refl _))
          have HOW := Lib.hid (own_any ⟨wkr, inc, ka, kc, keys, ra, rc, rows⟩ w3.drew ((HPP.out.1.below HBd.out).at_ HFEW.out.2.2 HFEW.out.2.1))
          unfold Pg.raw Rw.val at HOW
          dsimp only at HOW
          have hwk : wkr.size ≤ 1000000 := HPP.out.2
          have hkl3 : k.length ≤ 6 := by omega
          clear hc3 hbd HMP3 HB3
          go_upto_region 10 with (fail)
          go_region_law (go_simp; go_at_call 21; refine HOW.out.mono ?_; rintro e w4 ⟨⟨yw, yi, yka, ykc, yks, yra, yrc, yrs⟩, rfl, hab4, hkl4, hrl4, hpo4, hb4⟩; have hew : yw = wkr := congrArg Ab.wkr hab4; obtain ⟨w5, hr5, ho5, hg5⟩ := Owns.put (HMPd.out.below hb4).own HMPd.out.asc (by unfold maxLen; omega) (⟨yw, yi, yka, ykc, yks, yra, yrc, yrs⟩ : Pg) (by show yw.size ≤ maxLen; rw [hew]; unfold maxLen; omega); unfold Pg.raw Rw.val at hr5; dsimp only at hr5; have HAB4 := Lib.hid hab4; have HLN4 := Lib.hid (And.intro hkl4 hrl4); have HPO4 := Lib.hid hpo4; have HB4 := Lib.hid hb4; have HO5 := Lib.hid ho5; have HG5 := Lib.hid hg5; rw [hew] at hr5; obtain ⟨⟨j0, j1, j2, j3⟩, _⟩ := cel4 (HCd.out.below hb4 (Nat.le_refl _)); unfold Pg.raw Rw.val; dsimp only; rw [hew]; have HEW := Lib.hid hew; clear hab4 hkl4 hrl4 hpo4 hb4 ho5 hg5 hew)
          all_goals
            clear p0 p1 p2 p3 j0 j1 j2 j3 hr5
            go_wp2
            go_roundw
            case rel =>
              have hln := (len_ins Pg.wkr (x := (⟨yw, yi, yka, ykc, yks, yra, yrc, yrs⟩ : Pg)) k).2
              have hsz : w.heap.size ≤ w3.drew.heap.size := HBd.out.size
              refine ⟨j + 1, ins Pg.wkr ⟨yw, yi, yka, ykc, yks, yra, yrc, yrs⟩ k, by first | rfl | go_num, by omega, by omega, HMPd.out.ins HB4.out HPO4.out (by show yw.size ≤ 1000000; rw [HEW.out]; exact hwk) (by have h1 : yks.length = keys.length := HLN4.out.1; have h2 : yrs.length = rows.length := HLN4.out.2; have h3 := HFEW.out; show yks.length ≤ 4 ∧ yrs.length = yks.length; omega) HO5.out HG5.out hsz, ?_, ?_⟩
              · rw [map_ins Pg.wkr Ab.wkr Pg.ab ab_wkr, HAB4.out]
                exact HLD.out
              · have h1 := HBd.out.trans (HB4.out.mono hsz)
                exact h1.trans ((Kp.of_grown (S := fun x => x = w.heap.size) HG5.out (fun _ _ e => (Option.some.inj e).symm)).below h1.size (fun i hi e => by omega))
            case measure =>
              simp only [intOf]
              omega
    · obtain rfl : j = n := by omega
      have hld := HLD.out
      rw [show qs.drop j = [] from List.drop_eq_nil_of_le (by have := HL.out; omega)] at hld
      have hld : some (k.map Pg.ab) = R := hld
      subst hld
      have c0 := (HB.out.below HBR.out).cel
      have c1 := c0.cell 0 _ rfl
      have f1 := c0.froz 0 (by simp)
      have C0 := Lib.hid c0
      have hk6 : k.length ≤ 6 := by omega
      clear c0 HLD
      go_wp2
      go_ret
      have hkp := set_kp wr q 0 (.map (some w.heap.size))
      have hqlt := HB.out.cel.lt
      have hm2 : Mp w.heap.size (wr.setCell ⟨q, 0, none⟩ (.map (some w.heap.size))) w.heap.size k := by
        have h := HMP.out
        exact ⟨h.asc, hkp.owns h.own (by omega), fun p hp => hkp.pgIn (h.pgs p hp) (fun i hi e => by have := (h.blk p hp i (.inl hi)).1; omega) (fun i hi e => by have := (h.blk p hp i (.inr hi)).1; omega), h.apart, h.still, h.blk, h.bB⟩
      obtain ⟨hbk, hft⟩ := hm2.bk (C0.out.set (i := 0) (by simp) _) hqlt hk6
      exact ⟨rfl, some w.heap.size, k, hbk, rfl, (Kp.of_below (fun x => x = q) HBR.out (Nat.le_refl _)).trans hkp, hft⟩
end Ag
end Go.Proofs.Ytfpennnbicclfaa
