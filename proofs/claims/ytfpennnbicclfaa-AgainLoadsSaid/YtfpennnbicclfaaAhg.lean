/- Package again: the document's Load. -/
import Derived.Test.YtfpennnbicclfaaAhe
namespace Go.Proofs.Ytfpennnbicclfaa
open Go.RowKit

namespace Ag
set_option maxHeartbeats 800000 in
theorem has_ag (A : Option Addr) (n c : Nat) (l : List Int) (B : Nat) (x : Int) (w : World) (hr : KRow iκ w B A n l) (hn : n ≤ 100000) :
    Calls Try.prog 34 #[.slice A n c, .int .i64 x] w fun e w' => e = .returned (.bool (l.any fun y => decide (x = y))) ∧ w = w' := by
  have hl := hr.len (by decide)
  have HR := Lib.hid hr
  clear hr
  go_enter Try.func34, Try.ntmps34
  go_wp2_with fail
  go_loopw [5] (fun i wr => ∃ j : Nat, j ≤ n ∧ i = .int .i64 j ∧ (∀ t, t < j → l[t]! ≠ x) ∧ w = wr) (fun i _ => n - (intOf i).toNat)
  case atStart => exact ⟨0, Nat.zero_le _, rfl, fun t h => absurd h (Nat.not_lt_zero t), rfl⟩
  case round =>
    obtain ⟨j, hj, rfl, hall, rfl⟩ := hrel
    have hj0 : (0 : Int) ≤ (j : Int) := by omega
    by_cases hlt : j < n
    · obtain ⟨b, off, rfl, _, _⟩ := HR.out.2 (by omega)
      have c1 := i_cell HR.out (j := j) (by omega)
      have hI : (j : Int) < (n : Int) := by omega
      by_cases hx : l[j]! = x
      · have hB : (l[j]! == x) = true := beq_iff_eq.2 hx
        have hany : (l.any fun y => decide (x = y)) = true := by
          rw [List.any_eq_true]
          exact ⟨l[j]!, by rw [getElem!_pos l j (by omega)]; exact List.getElem_mem _, decide_eq_true hx.symm⟩
        have HA := Lib.hid hany
        rw [hx] at c1
        clear hany hall hx hB
        go_wp2
        go_ret
        exact ⟨by rw [HA.out]; rfl, rfl⟩
      · have hB : (l[j]! == x) = false := by rw [beq_eq_false_iff_ne]; exact hx
        have HALL := Lib.hid hall
        have HX := Lib.hid hx
        obtain ⟨y, hy⟩ : ∃ y, l[j]! = y := ⟨_, rfl⟩
        rw [hy] at hB c1
        clear hall hx hy
        go_wp2_with fail
        go_roundw
        case measure => simp [intOf]; omega
        case rel =>
          refine ⟨j + 1, by omega, by go_num, fun t ht => ?_, by first | trivial | rfl⟩
          by_cases e : t = j
          · subst e; exact HX.out
          · exact HALL.out t (by omega)
    · obtain rfl : j = n := by omega
      have hI : ¬ (j : Int) < (j : Int) := by omega
      have hany : (l.any fun y => decide (x = y)) = false := by
        rw [List.any_eq_false]
        intro y hy
        obtain ⟨t, ht, rfl⟩ := List.getElem_of_mem hy
        have := hall t (by omega)
        rw [getElem!_pos l t ht] at this
        simpa using fun e => this e.symm
      have HA := Lib.hid hany
      clear hany hall
      go_wp2
      go_ret
      exact ⟨by rw [HA.out]; rfl, rfl⟩
theorem has_q (A : Option Addr) (n c : Nat) (l : List Int) (B : Nat) (x : Int) (w : World) (r : Bool) (hr : KRow iκ w B A n l) (hn : n ≤ 100000) (ha : (l.any fun y => decide (x = y)) = r) (q : Nat) :
    Calls Try.prog 34 #[.slice A n c, .int .i64 x] (w.drewN q) fun e w' => e = .returned (.bool r) ∧ ∃ m, w' = w.drewN m :=
  (has_ag A n c l B x (w.drewN q) (hr.below (below_drewN (Below.refl B w) q) (Nat.le_refl _)) hn).mono fun _ _ ⟨h1, h2⟩ => ⟨by rw [h1, ha], q, h2.symm⟩
theorem krow_take {w : World} {B n j : Nat} {A : Option Addr} {l : List Int} (h : KRow iκ w B A n l) (hj : j ≤ n) : KRow iκ w B A j (l.take j) := by
  have hl := h.len (by decide)
  refine ⟨by rw [Cs.flat_len, List.length_take, Nat.min_eq_left (by omega)], fun h0 => ?_⟩
  obtain ⟨b, off, rfl, hb, hc⟩ := h.2 (by omega)
  refine ⟨b, off, rfl, hb, fun k v hv => hc k v ?_⟩
  have e : l.flatMap iκ.cs = (l.take j).flatMap iκ.cs ++ (l.drop j).flatMap iκ.cs := by rw [← List.flatMap_append, List.take_append_drop]
  rw [e, List.getElem?_append_left (List.getElem?_eq_some_iff.1 hv).1]
  exact hv
/-- What the document's Load tells. -/
def DloadOut (w : World) (x : Nat) (R : Option (List Ab)) (e : Ending) (w' : World) : Prop :=
  match R with
  | none => e = .returned (.bool false) ∧ Below w.heap.size w w'
  | some M => e = .returned (.bool true) ∧ ∃ A' n' c' ps', DcC w' x A' n' c' ps' ∧ ps'.map Pg.ab = M ∧ Kp (fun i => i = x) w w'
/-- A page's literal row. -/
theorem lit_pg (W : World) (p : Pg) : KRow rκ (W.alloc (.cells #[.string p.wkr, .int .i64 p.inc, .slice p.ka p.keys.length p.kc, .slice p.ra p.rows.length p.rc] 52)) (W.alloc (.cells #[.string p.wkr, .int .i64 p.inc, .slice p.ka p.keys.length p.kc, .slice p.ra p.rows.length p.rc] 52)).heap.size (some ⟨W.heap.size, 0, none⟩) 1 [p.raw] :=
  (KRow.lit (κ := rκ) W 52 [p.raw] #[.string p.wkr, .int .i64 p.inc, .slice p.ka p.keys.length p.kc, .slice p.ra p.rows.length p.rc] rfl).mono (by simp)
theorem lit_rw (W : World) (wkr : ByteArray) (inc : Int) (ka : Option Addr) (kn kc : Nat) (ra : Option Addr) (rn rc : Nat) : KRow rκ (W.alloc (.cells #[.string wkr, .int .i64 inc, .slice ka kn kc, .slice ra rn rc] 52)) (W.alloc (.cells #[.string wkr, .int .i64 inc, .slice ka kn kc, .slice ra rn rc] 52)).heap.size (some ⟨W.heap.size, 0, none⟩) 1 [⟨wkr, inc, ka, kn, kc, ra, rn, rc⟩] :=
  (KRow.lit (κ := rκ) W 52 [⟨wkr, inc, ka, kn, kc, ra, rn, rc⟩] #[.string wkr, .int .i64 inc, .slice ka kn kc, .slice ra rn rc] rfl).mono (by simp)
/-- What is out so far. -/
structure LdI (qs : List Pg) (R : Option (List Ab)) (j : Nat) (os : List Pg) : Prop where
  asc : Asc Pg.wkr os
  mem : ∀ p ∈ os, p ∈ qs ∧ fitsA p.ab = true
  len : os.length ≤ j
  ld : loads (os.map Pg.ab) ((qs.drop j).map Pg.ab) = R
theorem LdI.next {qs : List Pg} {R : Option (List Ab)} {j : Nat} {os : List Pg} (h : LdI qs R j os) (hj : j < qs.length) : (if (at? Pg.wkr (qs[j]).wkr os).isSome || !fitsA (qs[j]).ab then none else loads ((ins Pg.wkr qs[j] os).map Pg.ab) ((qs.drop (j + 1)).map Pg.ab)) = R := by
  have h1 := h.ld
  rw [List.drop_eq_getElem_cons hj, List.map_cons] at h1
  unfold loads at h1
  rw [map_ins Pg.wkr Ab.wkr Pg.ab ab_wkr]
  rw [show at? Ab.wkr (Pg.ab qs[j]).wkr (os.map Pg.ab) = (at? Pg.wkr (qs[j]).wkr os).map Pg.ab from map_at Pg.wkr Ab.wkr Pg.ab ab_wkr _ _] at h1
  rw [Option.isSome_map] at h1
  exact h1
theorem LdI.put {qs : List Pg} {R : Option (List Ab)} {j : Nat} {os : List Pg} (h : LdI qs R j os) (hj : j < qs.length) (hf : fitsA (qs[j]).ab = true) (hn : at? Pg.wkr (qs[j]).wkr os = none) : LdI qs R (j + 1) (ins Pg.wkr qs[j] os) := by
  have h1 := h.next hj
  rw [hf, hn, if_neg (by decide)] at h1
  refine ⟨asc_ins Pg.wkr h.asc, fun p hp => ?_, by have := (len_ins Pg.wkr (x := qs[j]) os).2; have := h.len; omega, h1⟩
  rcases (mem_ins Pg.wkr h.asc).1 hp with rfl | ⟨hp, _⟩
  · exact ⟨List.getElem_mem hj, hf⟩
  · exact h.mem p hp
theorem ins_at {x : Pg} {os : List Pg} {u : Nat} (h : Asc Pg.wkr os) (hu : u ≤ os.length) (h1 : ∀ y ∈ os.take u, ltb y.wkr x.wkr = true) (h2 : ∀ (h : u < os.length), ltb (os[u]).wkr x.wkr = false) (h3 : at? Pg.wkr x.wkr os = none) : (ins Pg.wkr x os).map Pg.raw = (os.map Pg.raw).take u ++ [x.raw] ++ (os.map Pg.raw).drop u := by
  rw [ins_new Pg.wkr h hu h1 h2 ((at_none Pg.wkr).1 h3), List.map_append, List.map_cons, List.map_take, List.map_drop]
  simp
theorem at_here {s : ByteArray} {os : List Pg} {u : Nat} (h : Asc Pg.wkr os) (h1 : ∀ y ∈ os.take u, ltb y.wkr s = true) (h2 : ∀ (h : u < os.length), ltb (os[u]).wkr s = false) : (at? Pg.wkr s os).isSome = decide (∃ h : u < os.length, (os[u]).wkr = s) := by
  by_cases hu : ∃ h : u < os.length, (os[u]).wkr = s
  · rw [decide_eq_true hu]
    obtain ⟨hu, rfl⟩ := hu
    rw [at_of Pg.wkr h (List.getElem_mem hu)]
    rfl
  · rw [decide_eq_false hu]
    have : at? Pg.wkr s os = none := (at_none Pg.wkr).2 fun y hy e => by
      obtain ⟨t, ht, rfl⟩ := List.getElem_of_mem hy
      rcases Nat.lt_trichotomy t u with h3 | rfl | h3
      · have h4 := h1 os[t] (by rw [List.mem_take_iff_getElem]; exact ⟨t, by omega, rfl⟩)
        rw [e, ltb_irrefl] at h4
        cases h4
      · exact hu ⟨ht, e⟩
      · have h4 : ltb (os[u]).wkr (os[t]).wkr = true := List.pairwise_iff_getElem.1 h u t (by omega) ht h3
        rw [e, h2 (by omega)] at h4
        cases h4
    rw [this]
    rfl
/-- An append at a step of a region of open order: what is appended may be nil. -/
theorem step_append_ke {P : Program} {α : Type} {κ : Cs α} {ops : Array Oper} {o : Oper} {a : Act} {K : Act → World → Prop} {Q : Exit → Act → World → Prop} {E : Prop} (hgd : o.guard = none) (s x : Operand) (t e : TypeId) (i : TypeInfo) (z : Value) (bytes : Nat)
    (ht : P.underlying t = some (.slice e)) (hi : P.info? e = some i) (hz : i.zero = some z) (hsize : i.size = κ.k) (hby : i.bytes = bytes) (hzs : z.cells.size = κ.k)
    (ho : o.op = .call { callee := .builtin .append, args := #[s, x], argTypes := #[t, t] })
    (w : World) (base B : Nat) (A : Option Addr) (n c : Nat) (l : List α) (A2 : Option Addr) (m c2 : Nat) (vs : List α) (hs : a.eval s = .slice A n c) (hown : OwnK κ w base e A n c l)
    (hx : a.eval x = .slice A2 m c2) (hA : A2 = none → m = 0 ∧ c2 = 0) (hr : KRow κ w B A2 m vs) (hn : n ≤ 1000000) (hm : m ≤ 1000000) (hb : bytes ≤ 1000) (hbase : base ≤ w.heap.size)
    (h : ∀ A' c' w', OwnK κ w' base e A' (n + m) c' (l ++ vs) → Grew w w' (.slice A n c) (.slice A' (n + m) c') → K (a.put o.dst (.slice A' (n + m) c')) w') :
    if Region.wanted o (yielded ops a.tmps) = true then Oper.wp P o a w K Q else E := by
  cases A2 with
  | none =>
    obtain ⟨rfl, rfl⟩ := hA rfl
    obtain rfl : vs = [] := List.eq_nil_of_length_eq_zero (hr.len hown.1)
    have hw : Region.wanted o (yielded ops a.tmps) = true := by simp [Region.wanted, hgd]
    rw [if_pos hw]
    have hrun := run_append_owned_none (P := P) (w := w) base t o.type e i κ.k ht hi (.slice A n c) n (l.flatMap κ.cs) hown.2
    unfold Oper.wp execOp
    simp only [ho, resolve, invoke, builtin, Sem.run_bind, Sem.run_pure, Result.andThen_ok, List.map_toArray, List.map_cons, List.map_nil, hs, hx, hrun]
    exact h A c w (by simpa using hown) (Grew.refl _ _)
  | some ad => exact step_append_kd hgd s x t e i z bytes ht hi hz hsize hby hzs ho w base B A n c l ad m c2 vs hs hown hx hr hn hm hb hbase fun A' c' w' h1 h2 _ => h A' c' w' h1 h2
theorem fits_of {wkr : ByteArray} {inc : Int} {keys : List Int} {reps : List (List UInt8)} : fitsA ⟨wkr, inc, keys, reps⟩ = (decide (keys.length = reps.length) && decide (1 ≤ keys.length) && decide (keys.length ≤ 4) && decide keys.Nodup) := rfl
set_option maxRecDepth 10000 in
set_option maxHeartbeats 3200000 in
theorem dload_any (x : Nat) (A : Option Addr) (n c : Nat) (ps : List Pg) (C : Option Addr) (n5 c5 : Nat) (qs : List Pg) (w : World) (hd : DcC w x A n c ps) (hr : KRow rκ w w.heap.size C n5 (qs.map Pg.raw)) (hp : ∀ p ∈ qs, PgArg w p ∧ p.wkr.size ≤ 1000000) (hs : ∀ p ∈ qs, fitsA p.ab = true → ∀ i, p.own i ∨ p.rd i → i ≠ x) :
    Calls Try.prog 19 #[.pointer (some ⟨x, 0, none⟩), .slice C n5 c5] w (DloadOut w x (loadA (qs.map Pg.ab))) := by
  obtain ⟨i0, hi0, hz0, hz1, hz2⟩ := info_parts info_dpg
  have hl : qs.length = n5 := by have := hr.len (by decide); rwa [List.length_map] at this
  have HD := Lib.hid hd
  have HR := Lib.hid hr
  have HP := Lib.hid hp
  have HSP := Lib.hid hs
  have HL := Lib.hid hl
  obtain ⟨R, hR⟩ : ∃ R, loadA (qs.map Pg.ab) = R := ⟨_, rfl⟩
  rw [hR]
  unfold loadA at hR
  rw [List.length_map, hl] at hR
  by_cases h6 : 6 < n5
  · rw [if_pos h6] at hR
    subst hR
    have hI : (6 : Int) < (n5 : Int) := by omega
    clear hd hr hp hs hl
    go_enter Try.func19, Try.ntmps19
    go_wp2
    go_ret
    exact ⟨rfl, Below.refl _ _⟩
  rw [if_neg h6] at hR
  have HRR := Lib.hid (⟨List.Pairwise.nil, fun _ h => (by cases h), Nat.le_refl _, hR⟩ : LdI qs R 0 [])
  have hI : ¬ (6 : Int) < (n5 : Int) := by omega
  clear hd hr hp hs hl hR
  go_enter Try.func19, Try.ntmps19
  go_wp2_with fail
  go_loopw [5, 6] (fun s5 s6 wr => ∃ (j : Nat) (A4 : Option Addr) (n4 c4 : Nat) (os : List Pg), s5 = .slice A4 n4 c4 ∧ os.length = n4 ∧ s6 = .int .i64 j ∧ j ≤ n5 ∧ OwnK rκ wr w.heap.size 52 A4 n4 c4 (os.map Pg.raw) ∧ LdI qs R j os ∧ Below w.heap.size w wr) (fun _ s6 _ => n5 - (intOf s6).toNat)
  case atStart => exact ⟨0, none, 0, 0, [], rfl, rfl, rfl, Nat.zero_le _, ⟨by decide, World.ownsRow_nil _ _ _ _⟩, HRR.out, Below.refl _ _⟩
  case round =>
    obtain ⟨j, A4, n4, c4, os, rfl, hn4, rfl, hj, hor, hld, hbr⟩ := hrel
    have hj0 : (0 : Int) ≤ (j : Int) := by omega
    have HOR := Lib.hid hor
    have HLD := Lib.hid hld
    have HBR := Lib.hid hbr
    have HN4 := Lib.hid hn4
    clear hor hld hbr hn4 HRR
    by_cases hlt : j < n5
    · have hI2 : (j : Int) < (n5 : Int) := by omega
      have hjl : j < qs.length := by have := HL.out; omega
      obtain ⟨b, off, rfl, _⟩ := HR.out.2 (by omega)
      obtain ⟨k0, k1, k2, k3⟩ := r_cells (HR.out.below HBR.out (Nat.le_refl _)) hjl
      have hpp := HP.out qs[j] (List.getElem_mem hjl)
      have HNX := Lib.hid (HLD.out.next hjl)
      have HPT := Lib.hid (fun h1 h2 => HLD.out.put hjl h1 h2)
      have HASC := Lib.hid HLD.out.asc
      have hn10 : n4 ≤ 6 := by have := HLD.out.len; have := HN4.out; omega
      generalize qs[j] = p at *
      obtain ⟨wkr, inc, ka, kc, keys, ra, rc, rows⟩ := p
      dsimp only at k0 k1 k2 k3
      have hba : Below wr.heap.size wr (wr.alloc (.cells #[.string wkr, .int .i64 inc, .slice ka keys.length kc, .slice ra rows.length rc] 52)) := (Below.refl _ _).alloc (Nat.le_refl _) _
      have HTA := Lib.hid (Cel.lit wr #[.string wkr, .int .i64 inc, .slice ka keys.length kc, .slice ra rows.length rc] 52)
      have HBA := Lib.hid (HBR.out.trans (hba.mono HBR.out.size))
      have HOA := Lib.hid (HOR.out.below hba (Nat.le_refl _))
      have HPP := Lib.hid hpp
      have hfit : fitsA (Pg.ab ⟨wkr, inc, ka, kc, keys, ra, rc, rows⟩) = (decide (keys.length = rows.length) && decide (1 ≤ keys.length) && decide (keys.length ≤ 4) && decide keys.Nodup) := by
        show fitsA ⟨wkr, inc, keys, rows.map Part.l⟩ = _
        rw [fits_of, List.length_map]
      have HNO := Lib.hid (fun (h : fitsA (Pg.ab ⟨wkr, inc, ka, kc, keys, ra, rc, rows⟩) = false) => (show R = none by
        have h1 := HNX.out
        rw [h, Bool.not_false, Bool.or_true, if_pos rfl] at h1
        exact h1.symm))
      have HFT := Lib.hid hfit
      clear hba hpp hfit HOR HLD
      go_upto_region 8 with (fail)
      clear k0 k1 k2 k3
      generalize wr.alloc _ = wa at *
      have hzw : w.heap.size ≤ wr.heap.size := HBR.out.size
      clear HBR
      generalize wr.heap.size = z at *
      obtain ⟨⟨p0, p1, p2, p3⟩, _⟩ := cel4 HTA.out
      by_cases g1 : keys.length = rows.length
      · have g1I : (keys.length : Int) = (rows.length : Int) := by omega
        by_cases g2 : keys.length = 0
        · have g2I : (keys.length : Int) = 0 := by omega
          have g3I : (rows.length : Int) = 0 := by omega
          obtain rfl := HNO.out (by rw [HFT.out, decide_eq_false (show ¬ 1 ≤ keys.length by omega), Bool.and_false, Bool.false_and, Bool.false_and])
          go_wp2
          go_ret
          exact ⟨rfl, HBA.out⟩
        · have g2I : ¬ (keys.length : Int) = 0 := by omega
          have g4I : ¬ (rows.length : Int) = 0 := by omega
          have g2B : ((keys.length : Int) == 0) = false := by simpa using g2I
          have g4B : ((rows.length : Int) == 0) = false := by simpa using g4I
          by_cases g3 : 4 < keys.length
          · have g3I : (4 : Int) < (keys.length : Int) := by omega
            have g5I : (4 : Int) < (rows.length : Int) := by omega
            obtain rfl := HNO.out (by rw [HFT.out, decide_eq_false (show ¬ keys.length ≤ 4 by omega), Bool.and_false, Bool.false_and])
            go_wp2
            go_ret
            exact ⟨rfl, HBA.out⟩
          · have g3I : ¬ (4 : Int) < (keys.length : Int) := by omega
            have g5I : ¬ (4 : Int) < (rows.length : Int) := by omega
            obtain ⟨kb, ko, hka, hkb, _⟩ := HPP.out.1.keys.2 (show 0 < keys.length by omega)
            have hka : ka = some ⟨kb, ko, none⟩ := hka
            subst hka
            have hkc : keys.length ≤ kc := HPP.out.1.cap.1
            have hkm : kc ≤ maxLen := HPP.out.1.cap.2
            go_wp2_with fail
            clear p0 p1 p2 p3
            go_loopw [8] (fun s8 wx => ∃ t : Nat, s8 = .int .i64 t ∧ t ≤ keys.length ∧ (keys.take t).Nodup ∧ Below wa.heap.size wa wx) (fun s8 _ => keys.length - (intOf s8).toNat)
            case atStart => exact ⟨0, rfl, Nat.zero_le _, List.nodup_nil, Below.refl _ _⟩
            case round =>
              obtain ⟨t, rfl, ht, hnd, hbt⟩ := hrel
              have ht0 : (0 : Int) ≤ (t : Int) := by omega
              have HND := Lib.hid hnd
              have HBT := Lib.hid hbt
              obtain ⟨⟨p0, p1, p2, p3⟩, _⟩ := cel4 (HTA.out.below hbt (Nat.le_refl _))
              clear hnd hbt
              by_cases hlt2 : t < keys.length
              · have hI3 : (t : Int) < (keys.length : Int) := by omega
                have htc : (t : Int) ≤ (kc : Int) := by omega
                have hKR := HPP.out.1.keys.below (HBA.out.trans (HBT.out.mono HBA.out.size)) (Nat.le_refl _)
                have hel := i_cell hKR hlt2
                have hns := nodup_step hlt2 HND.out
                obtain ⟨hb, hhb⟩ : ∃ hb, (keys.take t).any (fun y => decide (keys[t]! = y)) = hb := ⟨_, rfl⟩
                have HHQ := Lib.hid (has_q (some ⟨kb, ko, none⟩) t kc (keys.take t) _ keys[t]! wr hb (krow_take hKR (by show t ≤ keys.length; omega)) (by omega) hhb)
                rw [hhb] at hns
                have HNS := Lib.hid hns
                clear hns hKR hhb
                generalize keys[t]! = y at *
                go_upto_region 13 with (fail)
                go_quiet ((go_at_call 34; with_reducible exact HHQ.out _))
                cases hb with
                | true =>
                  obtain rfl := HNO.out (by rw [HFT.out, decide_eq_false (HNS.out.1 rfl), Bool.and_false])
                  go_wp2
                  go_ret
                  exact ⟨rfl, HBA.out.trans ((HBT.out.trans ((by first | exact below_drewN (Below.refl _ _) _ | exact Below.refl _ _ : Below wr.heap.size wr _).mono HBT.out.size)).mono HBA.out.size)⟩
                | false =>
                  go_wp2
                  go_roundw
                  case rel => exact ⟨t + 1, by first | rfl | go_num, by omega, HNS.out.2 rfl, HBT.out.trans ((by first | exact below_drewN (Below.refl _ _) _ | exact Below.refl _ _ : Below wr.heap.size wr _).mono HBT.out.size)⟩
                  case measure =>
                    simp only [intOf]
                    omega
              · obtain rfl : t = keys.length := by omega
                have hnd := HND.out
                rw [List.take_length] at hnd
                have hF : fitsA (Pg.ab ⟨wkr, inc, some ⟨kb, ko, none⟩, kc, keys, ra, rc, rows⟩) = true := by
                  rw [HFT.out, decide_eq_true g1, decide_eq_true (show 1 ≤ keys.length by omega), decide_eq_true (show keys.length ≤ 4 by omega), decide_eq_true hnd]
                  rfl
                have HPT2 := Lib.hid (HPT.out hF)
                have hnx := HNX.out
                rw [hF, Bool.not_true, Bool.or_false] at hnx
                have HNX2 := Lib.hid hnx
                have HC5 := Lib.hid (HTA.out.below HBT.out (Nat.le_refl _))
                have HB5 := Lib.hid (HBA.out.trans (HBT.out.mono HBA.out.size))
                have HO5 := Lib.hid (HOA.out.below HBT.out (Nat.le_refl _))
                clear hnd hF hnx HND HNX HNO HFT HPT HBA HOA HTA HBT hlt2 ht p0 p1 p2 p3 ht0 g1 g1I
                generalize wr = w5 at *
                have hzl := HC5.out.lt
                obtain ⟨⟨p0, p1, p2, p3⟩, _⟩ := cel4 HC5.out
                go_upto_block 4 with (fail)
                clear p0 p1 p2 p3
                go_cut [9] from 60 to 75 (fun s9 wx => ∃ u : Nat, s9 = .int .i64 u ∧ u ≤ n4 ∧ (∀ y ∈ os.take u, ltb y.wkr wkr = true) ∧ (∀ (h : u < os.length), ltb (os[u]).wkr wkr = false) ∧ Below w5.heap.size w5 wx)
                case first =>
                  go_wp2_with fail
                  go_loopw [9] (fun s9 wx => ∃ u : Nat, s9 = .int .i64 u ∧ u ≤ n4 ∧ (∀ y ∈ os.take u, ltb y.wkr wkr = true) ∧ Below w5.heap.size w5 wx) (fun s9 _ => n4 - (intOf s9).toNat)
                  case atStart => exact ⟨0, rfl, Nat.zero_le _, fun y hy => (by cases hy), Below.refl _ _⟩
                  case round =>
                    obtain ⟨u, rfl, hu, hlu, hbx⟩ := hrel
                    have hu0 : (0 : Int) ≤ (u : Int) := by omega
                    have HLU := Lib.hid hlu
                    have HBX := Lib.hid hbx
                    obtain ⟨⟨p0, p1, p2, p3⟩, _⟩ := cel4 (HC5.out.below hbx (Nat.le_refl _))
                    have HOX := Lib.hid (HO5.out.below hbx (Nat.le_refl _))
                    clear hlu hbx p1 p2 p3
                    by_cases hlt3 : u < n4
                    · have hI : (u : Int) < (n4 : Int) := by omega
                      have hul : u < os.length := by have := HN4.out; omega
                      obtain ⟨g, rfl, hgb⟩ : ∃ g, A4 = some ⟨g, 0, none⟩ ∧ w.heap.size ≤ g := by
                        rcases OwnK.form HOX.out with ⟨_, h⟩ | h
                        · omega
                        · exact h
                      obtain ⟨k0, k1, k2, k3⟩ := rw_cells HOX.out.row (j := u) (by rw [List.length_map]; exact hul)
                      rw [List.getElem_map, Nat.zero_add] at k0
                      change wr.cell? ⟨g, u * 4, none⟩ = some (.string (os[u]).wkr) at k0
                      have hle := less_ltb (os[u]).wkr wkr
                      clear k1 k2 k3
                      have HN1 := Lib.hid (fun (h : ltb (os[u]).wkr wkr = true) => less_step (s := wkr) hul HLU.out h)
                      have HN2 := Lib.hid (fun (h : ltb (os[u]).wkr wkr = false) (h2 : u < os.length) => h)
                      by_cases hb : ltb (os[u]).wkr wkr = true
                      · have hn1 := Lib.hid (HN1.out hb)
                        rw [hb] at hle
                        clear HN1 HN2 hb
                        generalize (os[u]).wkr = wk at *
                        go_upto_region 16 with (fail)
                        go_quiet (fail)
                        go_wp2
                        go_roundw
                        case rel => exact ⟨u + 1, by first | rfl | go_num, by omega, hn1.out, HBX.out.trans ((by first | exact below_drewN (Below.refl _ _) _ | exact Below.refl _ _ : Below wr.heap.size wr _).mono HBX.out.size)⟩
                        case measure =>
                          simp only [intOf]
                          omega
                      · have hb : ltb (os[u]).wkr wkr = false := by simpa using hb
                        have hn2 := Lib.hid (HN2.out hb)
                        rw [hb] at hle
                        clear HN1 HN2 hb
                        obtain ⟨wk, hwk⟩ : ∃ wk, (os[u]).wkr = wk := ⟨_, rfl⟩
                        rw [hwk] at k0 hle
                        clear hwk
                        go_upto_region 16 with (fail)
                        go_quiet (fail)
                        go_wp2
                        go_meet
                        exact ⟨u, rfl, by omega, HLU.out, hn2.out, HBX.out.trans ((by first | exact below_drewN (Below.refl _ _) _ | exact Below.refl _ _ : Below wr.heap.size wr _).mono HBX.out.size)⟩
                    · obtain rfl : u = n4 := by omega
                      go_upto_region 16 with (fail)
                      go_quiet (fail)
                      go_wp2
                      go_meet
                      exact ⟨u, rfl, by omega, HLU.out, fun h => absurd HN4.out (by omega), HBX.out.trans ((by first | exact below_drewN (Below.refl _ _) _ | exact Below.refl _ _ : Below wr.heap.size wr _).mono HBX.out.size)⟩
                case rest =>
                  obtain ⟨u, rfl, hu, hlu, hst, hbx⟩ := hcut
                  have hu0 : (0 : Int) ≤ (u : Int) := by omega
                  have HHERE := Lib.hid (at_here (s := wkr) HASC.out hlu hst)
                  have HLU := Lib.hid (And.intro hlu hst)
                  have HC6 := Lib.hid (HC5.out.below hbx (Nat.le_refl _))
                  have HB6 := Lib.hid (HB5.out.trans (hbx.mono HB5.out.size))
                  have HO6 := Lib.hid (HO5.out.below hbx (Nat.le_refl _))
                  clear hlu hst hbx HC5 HB5 HO5
                  generalize wc = w5' at *
                  have S0 := (cel4 HC6.out).1
                  obtain ⟨p0, p1, p2, p3⟩ := S0
                  go_upto_region 18 with (fail)
                  go_cut [89] from 76 to 89 (fun s89 wx => s89 = .bool (decide (∃ h : u < os.length, (os[u]).wkr = wkr)) ∧ Below w5'.heap.size w5' wx)
                  case first =>
                    by_cases hlt3 : u < n4
                    · have hI : (u : Int) < (n4 : Int) := by omega
                      have hul : u < os.length := by have := HN4.out; omega
                      obtain ⟨g, rfl, hgb⟩ : ∃ g, A4 = some ⟨g, 0, none⟩ ∧ w.heap.size ≤ g := by
                        rcases OwnK.form HO6.out with ⟨_, h⟩ | h
                        · omega
                        · exact h
                      obtain ⟨k0, k1, k2, k3⟩ := rw_cells HO6.out.row (j := u) (by rw [List.length_map]; exact hul)
                      rw [List.getElem_map, Nat.zero_add] at k0
                      change w5'.cell? ⟨g, u * 4, none⟩ = some (.string (os[u]).wkr) at k0
                      have htx := text_eq (os[u]).wkr wkr
                      clear k1 k2 k3
                      by_cases he : (os[u]).wkr = wkr
                      · have HDD := Lib.hid (show decide (∃ h : u < os.length, (os[u]).wkr = wkr) = true from decide_eq_true ⟨hul, he⟩)
                        rw [he] at k0 htx
                        rw [decide_eq_true rfl] at htx
                        clear he
                        go_quiet (fail)
                        go_wp2
                        go_meet
                        exact ⟨by rw [HDD.out], by first | exact below_drewN (Below.refl _ _) _ | exact Below.refl _ _⟩
                      · have HDD := Lib.hid (show decide (∃ h : u < os.length, (os[u]).wkr = wkr) = false from decide_eq_false fun ⟨_, h⟩ => he h)
                        rw [decide_eq_false he] at htx
                        obtain ⟨wk, hwk⟩ : ∃ wk, (os[u]).wkr = wk := ⟨_, rfl⟩
                        rw [hwk] at k0 htx
                        clear he hwk
                        go_quiet (fail)
                        go_wp2
                        go_meet
                        exact ⟨by rw [HDD.out], by first | exact below_drewN (Below.refl _ _) _ | exact Below.refl _ _⟩
                    · obtain rfl : u = n4 := by omega
                      have HDD := Lib.hid (show decide (∃ h : u < os.length, (os[u]).wkr = wkr) = false from decide_eq_false fun ⟨h, _⟩ => by have := HN4.out; omega)
                      go_quiet (fail)
                      go_wp2
                      go_meet
                      exact ⟨by rw [HDD.out], by first | exact below_drewN (Below.refl _ _) _ | exact Below.refl _ _⟩
                  case rest =>
                    obtain ⟨hs89, hbx⟩ := hcut
                    rw [← HHERE.out] at hs89
                    have hC7 := HC6.out.below hbx (Nat.le_refl _)
                    have hB7 := HB6.out.trans (hbx.mono HB6.out.size)
                    have hO7 := HO6.out.below hbx (Nat.le_refl _)
                    clear HC6 HB6 HO6 hbx p0 p1 p2 p3
                    have HC6 := Lib.hid hC7
                    have HB6 := Lib.hid hB7
                    have HO6 := Lib.hid hO7
                    clear hC7 hB7 hO7
                    generalize wc = w6 at *
                    have S0 := (cel4 HC6.out).1
                    have hzl6 := HC6.out.lt
                    cases hat : at? Pg.wkr wkr os with
                    | some y =>
                      rw [hat] at hs89
                      have hnx := HNX2.out
                      rw [show at? Pg.wkr (Pg.mk wkr inc (some ⟨kb, ko, none⟩) kc keys ra rc rows).wkr os = some y from hat, Option.isSome_some, if_pos rfl] at hnx
                      subst hnx
                      subst hs89
                      go_wp2
                      go_ret
                      exact ⟨rfl, HB6.out⟩
                    | none =>
                      rw [hat] at hs89
                      have hs89 : _ = Value.bool false := hs89
                      subst hs89
                      have HPT9 := Lib.hid (HPT2.out hat)
                      have HINS := Lib.hid (ins_at (x := (⟨wkr, inc, some ⟨kb, ko, none⟩, kc, keys, ra, rc, rows⟩ : Pg)) HASC.out (by have := HN4.out; omega) HLU.out.1 HLU.out.2 hat)
                      have huI : (u : Int) ≤ (n4 : Int) := by omega
                      clear hat HHERE HLU HNX2 HPT2
                      rcases OwnK.form HO6.out with ⟨hA0, h0⟩ | ⟨g, rfl, hgb⟩
                      · subst hA0
                        have hc0 : c4 = 0 := by
                          rcases OwnK.pl HO6.out with ⟨_, _, h⟩ | ⟨_, _, h⟩
                          · exact h
                          · cases h
                        subst hc0
                        subst h0
                        obtain rfl : u = 0 := by omega
                        obtain rfl : os = [] := List.eq_nil_of_length_eq_zero HN4.out
                        have HR1 := Lib.hid (fun (W : World) (_ : Below w6.heap.size w6 W) => (RowS.nil W W.heap.size 4 none : KRow rκ W W.heap.size none 0 ((([] : List Pg).map Pg.raw).take 0)))
                        obtain ⟨p0, p1, p2, p3⟩ := S0
                        have S0 := And.intro p0 (And.intro p1 (And.intro p2 p3))
                        have HX0 : Hid (Below w6.heap.size w6 w6.drew) := Lib.hid (Below.refl _ _).drew
                        have HX1 : Hid (Below w6.heap.size w6 (w6.drew.alloc (.cells #[] 52))) := Lib.hid (bel_alloc HX0.out _)
                        have HX2 : Hid (Below w6.heap.size w6 ((w6.drew.alloc (.cells #[] 52)).alloc (.cells #[.string wkr, .int .i64 inc, .slice (some ⟨kb, ko, none⟩) keys.length kc, .slice ra rows.length rc] 52))) := Lib.hid (bel_alloc HX1.out _)
                        have HX3 : Hid (Below w6.heap.size w6 ((w6.drew.alloc (.cells #[.string wkr, .int .i64 inc, .slice (some ⟨kb, ko, none⟩) keys.length kc, .slice ra rows.length rc] 52)).alloc (.cells #[] 52))) := Lib.hid (bel_alloc (bel_alloc HX0.out _) _)
                        have HN1 := Lib.hid (nil_row' HX0.out)
                        have HN2 := Lib.hid (OwnK.alloc HN1.out (.cells #[.string wkr, .int .i64 inc, .slice (some ⟨kb, ko, none⟩) keys.length kc, .slice ra rows.length rc] 52))
                        have hz3' : (w6.drew.alloc (.cells #[.string wkr, .int .i64 inc, .slice (some ⟨kb, ko, none⟩) keys.length kc, .slice ra rows.length rc] 52)).heap.size = w6.heap.size + 1 := by simp
                        have HN3 : Hid (OwnK rκ ((w6.drew.alloc (.cells #[.string wkr, .int .i64 inc, .slice (some ⟨kb, ko, none⟩) keys.length kc, .slice ra rows.length rc] 52)).alloc (.cells #[] 52)) w6.heap.size 52 (some ⟨w6.heap.size + 1, 0, none⟩) 0 0 []) := Lib.hid (by rw [← hz3']; exact nil_row' (bel_alloc HX0.out _))
                        clear hz3'
                        have hz1' : (w6.drew.alloc (.cells #[] 52)).heap.size = w6.heap.size + 1 := by simp
                        have HL2 : Hid (KRow rκ ((w6.drew.alloc (.cells #[] 52)).alloc (.cells #[.string wkr, .int .i64 inc, .slice (some ⟨kb, ko, none⟩) keys.length kc, .slice ra rows.length rc] 52)) ((w6.drew.alloc (.cells #[] 52)).alloc (.cells #[.string wkr, .int .i64 inc, .slice (some ⟨kb, ko, none⟩) keys.length kc, .slice ra rows.length rc] 52)).heap.size (some ⟨w6.heap.size + 1, 0, none⟩) 1 [(⟨wkr, inc, some ⟨kb, ko, none⟩, keys.length, kc, ra, rows.length, rc⟩ : Rw)]) := Lib.hid (by rw [← hz1']; exact lit_rw (w6.drew.alloc (.cells #[] 52)) wkr inc (some ⟨kb, ko, none⟩) keys.length kc ra rows.length rc)
                        clear hz1'
                        have HL3 := Lib.hid (KRow.alloc (lit_rw w6.drew wkr inc (some ⟨kb, ko, none⟩) keys.length kc ra rows.length rc) (.cells #[] 52))
                        have HE2 : Hid (w6.heap.size + 1 ≠ w6.drew.heap.size) := Lib.hid (by simp)
                        have HE3 : Hid (w6.drew.heap.size ≠ w6.heap.size + 1) := Lib.hid (by simp)
                        go_upto_region 20 with (fail)
                        go_region_held3 (fun w' => w'.cell? ⟨z, 0, none⟩ = some (.string wkr) ∧ w'.cell? ⟨z, 1, none⟩ = some (.int .i64 inc) ∧ w'.cell? ⟨z, 2, none⟩ = some (.slice (some ⟨kb, ko, none⟩) keys.length kc) ∧ w'.cell? ⟨z, 3, none⟩ = some (.slice ra rows.length rc)) (first | exact S94 | exact S0 | go_keep) (first
                          | (refine step_append_ke (κ := rκ) rfl (.tmp 90) (.tmp 93) 29 52 i0 _ 72 Try.underlying29 hi0 hz0 hz1 hz2 rfl rfl (w6.drew.alloc (.cells #[] 52)) w6.heap.size _ _ 0 0 [] none 0 0 ((([] : List Pg).map Pg.raw).take 0) rfl HN1.out rfl (fun _ => ⟨by omega, rfl⟩) (HR1.out _ HX1.out) (by omega) (by omega) (by decide) HX1.out.size ?_
                             intro A94 c94 w94 ho94 hg94
                             rw [Nat.zero_add] at ho94 hg94 ⊢
                             rw [List.nil_append] at ho94
                             have HO94 := Lib.hid ho94
                             have HB94 := Lib.hid (HX1.out.trans (hg94.below HN1.out.2 HX1.out.size))
                             have S94 := (cel4 (HC6.out.below HB94.out (Nat.le_refl _))).1
                             clear ho94 hg94)
                          | (refine step_append_ke (κ := rκ) rfl (.tmp 90) (.tmp 93) 29 52 i0 _ 72 Try.underlying29 hi0 hz0 hz1 hz2 rfl rfl ((w6.drew.alloc (.cells #[] 52)).alloc (.cells #[.string wkr, .int .i64 inc, .slice (some ⟨kb, ko, none⟩) keys.length kc, .slice ra rows.length rc] 52)) w6.heap.size _ _ 0 0 [] none 0 0 ((([] : List Pg).map Pg.raw).take 0) rfl HN2.out rfl (fun _ => ⟨by omega, rfl⟩) (HR1.out _ HX2.out) (by omega) (by omega) (by decide) HX2.out.size ?_
                             intro A94 c94 w94 ho94 hg94
                             rw [Nat.zero_add] at ho94 hg94 ⊢
                             rw [List.nil_append] at ho94
                             have HO94 := Lib.hid ho94
                             have HB94 := Lib.hid (HX2.out.trans (hg94.below HN2.out.2 HX2.out.size))
                             have S94 := (cel4 (HC6.out.below HB94.out (Nat.le_refl _))).1
                             have HLIT := Lib.hid (KRow.grew hg94 HL2.out HE2.out)
                             clear ho94 hg94)
                          | (refine step_append_ke (κ := rκ) rfl (.tmp 90) (.tmp 93) 29 52 i0 _ 72 Try.underlying29 hi0 hz0 hz1 hz2 rfl rfl ((w6.drew.alloc (.cells #[.string wkr, .int .i64 inc, .slice (some ⟨kb, ko, none⟩) keys.length kc, .slice ra rows.length rc] 52)).alloc (.cells #[] 52)) w6.heap.size _ _ 0 0 [] none 0 0 ((([] : List Pg).map Pg.raw).take 0) rfl HN3.out rfl (fun _ => ⟨by omega, rfl⟩) (HR1.out _ HX3.out) (by omega) (by omega) (by decide) HX3.out.size ?_
                             intro A94 c94 w94 ho94 hg94
                             rw [Nat.zero_add] at ho94 hg94 ⊢
                             rw [List.nil_append] at ho94
                             have HO94 := Lib.hid ho94
                             have HB94 := Lib.hid (HX3.out.trans (hg94.below HN3.out.2 HX3.out.size))
                             have S94 := (cel4 (HC6.out.below HB94.out (Nat.le_refl _))).1
                             have HLIT := Lib.hid (KRow.grew hg94 HL3.out HE3.out)
                             clear ho94 hg94)
                          | (refine step_append_k (κ := rκ) rfl (.tmp 94) (.tmp 96) 29 52 i0 _ 72 Try.underlying29 hi0 hz0 hz1 hz2 rfl rfl (w94) w6.heap.size _ A94 0 c94 ((([] : List Pg).map Pg.raw).take 0) ⟨_, 0, none⟩ ((⟨wkr, inc, some ⟨kb, ko, none⟩, keys.length, kc, ra, rows.length, rc⟩ : Rw)) rfl (HO94.out) rfl (HLIT.out) (by omega) (by decide) (HB94.out).size ?_
                             intro A97 c97 w97 ho97 hg97
                             have HO97 := Lib.hid ho97
                             have HB97 := Lib.hid ((HB94.out).trans (hg97.below (HO94.out).2 (HB94.out).size))
                             have S94 := (cel4 (HC6.out.below HB97.out (Nat.le_refl _))).1
                             clear ho97 hg97)
                          | (refine step_append_k (κ := rκ) rfl (.tmp 94) (.tmp 96) 29 52 i0 _ 72 Try.underlying29 hi0 hz0 hz1 hz2 rfl rfl (w94.alloc (.cells #[.string wkr, .int .i64 inc, .slice (some ⟨kb, ko, none⟩) keys.length kc, .slice ra rows.length rc] 52)) w6.heap.size _ A94 0 c94 ((([] : List Pg).map Pg.raw).take 0) ⟨w94.heap.size, 0, none⟩ ((⟨wkr, inc, some ⟨kb, ko, none⟩, keys.length, kc, ra, rows.length, rc⟩ : Rw)) rfl (OwnK.alloc HO94.out _) rfl (lit_rw w94 wkr inc (some ⟨kb, ko, none⟩) keys.length kc ra rows.length rc) (by omega) (by decide) (bel_alloc HB94.out _).size ?_
                             intro A97 c97 w97 ho97 hg97
                             have HO97 := Lib.hid ho97
                             have HB97 := Lib.hid ((bel_alloc HB94.out _).trans (hg97.below (OwnK.alloc HO94.out _).2 (bel_alloc HB94.out _).size))
                             have S94 := (cel4 (HC6.out.below HB97.out (Nat.le_refl _))).1
                             clear ho97 hg97))
                        all_goals
                          clear S94 S0 p0 p1 p2 p3 HR1 HX0 HX1 HX2 HX3 HN1 HN2 HN3 HL2 HL3 HE2 HE3
                          go_wp2_with (at_builtin; refine append_kd (κ := rκ) rfl (.tmp 98) (.tmp 101) 29 52 i0 _ 72 Try.underlying29 hi0 hz0 hz1 hz2 rfl rfl w97 w6.heap.size w97.heap.size A97 (0 + 1) c97 _ none 0 0 [] rfl HO97.out rfl (fun _ => ⟨rfl, rfl⟩) (RowS.nil _ _ 4 _) (by omega) (by omega) (by decide) HB97.out.size ?_; intro A102 c102 w102 ho102 hg102 _; have HO102 := Lib.hid ho102; have HB102 := Lib.hid (HB97.out.trans (hg102.below HO97.out.2 HB97.out.size)); clear ho102 hg102)
                          go_roundw
                          case rel =>
                            refine ⟨j + 1, A102, _, c102, ins Pg.wkr (⟨wkr, inc, some ⟨kb, ko, none⟩, kc, keys, ra, rc, rows⟩ : Pg) _, rfl, ?_, by first | rfl | go_num, by omega, ?_, HPT9.out, HB6.out.trans (HB102.out.mono HB6.out.size)⟩
                            · have h := congrArg List.length HINS.out
                              rw [List.length_map] at h
                              rw [h]
                              simp
                              try (have := HN4.out; omega)
                            · rw [HINS.out]
                              have h := OwnK.lower HO102.out HB6.out.size
                              rw [List.append_nil] at h
                              exact h
                          case measure =>
                            simp only [intOf]
                            omega
                      · have hcj := (OwnK.caps HO6.out).1
                        have hucI : (u : Int) ≤ (c4 : Int) := by omega
                        have hjcI : (n4 : Int) ≤ (c4 : Int) := by omega
                        have HR1 := Lib.hid (fun (W : World) (hW : Below w6.heap.size w6 W) => RowS.mono (RowS.below (KRow.slice HO6.out.row (by decide) (i := 0) (m := u) (by omega)) hW (Nat.le_refl _)) hW.size)
                        simp only [List.drop_zero, Nat.zero_mul, Nat.add_zero] at HR1
                        obtain ⟨p0, p1, p2, p3⟩ := S0
                        have S0 := And.intro p0 (And.intro p1 (And.intro p2 p3))
                        have HX0 : Hid (Below w6.heap.size w6 w6.drew) := Lib.hid (Below.refl _ _).drew
                        have HX1 : Hid (Below w6.heap.size w6 (w6.drew.alloc (.cells #[] 52))) := Lib.hid (bel_alloc HX0.out _)
                        have HX2 : Hid (Below w6.heap.size w6 ((w6.drew.alloc (.cells #[] 52)).alloc (.cells #[.string wkr, .int .i64 inc, .slice (some ⟨kb, ko, none⟩) keys.length kc, .slice ra rows.length rc] 52))) := Lib.hid (bel_alloc HX1.out _)
                        have HX3 : Hid (Below w6.heap.size w6 ((w6.drew.alloc (.cells #[.string wkr, .int .i64 inc, .slice (some ⟨kb, ko, none⟩) keys.length kc, .slice ra rows.length rc] 52)).alloc (.cells #[] 52))) := Lib.hid (bel_alloc (bel_alloc HX0.out _) _)
                        have HN1 := Lib.hid (nil_row' HX0.out)
                        have HN2 := Lib.hid (OwnK.alloc HN1.out (.cells #[.string wkr, .int .i64 inc, .slice (some ⟨kb, ko, none⟩) keys.length kc, .slice ra rows.length rc] 52))
                        have hz3' : (w6.drew.alloc (.cells #[.string wkr, .int .i64 inc, .slice (some ⟨kb, ko, none⟩) keys.length kc, .slice ra rows.length rc] 52)).heap.size = w6.heap.size + 1 := by simp
                        have HN3 : Hid (OwnK rκ ((w6.drew.alloc (.cells #[.string wkr, .int .i64 inc, .slice (some ⟨kb, ko, none⟩) keys.length kc, .slice ra rows.length rc] 52)).alloc (.cells #[] 52)) w6.heap.size 52 (some ⟨w6.heap.size + 1, 0, none⟩) 0 0 []) := Lib.hid (by rw [← hz3']; exact nil_row' (bel_alloc HX0.out _))
                        clear hz3'
                        have hz1' : (w6.drew.alloc (.cells #[] 52)).heap.size = w6.heap.size + 1 := by simp
                        have HL2 : Hid (KRow rκ ((w6.drew.alloc (.cells #[] 52)).alloc (.cells #[.string wkr, .int .i64 inc, .slice (some ⟨kb, ko, none⟩) keys.length kc, .slice ra rows.length rc] 52)) ((w6.drew.alloc (.cells #[] 52)).alloc (.cells #[.string wkr, .int .i64 inc, .slice (some ⟨kb, ko, none⟩) keys.length kc, .slice ra rows.length rc] 52)).heap.size (some ⟨w6.heap.size + 1, 0, none⟩) 1 [(⟨wkr, inc, some ⟨kb, ko, none⟩, keys.length, kc, ra, rows.length, rc⟩ : Rw)]) := Lib.hid (by rw [← hz1']; exact lit_rw (w6.drew.alloc (.cells #[] 52)) wkr inc (some ⟨kb, ko, none⟩) keys.length kc ra rows.length rc)
                        clear hz1'
                        have HL3 := Lib.hid (KRow.alloc (lit_rw w6.drew wkr inc (some ⟨kb, ko, none⟩) keys.length kc ra rows.length rc) (.cells #[] 52))
                        have HE2 : Hid (w6.heap.size + 1 ≠ w6.drew.heap.size) := Lib.hid (by simp)
                        have HE3 : Hid (w6.drew.heap.size ≠ w6.heap.size + 1) := Lib.hid (by simp)
                        go_upto_region 20 with (fail)
                        go_region_held3 (fun w' => w'.cell? ⟨z, 0, none⟩ = some (.string wkr) ∧ w'.cell? ⟨z, 1, none⟩ = some (.int .i64 inc) ∧ w'.cell? ⟨z, 2, none⟩ = some (.slice (some ⟨kb, ko, none⟩) keys.length kc) ∧ w'.cell? ⟨z, 3, none⟩ = some (.slice ra rows.length rc)) (first | exact S94 | exact S0 | go_keep) (first
                          | (refine step_append_ke (κ := rκ) rfl (.tmp 90) (.tmp 93) 29 52 i0 _ 72 Try.underlying29 hi0 hz0 hz1 hz2 rfl rfl (w6.drew.alloc (.cells #[] 52)) w6.heap.size _ _ 0 0 [] (some ⟨g, 0, none⟩) u c4 ((os.map Pg.raw).take u) rfl HN1.out rfl (fun h => by cases h) (HR1.out _ HX1.out) (by omega) (by omega) (by decide) HX1.out.size ?_
                             intro A94 c94 w94 ho94 hg94
                             rw [Nat.zero_add] at ho94 hg94 ⊢
                             rw [List.nil_append] at ho94
                             have HO94 := Lib.hid ho94
                             have HB94 := Lib.hid (HX1.out.trans (hg94.below HN1.out.2 HX1.out.size))
                             have S94 := (cel4 (HC6.out.below HB94.out (Nat.le_refl _))).1
                             clear ho94 hg94)
                          | (refine step_append_ke (κ := rκ) rfl (.tmp 90) (.tmp 93) 29 52 i0 _ 72 Try.underlying29 hi0 hz0 hz1 hz2 rfl rfl ((w6.drew.alloc (.cells #[] 52)).alloc (.cells #[.string wkr, .int .i64 inc, .slice (some ⟨kb, ko, none⟩) keys.length kc, .slice ra rows.length rc] 52)) w6.heap.size _ _ 0 0 [] (some ⟨g, 0, none⟩) u c4 ((os.map Pg.raw).take u) rfl HN2.out rfl (fun h => by cases h) (HR1.out _ HX2.out) (by omega) (by omega) (by decide) HX2.out.size ?_
                             intro A94 c94 w94 ho94 hg94
                             rw [Nat.zero_add] at ho94 hg94 ⊢
                             rw [List.nil_append] at ho94
                             have HO94 := Lib.hid ho94
                             have HB94 := Lib.hid (HX2.out.trans (hg94.below HN2.out.2 HX2.out.size))
                             have S94 := (cel4 (HC6.out.below HB94.out (Nat.le_refl _))).1
                             have HLIT := Lib.hid (KRow.grew hg94 HL2.out HE2.out)
                             clear ho94 hg94)
                          | (refine step_append_ke (κ := rκ) rfl (.tmp 90) (.tmp 93) 29 52 i0 _ 72 Try.underlying29 hi0 hz0 hz1 hz2 rfl rfl ((w6.drew.alloc (.cells #[.string wkr, .int .i64 inc, .slice (some ⟨kb, ko, none⟩) keys.length kc, .slice ra rows.length rc] 52)).alloc (.cells #[] 52)) w6.heap.size _ _ 0 0 [] (some ⟨g, 0, none⟩) u c4 ((os.map Pg.raw).take u) rfl HN3.out rfl (fun h => by cases h) (HR1.out _ HX3.out) (by omega) (by omega) (by decide) HX3.out.size ?_
                             intro A94 c94 w94 ho94 hg94
                             rw [Nat.zero_add] at ho94 hg94 ⊢
                             rw [List.nil_append] at ho94
                             have HO94 := Lib.hid ho94
                             have HB94 := Lib.hid (HX3.out.trans (hg94.below HN3.out.2 HX3.out.size))
                             have S94 := (cel4 (HC6.out.below HB94.out (Nat.le_refl _))).1
                             have HLIT := Lib.hid (KRow.grew hg94 HL3.out HE3.out)
                             clear ho94 hg94)
                          | (refine step_append_k (κ := rκ) rfl (.tmp 94) (.tmp 96) 29 52 i0 _ 72 Try.underlying29 hi0 hz0 hz1 hz2 rfl rfl (w94) w6.heap.size _ A94 u c94 ((os.map Pg.raw).take u) ⟨_, 0, none⟩ ((⟨wkr, inc, some ⟨kb, ko, none⟩, keys.length, kc, ra, rows.length, rc⟩ : Rw)) rfl (HO94.out) rfl (HLIT.out) (by omega) (by decide) (HB94.out).size ?_
                             intro A97 c97 w97 ho97 hg97
                             have HO97 := Lib.hid ho97
                             have HB97 := Lib.hid ((HB94.out).trans (hg97.below (HO94.out).2 (HB94.out).size))
                             have S94 := (cel4 (HC6.out.below HB97.out (Nat.le_refl _))).1
                             clear ho97 hg97)
                          | (refine step_append_k (κ := rκ) rfl (.tmp 94) (.tmp 96) 29 52 i0 _ 72 Try.underlying29 hi0 hz0 hz1 hz2 rfl rfl (w94.alloc (.cells #[.string wkr, .int .i64 inc, .slice (some ⟨kb, ko, none⟩) keys.length kc, .slice ra rows.length rc] 52)) w6.heap.size _ A94 u c94 ((os.map Pg.raw).take u) ⟨w94.heap.size, 0, none⟩ ((⟨wkr, inc, some ⟨kb, ko, none⟩, keys.length, kc, ra, rows.length, rc⟩ : Rw)) rfl (OwnK.alloc HO94.out _) rfl (lit_rw w94 wkr inc (some ⟨kb, ko, none⟩) keys.length kc ra rows.length rc) (by omega) (by decide) (bel_alloc HB94.out _).size ?_
                             intro A97 c97 w97 ho97 hg97
                             have HO97 := Lib.hid ho97
                             have HB97 := Lib.hid ((bel_alloc HB94.out _).trans (hg97.below (OwnK.alloc HO94.out _).2 (bel_alloc HB94.out _).size))
                             have S94 := (cel4 (HC6.out.below HB97.out (Nat.le_refl _))).1
                             clear ho97 hg97))
                        all_goals
                          have HR2 := Lib.hid (RowS.mono (RowS.below (KRow.slice HO6.out.row (by decide) (i := u) (m := n4 - u) (by omega)) HB97.out (Nat.le_refl _)) HB97.out.size)
                          have HOZ := Lib.hid (OwnK.len HO6.out)
                          clear S94 S0 p0 p1 p2 p3 HR1 HX0 HX1 HX2 HX3 HN1 HN2 HN3 HL2 HL3 HE2 HE3
                          have hju : ((n4 : Int) - (u : Int)).toNat = n4 - u := by omega
                          have hcu : ((c4 : Int) - (u : Int)).toNat = c4 - u := by omega
                          by_cases huc : u = c4
                          · subst huc
                            go_wp2_with (at_builtin; refine append_kd (κ := rκ) rfl (.tmp 98) (.tmp 101) 29 52 i0 _ 72 Try.underlying29 hi0 hz0 hz1 hz2 rfl rfl w97 w6.heap.size w97.heap.size A97 (u + 1) c97 _ (some ⟨g, 0, none⟩) 0 0 [] rfl HO97.out rfl (fun h => by cases h) (KRow.nil _ _ _) (by omega) (by omega) (by decide) HB97.out.size ?_; intro A102 c102 w102 ho102 hg102 _; have HO102 := Lib.hid ho102; have HB102 := Lib.hid (HB97.out.trans (hg102.below HO97.out.2 HB97.out.size)); clear ho102 hg102)
                            go_roundw
                            case rel =>
                              refine ⟨j + 1, A102, _, c102, ins Pg.wkr (⟨wkr, inc, some ⟨kb, ko, none⟩, kc, keys, ra, rc, rows⟩ : Pg) os, rfl, ?_, by first | rfl | go_num, by omega, ?_, HPT9.out, HB6.out.trans (HB102.out.mono HB6.out.size)⟩
                              · have h := congrArg List.length HINS.out
                                rw [List.length_map] at h
                                rw [h]
                                simp
                                try (have := HN4.out; omega)
                              · rw [HINS.out]
                                have h := OwnK.lower HO102.out HB6.out.size
                                rw [List.append_nil] at h
                                rw [List.drop_of_length_le (by have := HOZ.out; omega), List.append_nil]
                                exact h
                            case measure =>
                              simp only [intOf]
                              omega
                          · have HR3 : Hid (KRow rκ w97 w97.heap.size (some ⟨g, u * 4, none⟩) (n4 - u) ((os.map Pg.raw).drop u)) := Lib.hid (by
                              have h := HR2.out
                              rw [List.take_of_length_le (by rw [List.length_drop]; have := HOZ.out; omega), Nat.zero_add] at h
                              exact h)
                            clear HR2
                            go_wp2_with (at_builtin; refine append_kd (κ := rκ) rfl (.tmp 98) (.tmp 101) 29 52 i0 _ 72 Try.underlying29 hi0 hz0 hz1 hz2 rfl rfl w97 w6.heap.size w97.heap.size A97 (u + 1) c97 _ (some ⟨g, u * 4, none⟩) (n4 - u) (c4 - u) ((os.map Pg.raw).drop u) rfl HO97.out rfl (fun h => by cases h) HR3.out (by omega) (by omega) (by decide) HB97.out.size ?_; intro A102 c102 w102 ho102 hg102 _; have HO102 := Lib.hid ho102; have HB102 := Lib.hid (HB97.out.trans (hg102.below HO97.out.2 HB97.out.size)); clear ho102 hg102)
                            go_roundw
                            case rel =>
                              refine ⟨j + 1, A102, _, c102, ins Pg.wkr (⟨wkr, inc, some ⟨kb, ko, none⟩, kc, keys, ra, rc, rows⟩ : Pg) os, rfl, ?_, by first | rfl | go_num, by omega, ?_, HPT9.out, HB6.out.trans (HB102.out.mono HB6.out.size)⟩
                              · have h := congrArg List.length HINS.out
                                rw [List.length_map] at h
                                rw [h]
                                simp
                                try (have := HN4.out; omega)
                              · rw [HINS.out]
                                have h := OwnK.lower HO102.out HB6.out.size
                                exact h
                            case measure =>
                              simp only [intOf]
                              omega
      · have g1I : ¬ (keys.length : Int) = (rows.length : Int) := by omega
        have g1B : ((keys.length : Int) == (rows.length : Int)) = false := by simpa using g1I
        obtain rfl := HNO.out (by rw [HFT.out, decide_eq_false g1, Bool.false_and, Bool.false_and, Bool.false_and])
        go_wp2
        go_ret
        exact ⟨rfl, HBA.out⟩
    · obtain rfl : j = n5 := by omega
      have hld := HLD.out.ld
      rw [show qs.drop j = [] from List.drop_eq_nil_of_le (by have := HL.out; omega)] at hld
      have hld : some (os.map Pg.ab) = R := hld
      subst hld
      have c0 := (HD.out.below HBR.out).cel
      have c1 := c0.cell 0 _ rfl
      have f1 := c0.froz 0 (by simp)
      have C0 := Lib.hid c0
      clear c0
      go_wp2
      go_ret
      have hkp := kp_setCell wr x 0 (.slice A4 n4 c4)
      have hxl := HD.out.cel.lt
      have hn4 := HN4.out
      have hlj := HLD.out.len
      have hdr : ∀ i, DR A4 os i → i ≠ x := fun i hi => by
        rcases hi with ⟨a, ha, rfl⟩ | ⟨p, hp, hi⟩
        · have := (HOR.out.block ha).1
          omega
        · exact HSP.out p (HLD.out.mem p hp).1 (HLD.out.mem p hp).2 i hi
      refine ⟨rfl, A4, n4, c4, os, ⟨C0.out.set (i := 0) (by simp) _, RowS.mono (hkp.row HOR.out.row (Nat.le_refl _) (fun _ a ha e => hdr _ (.inl ⟨a, ha, rfl⟩) e)) hkp.size, OwnK.pl HOR.out, OwnK.caps HOR.out, fun p hp => ?_, by omega, hdr⟩, rfl, (Kp.of_below (fun i => i = x) HBR.out (Nat.le_refl _)).trans hkp⟩
      obtain ⟨h1, h2⟩ := HLD.out.mem p hp
      obtain ⟨h3, h4⟩ := HP.out p h1
      obtain ⟨h5, h6, _, _⟩ := fits_iff.1 h2
      have h5 : p.keys.length = (p.rows.map Part.l).length := h5
      rw [List.length_map] at h5
      have h6 : 1 ≤ p.keys.length := h6
      exact ⟨((h3.below HBR.out).at_ h6 h5.symm).kept hkp (fun i hi e => hdr i (.inr ⟨p, hp, hi⟩) e), h5.symm, h4⟩
end Ag
end Go.Proofs.Ytfpennnbicclfaa
