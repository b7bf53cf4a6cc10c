/- Package again: the document's book: Look. -/
import Derived.Test.YtfpennnbicclfaaAgv
namespace Go.Proofs.Ytfpennnbicclfaa
open Go.RowKit

namespace Ag
/-- The blocks that a row of pages reads. -/
def DR (A : Option Addr) (ps : List Pg) (i : Nat) : Prop := (∃ a, A = some a ∧ a.block = i) ∨ ∃ p ∈ ps, p.own i ∨ p.rd i
/-- The document's book in memory: one cell, a slice of pages. -/
structure DcC (w : World) (x : Nat) (A : Option Addr) (n c : Nat) (ps : List Pg) : Prop where
  cel : Cel w x [.slice A n c]
  row : KRow rκ w w.heap.size A n (ps.map Pg.raw)
  pl : Pl A n c
  cap : n ≤ c ∧ c ≤ maxLen
  pgs : ∀ p ∈ ps, PgAt w p ∧ p.rows.length = p.keys.length ∧ p.wkr.size ≤ 1000000
  few : n ≤ 1000
  sep : ∀ i, DR A ps i → i ≠ x
theorem DcC.len {w : World} {x : Nat} {A : Option Addr} {n c : Nat} {ps : List Pg} (h : DcC w x A n c ps) : ps.length = n := by
  have := h.row.len (by decide)
  rwa [List.length_map] at this
theorem DcC.below {w w' : World} {x : Nat} {A : Option Addr} {n c : Nat} {ps : List Pg} (h : DcC w x A n c ps) (hb : Below w.heap.size w w') : DcC w' x A n c ps :=
  ⟨h.cel.below hb (Nat.le_refl _), (h.row.below hb (Nat.le_refl _)).mono hb.size, h.pl, h.cap, fun p hp => ⟨(h.pgs p hp).1.below hb, (h.pgs p hp).2⟩, h.few, h.sep⟩
theorem PgAt.kept {S : Nat → Prop} {w w' : World} {p : Pg} (h : PgAt w p) (hk : Kp S w w') (hs : ∀ i, p.own i ∨ p.rd i → ¬ S i) : PgAt w' p :=
  ⟨h.kp, h.rp, RowS.mono (hk.row h.keys (Nat.le_refl _) (fun _ a ha => hs _ (.inl (.inl ⟨a, ha, rfl⟩)))) hk.size, RowS.mono (hk.row h.rows (Nat.le_refl _) (fun _ a ha => hs _ (.inl (.inr ⟨a, ha, rfl⟩)))) hk.size, fun r hr => hk.rpIn (h.rep r hr) (fun h0 a ha => hs _ (.inr ⟨r, hr, h0, a, ha, rfl⟩)), h.few, h.cap⟩
theorem DcC.kp {S : Nat → Prop} {w w' : World} {x : Nat} {A : Option Addr} {n c : Nat} {ps : List Pg} (h : DcC w x A n c ps) (hk : Kp S w w') (hs : ∀ i, i = x ∨ DR A ps i → ¬ S i) : DcC w' x A n c ps :=
  ⟨hk.cel h.cel (hs x (.inl rfl)), RowS.mono (hk.row h.row (Nat.le_refl _) (fun _ a ha => hs _ (.inr (.inl ⟨a, ha, rfl⟩)))) hk.size, h.pl, h.cap, fun p hp => ⟨(h.pgs p hp).1.kept hk (fun i hi => hs i (.inr (.inr ⟨p, hp, hi⟩))), (h.pgs p hp).2⟩, h.few, h.sep⟩
theorem text_eq (a b : ByteArray) : (a.toList == b.toList) = decide (a = b) := by
  rw [Bool.eq_iff_iff, beq_iff_eq, decide_eq_true_iff, ByteArray.toList_eq, ByteArray.toList_eq]
  exact ⟨data_inj, fun e => by rw [e]⟩
theorem look_at {M : List Ab} {s : ByteArray} {i k : Int} {p : Ab} (h : at? Ab.wkr s M = some p) : look M s i k = if p.inc < i then (0, []) else if i < p.inc then (2, []) else
    if Lib.idxBy (fun x y => decide (x = y)) p.keys k < 0 then (0, []) else (1, p.reps[(Lib.idxBy (fun x y => decide (x = y)) p.keys k).toNat]!) := by
  unfold look
  rw [h]
theorem at_take {ps : List Pg} {s : ByteArray} {j : Nat} (hj : j < ps.length) (h : ∀ y ∈ ps.take j, y.wkr ≠ s) (he : (ps[j]).wkr = s) : at? Ab.wkr s (ps.map Pg.ab) = some (ps[j]).ab := by
  rw [map_at Pg.wkr Ab.wkr Pg.ab ab_wkr]
  have e : ps.take j ++ ps[j] :: ps.drop (j + 1) = ps := by
    rw [← List.drop_eq_getElem_cons hj, List.take_append_drop]
  have h1 : (ps.take j ++ ps[j] :: ps.drop (j + 1)).find? (fun y => decide (y.wkr = s)) = some ps[j] := by
    rw [List.find?_append]
    have h2 : (ps.take j).find? (fun y => decide (y.wkr = s)) = none := by
      rw [List.find?_eq_none]
      intro y hy
      simpa using h y hy
    have h3 : (ps[j] :: ps.drop (j + 1)).find? (fun y => decide (y.wkr = s)) = some ps[j] := by
      rw [List.find?_cons, decide_eq_true he]
    rw [h2, h3]
    rfl
  rw [e] at h1
  have h1 : at? Pg.wkr s ps = some ps[j] := h1
  rw [h1]
  rfl
/-- What the document's Look tells. -/
def DlookOut (w : World) (r : Int × List UInt8) (e : Ending) (w' : World) : Prop := ∃ A' n' c', e = .returned (.tuple #[.int .i64 r.1, .slice A' n' c']) ∧ Bytes w' w'.heap.size A' n' r.2 ∧ n' ≤ 140737488355328 ∧ Below w.heap.size w w'
set_option maxRecDepth 10000 in
set_option maxHeartbeats 3200000 in
theorem dlook_any (x : Nat) (A : Option Addr) (n c : Nat) (ps : List Pg) (s : ByteArray) (i k : Int) (w : World) (hd : DcC w x A n c ps) :
    Calls Try.prog 15 #[.pointer (some ⟨x, 0, none⟩), .agg #[.string s, .int .i64 i, .int .i64 k]] w (DlookOut w (look (ps.map Pg.ab) s i k)) := by
  obtain ⟨r, hr⟩ : ∃ r, look (ps.map Pg.ab) s i k = r := ⟨_, rfl⟩
  rw [hr]
  have HR := Lib.hid hr
  have HD := Lib.hid hd
  have HL := Lib.hid hd.len
  have hb1 : Below w.heap.size w (w.alloc (.cells #[.string s, .int .i64 i, .int .i64 k] 39)) := (Below.refl _ _).alloc (Nat.le_refl _) _
  have HB1 := Lib.hid hb1
  have HC1 := Lib.hid (Cel.lit w #[.string s, .int .i64 i, .int .i64 k] 39)
  have c0 := (hd.below hb1).cel.cell 0 _ rfl
  clear hr hd hb1
  go_enter Try.func15, Try.ntmps15
  go_wp2_with fail
  generalize w.alloc _ = w1 at *
  clear c0
  go_loopw [6] (fun s6 wr => ∃ j : Nat, s6 = .int .i64 j ∧ j ≤ n ∧ (∀ y ∈ ps.take j, y.wkr ≠ s) ∧ Cel wr w.heap.size [.string s, .int .i64 i, .int .i64 k] ∧ Below w.heap.size w wr) (fun s6 _ => n - (intOf s6).toNat)
  case atStart => exact ⟨0, rfl, Nat.zero_le _, fun y hy => (by cases hy), HC1.out, HB1.out⟩
  case round =>
    clear HC1 HB1
    obtain ⟨j, rfl, hj, hne, hch, hbr⟩ := hrel
    have hj0 : (0 : Int) ≤ (j : Int) := by omega
    have HNE := Lib.hid hne
    have HCH := Lib.hid hch
    have HBR := Lib.hid hbr
    have hdr := HD.out.below hbr
    have c0 := hdr.cel.cell 0 _ rfl
    have hcap := HD.out.cap
    have hfew := HD.out.few
    clear hne hbr
    by_cases hlt : j < n
    · have hI : (j : Int) < (n : Int) := by omega
      have hjl : j < ps.length := by have := HL.out; omega
      obtain ⟨b, off, rfl, _⟩ := hdr.row.2 (by omega)
      obtain ⟨k0, k1, k2, k3⟩ := r_cells hdr.row hjl
      have hpg := hdr.pgs ps[j] (List.getElem_mem hjl)
      have HAT := Lib.hid (fun (he : (ps[j]).wkr = s) => at_take hjl HNE.out he)
      have HNE2 := Lib.hid (fun (he : (ps[j]).wkr ≠ s) (y : Pg) (hy : y ∈ ps.take (j + 1)) => (show y.wkr ≠ s by
        rw [List.take_succ_eq_append_getElem hjl] at hy
        rcases List.mem_append.1 hy with hy | hy
        · exact HNE.out y hy
        · rw [List.mem_singleton] at hy
          rw [hy]
          exact he))
      have hba : Below wr.heap.size wr (wr.alloc (.cells #[.string (ps[j]).wkr, .int .i64 (ps[j]).inc, .slice (ps[j]).ka (ps[j]).keys.length (ps[j]).kc, .slice (ps[j]).ra (ps[j]).rows.length (ps[j]).rc] 52)) := (Below.refl _ _).alloc (Nat.le_refl _) _
      have hta : Cel (wr.alloc (.cells #[.string (ps[j]).wkr, .int .i64 (ps[j]).inc, .slice (ps[j]).ka (ps[j]).keys.length (ps[j]).kc, .slice (ps[j]).ra (ps[j]).rows.length (ps[j]).rc] 52)) wr.heap.size [.string (ps[j]).wkr, .int .i64 (ps[j]).inc, .slice (ps[j]).ka (ps[j]).keys.length (ps[j]).kc, .slice (ps[j]).ra (ps[j]).rows.length (ps[j]).rc] := Cel.lit wr #[.string (ps[j]).wkr, .int .i64 (ps[j]).inc, .slice (ps[j]).ka (ps[j]).keys.length (ps[j]).kc, .slice (ps[j]).ra (ps[j]).rows.length (ps[j]).rc] 52
      have hcha := hch.below hba (Nat.le_refl _)
      have HBa := Lib.hid (HBR.out.trans (hba.mono HBR.out.size))
      have HPG := Lib.hid (And.intro (hpg.1.below hba) hpg.2.1)
      have htx := text_eq (ps[j]).wkr s
      obtain ⟨d0, d1, d2⟩ := cel3 hch
      obtain ⟨b0, b1, b2⟩ := cel3 hcha
      clear hpg hba hdr
      generalize ps[j] = p at *
      obtain ⟨wkr, inc, ka, kc, keys, ra, rc, rows⟩ := p
      dsimp only at *
      by_cases he : wkr = s
      · have hat := HAT.out he
        have hlk := (look_at (k := k) hat).symm.trans HR.out
        subst he
        have htx : (wkr.toList == wkr.toList) = true := by rw [htx]; simp
        clear HAT HNE2 HNE HR hat
        have hlk : (if inc < i then ((0 : Int), ([] : List UInt8)) else if i < inc then (2, []) else if Lib.idxBy (fun x y => decide (x = y)) keys k < 0 then (0, []) else (1, (rows.map Part.l)[(Lib.idxBy (fun x y => decide (x = y)) keys k).toNat]!)) = r := hlk
        by_cases h2 : i < inc
        · have h3 : ¬ inc < i := by omega
          rw [if_neg h3, if_pos h2] at hlk
          subst hlk
          go_wp2
          refine bodyPost_ret (results_tmp2 rfl _ _ _) rfl ?_
          exact ⟨none, 0, 0, rfl, Row.nil _ _ _, by decide, HBa.out⟩
        · have HLK := Lib.hid hlk
          have hinc : ¬ i < inc := h2
          have HINC := Lib.hid h2
          clear hlk
          go_wp2_with fail
          clear k0 k1 k2 k3 d0 d1 d2 b0 b1 b2 c0
          generalize wr.alloc _ = wa at *
          have HTA := Lib.hid hta
          have HCHA := Lib.hid hcha
          have hz := hta.lt
          generalize wr.heap.size = z at *
          clear hta hcha htx
          go_loopw [8] (fun s8 wx => ∃ t : Nat, s8 = .int .i64 t ∧ t ≤ keys.length ∧ (inc = i → ∀ u, u < t → keys[u]! ≠ k) ∧ Below wa.heap.size wa wx) (fun s8 _ => keys.length - (intOf s8).toNat)
          case atStart => exact ⟨0, rfl, Nat.zero_le _, fun _ u hu => absurd hu (Nat.not_lt_zero _), Below.refl _ _⟩
          case round =>
            obtain ⟨t, rfl, ht, hnk, hbt⟩ := hrel
            have ht0 : (0 : Int) ≤ (t : Int) := by omega
            have hk1000 := HPG.out.1.few
            have hrk := HPG.out.2
            dsimp only at hk1000 hrk
            have HNK := Lib.hid hnk
            have HBT := Lib.hid hbt
            obtain ⟨⟨p0, p1, p2, p3⟩, _⟩ := cel4 (HTA.out.below hbt (Nat.le_refl _))
            obtain ⟨d0, d1, d2⟩ := cel3 (HCHA.out.below hbt (Nat.le_refl _))
            clear hnk hbt
            by_cases hlt2 : t < keys.length
            · have hI3 : (t : Int) < (keys.length : Int) := by omega
              obtain ⟨kb, ko, rfl⟩ : ∃ b off, ka = some ⟨b, off, none⟩ := by
                rcases HPG.out.1.kp with ⟨_, h0, _⟩ | h
                · dsimp only at h0
                  omega
                · exact h
              have hel := i_cell (HPG.out.1.keys.below HBT.out (Nat.le_refl _)) hlt2
              have hST := Lib.hid (fun (h : ¬ (inc = i ∧ keys[t]! = k)) (hi : inc = i) (u : Nat) (hu : u < t + 1) => (show keys[u]! ≠ k by
                by_cases e : u = t
                · rw [e]; exact fun e2 => h ⟨hi, e2⟩
                · exact HNK.out hi u (by omega)))
              have hHIT := Lib.hid (fun (h : inc = i ∧ keys[t]! = k) => (show (1, (rows[t]!).l) = r by
                have hx : Lib.idxBy (fun x y => decide (x = y)) keys k = ((t : Nat) : Int) := by
                  have := Lib.idxByFrom_hit (fun x y : Int => decide (x = y)) k keys t 0 hlt2 (decide_eq_true h.2.symm) (fun u hu => decide_eq_false fun e => HNK.out h.1 u hu e.symm)
                  unfold Lib.idxBy
                  rw [this, Nat.zero_add]
                have h1 := HLK.out
                have h3 : ¬ inc < i := by omega
                have h4 : ¬ ((t : Int) < 0) := by omega
                rw [if_neg h3, if_neg (show ¬ i < inc by have := HINC.out; omega), hx, if_neg h4, Int.toNat_natCast, getElem!_pos _ t (by rw [List.length_map]; omega), List.getElem_map] at h1
                rw [getElem!_pos rows t (by omega)]
                exact h1))
              by_cases hit : inc = i ∧ keys[t]! = k
              · have HR1 := Lib.hid (hHIT.out hit)
                obtain ⟨e1, e2⟩ := hit
                rw [e2] at hel
                subst e1
                obtain ⟨rb, ro, rfl⟩ : ∃ b off, ra = some ⟨b, off, none⟩ := by
                  rcases HPG.out.1.rp with ⟨_, h0, _⟩ | h
                  · dsimp only at h0
                    omega
                  · exact h
                have htr : t < rows.length := by omega
                have htI : (t : Int) < (rows.length : Int) := by omega
                have hrl := p_cell (HPG.out.1.rows.below HBT.out (Nat.le_refl _)) htr
                have hrp := (Kp.of_below (fun _ => False) HBT.out (Nat.le_refl _)).rpIn (HPG.out.1.rep rows[t] (List.getElem_mem htr)) (fun _ _ _ => id)
                have hgr : rows[t]! = rows[t] := getElem!_pos rows t htr
                have HRP := Lib.hid hrp
                clear hrp hST hHIT HNK HLK
                rw [← hgr] at hrl HRP
                clear hgr
                generalize rows[t]! = rp at *
                obtain ⟨pa, pn, pc, pl⟩ := rp
                dsimp only at hrl
                have FIN : Hid (∀ W, Below wr.heap.size wr W → DlookOut w r (.returned (.tuple #[.int .i64 1, .slice pa pn pc])) W) := fun W hW => by
                  have hr9 : (1, pl) = r := HR1.out
                  rw [← hr9]
                  exact ⟨pa, pn, pc, rfl, RowS.mono (RowS.below (show Bytes wr wr.heap.size pa pn pl from HRP.out.row) hW (Nat.le_refl _)) hW.size, HRP.out.len, HBa.out.trans ((HBT.out.trans (hW.mono HBT.out.size)).mono HBa.out.size)⟩
                clear HR1 HRP
                go_upto_region 11 with (fail)
                go_quiet (fail)
                go_upto_region 12 with (fail)
                go_quiet (fail)
                go_wp2
                refine bodyPost_ret (results_tmp2 rfl _ _ _) rfl ?_
                refine FIN.out _ ?_
                first | exact below_drewN (Below.refl _ _) _ | exact below_drewN (below_drewN (Below.refl _ _) _) _
              · have hst := Lib.hid (hST.out hit)
                clear hST hHIT
                go_upto_region 11 with (fail)
                by_cases hii : inc = i
                · have hkk : ¬ keys[t]! = k := fun e => hit ⟨hii, e⟩
                  have hkk2 : (keys[t]! == k) = false := by simpa using hkk
                  clear hit
                  subst hii
                  generalize keys[t]! = y at *
                  go_quiet (fail)
                  go_wp2
                  go_roundw
                  case rel => exact ⟨t + 1, by first | rfl | go_num, by omega, (fun _ => hst.out rfl), HBT.out.trans ((by first | exact below_drewN (below_drewN (Below.refl _ _) _) _ | exact below_drewN (Below.refl _ _) _ : Below wr.heap.size wr _).mono HBT.out.size)⟩
                  case measure =>
                    simp only [intOf]
                    omega
                · have hii2 : (inc == i) = false := by simpa using hii
                  clear hit
                  go_quiet (fail)
                  go_wp2
                  go_roundw
                  case rel => exact ⟨t + 1, by first | rfl | go_num, by omega, hst.out, HBT.out.trans ((by first | exact below_drewN (below_drewN (Below.refl _ _) _) _ | exact below_drewN (Below.refl _ _) _ : Below wr.heap.size wr _).mono HBT.out.size)⟩
                  case measure =>
                    simp only [intOf]
                    omega
            · obtain rfl : t = keys.length := by omega
              have hr0 : (0, []) = r := by
                have h1 := HLK.out
                by_cases h3 : inc < i
                · rw [if_pos h3] at h1
                  exact h1
                · have hx : Lib.idxBy (fun x y => decide (x = y)) keys k = -1 := by
                    have := Lib.idxByFrom_miss (fun x y : Int => decide (x = y)) k keys 0 (fun u hu => decide_eq_false fun e => HNK.out (by have := HINC.out; omega) u hu e.symm)
                    unfold Lib.idxBy
                    exact this
                  rw [if_neg h3, if_neg (show ¬ i < inc by have := HINC.out; omega), hx, if_pos (by decide)] at h1
                  exact h1
              subst hr0
              go_wp2
              refine bodyPost_ret (results_tmp2 rfl _ _ _) rfl ?_
              exact ⟨none, 0, 0, rfl, Row.nil _ _ _, by decide, HBa.out.trans (HBT.out.mono HBa.out.size)⟩
      · have hne2 := HNE2.out he
        have htx : (wkr.toList == s.toList) = false := by rw [htx, decide_eq_false he]
        clear HAT HNE2
        go_wp2
        go_roundw
        case rel => exact ⟨j + 1, by first | rfl | go_num, by omega, hne2, hcha, HBa.out⟩
        case measure =>
          simp only [intOf]
          omega
    · obtain rfl : j = n := by omega
      have hno : at? Ab.wkr s (ps.map Pg.ab) = none := by
        rw [map_at Pg.wkr Ab.wkr Pg.ab ab_wkr, (at_none Pg.wkr).2 (by have h1 := HNE.out; rw [List.take_of_length_le (by have := HL.out; omega)] at h1; exact h1)]
        rfl
      have hlk := HR.out
      unfold look at hlk
      rw [hno, List.length_map, HL.out] at hlk
      dsimp only at hlk
      clear HR hch
      by_cases h6 : j < 6
      · rw [if_pos h6] at hlk
        subst hlk
        have hI6 : ¬ (6 : Int) ≤ (j : Int) := by omega
        go_wp2
        refine bodyPost_ret (results_tmp2 rfl _ _ _) rfl ?_
        exact ⟨none, 0, 0, rfl, Row.nil _ _ _, by decide, HBR.out⟩
      · rw [if_neg h6] at hlk
        subst hlk
        have hI6 : (6 : Int) ≤ (j : Int) := by omega
        go_wp2
        refine bodyPost_ret (results_tmp2 rfl _ _ _) rfl ?_
        exact ⟨none, 0, 0, rfl, Row.nil _ _ _, by decide, HBR.out⟩
end Ag
end Go.Proofs.Ytfpennnbicclfaa
