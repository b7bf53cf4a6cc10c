/- The document's parser: Parse. -/
import Derived.Test.YtddedbpbenkdoaaGreatDoorYProcessOne5
import Derived.Test.YtddedbpbenkdoaaGreatDoorYProcessOne13
namespace Go.Proofs.YtddedbpbenkdoaaGreatDoor
open Go.RowKit

/-- A fault's three cells written. -/
def dset3 (w : World) (z : Nat) (c : Int) (b : Bool) (k : Int) : World :=
  ((w.setCell ⟨z, 0, none⟩ (.int .i64 c)).setCell ⟨z, 1, none⟩ (.bool b)).setCell ⟨z, 2, none⟩ (.int .i64 k)
theorem dset3_grown (w : World) (z : Nat) (c : Int) (b : Bool) (k : Int) : w.grownBy (dset3 w z c b k) (some z) :=
  set_grown (set_grown (set_grown (World.grownBy.refl _ _) 0 _) 1 _) 2 _
theorem Cel.dthree {w : World} {z : Nat} {v0 v1 v2 : Value} (h : Cel w z [v0, v1, v2]) (c : Int) (b : Bool) (k : Int) : Cel (dset3 w z c b k) z [.int .i64 c, .bool b, .int .i64 k] :=
  ((h.set (i := 0) (by simp) _).set (i := 1) (by simp) _).set (i := 2) (by simp) _
theorem Cel.dthree_of {w : World} {z : Nat} {v0 v1 v2 : Value} (h : Cel w z [v0, v1, v2]) : (w.cell? ⟨z, 0, none⟩ = some v0 ∧ w.cell? ⟨z, 1, none⟩ = some v1 ∧ w.cell? ⟨z, 2, none⟩ = some v2) ∧ w.frozen? ⟨z, 0, none⟩ = false ∧ w.frozen? ⟨z, 1, none⟩ = false ∧ w.frozen? ⟨z, 2, none⟩ = false :=
  ⟨⟨h.cell 0 _ rfl, h.cell 1 _ rfl, h.cell 2 _ rfl⟩, h.froz 0 (by simp), h.froz 1 (by simp), h.froz 2 (by simp)⟩
namespace Pr
theorem cond_long {s : ByteArray} (h : 80 < s.size) : condBad s = 105 := by
  unfold condBad Co.parse
  rw [if_pos (by simpa using h)]
theorem cond_of {s : ByteArray} (h : s.size ≤ 80) {e : Co.Tr} {st : Co.St} (hp : Co.parts s.data.toList 140 0 0 (Co.next s.data.toList ⟨0, 0, 0, none⟩) = some (e, st)) :
    condBad s = match (if st.kind = 1 then st else Co.fail 111 st).err with | some x => x.1 | none => 0 := by
  unfold condBad Co.parse
  rw [if_neg (by simp; omega), hp]
  simp only []
  cases (if st.kind = 1 then st else Co.fail 111 st).err <;> rfl
theorem cond_bad {s : ByteArray} (h : s.size ≤ 80) {e : Co.Tr} {st : Co.St} (hp : Co.parts s.data.toList 140 0 0 (Co.next s.data.toList ⟨0, 0, 0, none⟩) = some (e, st)) {c : Int} {k : Nat} (he : Co.eff st = some (c, k)) : condBad s = c := by
  rw [cond_of h hp]
  by_cases hk : st.kind = 1
  · rw [if_pos hk, Co.eff_of he (by omega)]
  · rw [if_neg hk]
    cases hx : st.err with
    | some x =>
      rw [Co.failD_err hx, hx]
      rw [Co.eff_err hx] at he
      cases he; rfl
    | none =>
      unfold Co.fail
      rw [hx]
      unfold Co.eff at he
      rw [hx] at he
      by_cases h0 : st.kind = 0
      · simp [h0] at he ⊢; exact he.1
      · simp [h0] at he
theorem cond_rest {s : ByteArray} (h : s.size ≤ 80) {e : Co.Tr} {st : Co.St} (hp : Co.parts s.data.toList 140 0 0 (Co.next s.data.toList ⟨0, 0, 0, none⟩) = some (e, st)) (he : st.err = none) (hk : st.kind ≠ 1) : condBad s = 111 := by
  rw [cond_of h hp, if_neg hk]
  unfold Co.fail
  rw [he]
  rfl
theorem cond_fine {s : ByteArray} (h : s.size ≤ 80) {e : Co.Tr} {st : Co.St} (hp : Co.parts s.data.toList 140 0 0 (Co.next s.data.toList ⟨0, 0, 0, none⟩) = some (e, st)) (he : st.err = none) (hk : st.kind = 1) : condBad s = 0 := by
  rw [cond_of h hp, if_pos hk, he]
theorem parse_end {W w4 : World} {v0 v1 v2 : Value} (HZ : Cel w4 W.heap.size Ex.zero.list) (HF : Cel w4 (W.heap.size + 1) [v0, v1, v2]) (HB : Below W.heap.size W w4) (y : Ex) (c : Int) (b : Bool) (k : Int) :
    Cel (dset3 (set6 w4 W.heap.size y) (W.heap.size + 1) c b k).drew W.heap.size y.list ∧ Cel (dset3 (set6 w4 W.heap.size y) (W.heap.size + 1) c b k).drew (W.heap.size + 1) [.int .i64 c, .bool b, .int .i64 k] ∧ Below W.heap.size W (dset3 (set6 w4 W.heap.size y) (W.heap.size + 1) c b k).drew := by
  have hff := (HF.kept (set6_grown w4 W.heap.size y) (by intro e; have := Option.some.inj e; omega)).dthree c b k
  have hfin := (HZ.six y).kept (dset3_grown (set6 w4 W.heap.size y) (W.heap.size + 1) c b k) (by intro e; have := Option.some.inj e; omega)
  have hbf := (HB.grown (set6_grown w4 W.heap.size y) HB.size (fun k hk => by have := Option.some.inj hk; omega)).grown (dset3_grown (set6 w4 W.heap.size y) (W.heap.size + 1) c b k) (by have := HB.size; simpa [set6] using this) (fun k hk => by have := Option.some.inj hk; omega)
  exact ⟨hfin.drewN 1, hff.drewN 1, hbf.drew⟩
set_option maxRecDepth 10000 in
set_option maxHeartbeats 1600000 in
theorem refparse_any : RefParse := by
  intro s W hs
  have HZ0 := Cel.lit W #[.int .i64 0, .int .i64 0, .int .i64 0, .string ⟨#[]⟩, .string ⟨#[]⟩, .slice none 0 0] 87
  obtain ⟨wa, hwa⟩ : ∃ wa, wa = W.alloc (.cells #[.int .i64 0, .int .i64 0, .int .i64 0, .string ⟨#[]⟩, .string ⟨#[]⟩, .slice none 0 0] 87) := ⟨_, rfl⟩
  have hza : wa.heap.size = W.heap.size + 1 := by rw [hwa]; simp
  rw [← hwa] at HZ0
  have HF0 := Cel.lit wa #[.int .i64 0, .bool false, .int .i64 0] 41
  have hba : Below W.heap.size W wa := by rw [hwa]; exact (Below.refl _ _).alloc (Nat.le_refl _) _
  have HB := Lib.hid (hba.alloc hba.size (.cells #[.int .i64 0, .bool false, .int .i64 0] 41))
  have HZ := Lib.hid (HZ0.alloc (.cells #[.int .i64 0, .bool false, .int .i64 0] 41))
  rw [hza] at HF0
  have HF := Lib.hid HF0
  have hzb : (wa.alloc (.cells #[.int .i64 0, .bool false, .int .i64 0] 41)).heap.size = W.heap.size + 2 := by simp; omega
  clear HZ0 HF0 hba
  by_cases hsz : s.size ≤ 80
  · have hszI : ¬ (80 : Int) < (s.size : Int) := by omega
    obtain ⟨e, st, hpp⟩ : ∃ e st, Co.parts s.data.toList 140 0 0 (Co.next s.data.toList ⟨0, 0, 0, none⟩) = some (e, st) := by
      obtain ⟨e, st, h1, _⟩ := Co.parts_tot (l := s.data.toList) (by simpa using hsz) 140 0 0 (by decide) (by decide) (by decide) (Co.next s.data.toList ⟨0, 0, 0, none⟩) Co.start_gd
      exact ⟨e, st, h1⟩
    have HPP := Lib.hid hpp
    have HDP := Lib.hid (fun q => dparts_any (q := q) hsz 140 0 0 (by decide) (.inl rfl) (by decide) _ _ _ hpp)
    have HGD := Lib.hid (Co.start_gd (l := s.data.toList))
    clear hpp hs
    go_enter Tryz.func46, Tryz.ntmps46
    go_upto_region 4 with (fail)
    rw [← hwa]
    clear hwa
    generalize wa.alloc _ = wb at *
    have HX : Hid (Cel (wb.alloc (.cells #[.string s, .int .i64 0, .int .i64 0, .string ⟨#[]⟩, .int .i64 0, .bool false, .int .i64 0, .int .i64 0] 107)) (W.heap.size + 2) (Dq.list s ⟨0, 0, ⟨(Co.text s.data.toList ⟨0, 0, 0, none⟩).toArray⟩, 0, false, 0, 0⟩)) := cel_at (Cel.lit wb _ _) hzb
    have HZ1 := Lib.hid (HZ.out.alloc (.cells #[.string s, .int .i64 0, .int .i64 0, .string ⟨#[]⟩, .int .i64 0, .bool false, .int .i64 0, .int .i64 0] 107))
    have HF1 := Lib.hid (HF.out.alloc (.cells #[.string s, .int .i64 0, .int .i64 0, .string ⟨#[]⟩, .int .i64 0, .bool false, .int .i64 0, .int .i64 0] 107))
    have HB1 := Lib.hid (HB.out.alloc HB.out.size (.cells #[.string s, .int .i64 0, .int .i64 0, .string ⟨#[]⟩, .int .i64 0, .bool false, .int .i64 0, .int .i64 0] 107))
    clear HZ HF HB
    have NX := Lib.hid (dnext_any (st := ⟨0, 0, 0, none⟩) (d := 0) HX.out rfl (Nat.zero_le _) hsz)
    go_wp2_with fail
    refine NX.out.mono ?_
    rintro e1 w2 ⟨rfl, ⟨x2, hx2, hs2⟩, hg2⟩
    have HC : Hid (Calls Tryz.prog 60 #[.pointer (some ⟨W.heap.size + 2, 0, none⟩), .int .i64 0] w2 fun x w' => (∃ y, x = .returned (Ex.val y)) ∧ DpC w' (W.heap.size + 2) s st 0 ∧ w2.grownBy w' (some (W.heap.size + 2))) :=
      HDP.out (W.heap.size + 2) w2 ⟨HGD.out, x2, hx2, hs2⟩
    have HZ2 : Hid (Cel w2 W.heap.size Ex.zero.list) := HZ1.out.kept hg2 (by intro e; have := Option.some.inj e; omega)
    have HF2 := Lib.hid (HF1.out.kept hg2 (by intro e; have := Option.some.inj e; omega))
    have HB2 := Lib.hid (HB1.out.grown hg2 HB1.out.size (fun k hk => by have := Option.some.inj hk; omega))
    clear hx2 hs2 hg2 HX NX HZ1 HF1 HB1 HDP HGD
    go_wp2_with fail
    refine HC.out.mono ?_
    rintro e2 w3 ⟨⟨y, rfl⟩, h3, hg3⟩
    have HZ3 := Lib.hid (HZ2.out.kept hg3 (by intro e; have := Option.some.inj e; omega))
    have HF3 := Lib.hid (HF2.out.kept hg3 (by intro e; have := Option.some.inj e; omega))
    have HB3 := Lib.hid (HB2.out.grown hg3 HB2.out.size (fun k hk => by have := Option.some.inj hk; omega))
    have H3 := Lib.hid h3
    have hl3 := h3.lt
    clear h3 hg3 HC HZ2 HF2 HB2
    unfold Ex.val
    go_upto_region 6 with (fail)
    have H4 := Lib.hid (H3.out.alloc (.cells #[.int .i64 y.op, .int .i64 y.kind, .int .i64 y.num, .string y.txt, .string y.name, .slice y.A y.n y.c] 87))
    have HZ4 : Hid (Cel _ W.heap.size Ex.zero.list) := HZ3.out.alloc (.cells #[.int .i64 y.op, .int .i64 y.kind, .int .i64 y.num, .string y.txt, .string y.name, .slice y.A y.n y.c] 87)
    have HF4 := Lib.hid (HF3.out.alloc (.cells #[.int .i64 y.op, .int .i64 y.kind, .int .i64 y.num, .string y.txt, .string y.name, .slice y.A y.n y.c] 87))
    have HB4 := Lib.hid (HB3.out.alloc HB3.out.size (.cells #[.int .i64 y.op, .int .i64 y.kind, .int .i64 y.num, .string y.txt, .string y.name, .slice y.A y.n y.c] 87))
    have HY4 : Hid (Cel (w3.alloc (.cells #[.int .i64 y.op, .int .i64 y.kind, .int .i64 y.num, .string y.txt, .string y.name, .slice y.A y.n y.c] 87)) w3.heap.size y.list) := Lib.hid (Cel.lit w3 #[.int .i64 y.op, .int .i64 y.kind, .int .i64 y.num, .string y.txt, .string y.name, .slice y.A y.n y.c] 87)
    clear H3 HZ3 HF3 HB3
    generalize w3.alloc _ = w4 at *
    obtain ⟨x, hx, hs⟩ := H4.out.ex
    have FI := Lib.hid (dfine_any hx)
    have HX := Lib.hid hx
    have hcs : Hid (Cel w4 (W.heap.size + 2) (x.list s)) := HX
    by_cases hb : x.c = 0
    · cases hs with
      | bad a n d' wd c k hc he => exact absurd hb hc
      | fine he hk1 =>
        have HX4 : Hid (Cel w4 (W.heap.size + 2) (Dq.list s (Dq.good s st 0))) := hx
        obtain ⟨⟨_, k1, _, k3, _, _, _, _⟩, _⟩ := Dq.facts HX4.out
        unfold Dq.good at k1 k3
        dsimp only at k1 k3
        by_cases hn : Co.text s.data.toList st = []
        · have HCB := Lib.hid (cond_fine hsz HPP.out he (hk1 hn))
          rw [hn] at k3
          clear hb hx he hk1 hn k1
          go_wp2_with fail
          refine FI.out.mono ?_
          rintro e9 w9 ⟨rfl, rfl⟩
          go_wp2_with fail
          refine FI.out.mono ?_
          rintro e9 w9 ⟨rfl, rfl⟩
          obtain ⟨⟨_, _, _, _, k4, k5, k6, _⟩, _⟩ := Dq.facts HX4.out
          unfold Dq.good at k4 k5 k6
          dsimp only at k4 k5 k6
          obtain ⟨⟨z0, z1, z2, z3, z4, z5⟩, g0, g1, g2, g3, g4, g5⟩ := HZ4.out.six_of
          obtain ⟨⟨y0, y1, y2, y3, y4, y5⟩, _⟩ := HY4.out.six_of
          obtain ⟨⟨f0, f1, f2⟩, e0, e1, e2⟩ := HF4.out.dthree_of
          have hly := HY4.out.lt
          have hlf := HF4.out.lt
          have hlq := HX4.out.lt
          go_wp2_with fail
          go_region
          go_wp2
          obtain ⟨hfin, hff, hbf⟩ := parse_end HZ4.out HF4.out HB4.out y 0 false 0
          show bodyPost _ _ _ _ _ (dset3 (set6 w4 W.heap.size y) (W.heap.size + 1) 0 false 0).drew
          generalize (dset3 (set6 w4 W.heap.size y) (W.heap.size + 1) 0 false 0).drew = wf at *
          obtain ⟨⟨k0, k1, k2, k3, k4, k5⟩, _⟩ := hfin.six_of
          obtain ⟨⟨l0, l1, l2⟩, _⟩ := hff.dthree_of
          exact bodyPost_ret (v := .tuple #[y.val, faultV 0 false 0]) (by simp [results, Tryz.results46, go_sem, k0, k1, k2, k3, k4, k5, l0, l1, l2, Ex.val, faultV]) rfl ⟨⟨y, false, 0, by rw [HCB.out]⟩, hbf⟩
        · have hk : st.kind ≠ 1 := by
            intro e
            obtain ⟨h1, h2⟩ := H4.out.gd.word he
            have hkd := H4.out.gd.kind he hn
            rw [e] at hkd
            unfold Co.V at hkd
            split at hkd
            · unfold Co.kindOf at hkd
              split at hkd
              · cases hkd
              · split at hkd
                · cases hkd
                · split at hkd
                  · cases hkd
                  · split at hkd <;> cases hkd
            · split at hkd <;> cases hkd
          have HCB := Lib.hid (cond_rest hsz HPP.out he hk)
          have AMI := Lib.hid (damiss_any HX4.out rfl 111 (st.frm : Int) (by decide))
          obtain ⟨wd, hwd⟩ : ∃ wd : ByteArray, wd = ⟨(Co.text s.data.toList st).toArray⟩ := ⟨_, rfl⟩
          rw [← hwd] at k3
          have hpos : (0 : Int) < (wd.size : Int) := by
            have : wd.size = (Co.text s.data.toList st).length := by rw [hwd]; simp [ByteArray.size]
            have := List.length_pos_iff.2 hn
            omega
          clear hb hx he hk1 hn hk hwd
          go_wp2_with fail
          refine FI.out.mono ?_
          rintro e9 w9 ⟨rfl, rfl⟩
          go_wp2_with fail
          refine AMI.out.mono ?_
          rintro e9 w5 ⟨rfl, h5, hg5⟩
          have HZ5 : Hid (Cel w5 W.heap.size Ex.zero.list) := HZ4.out.kept hg5 (by intro e; have := Option.some.inj e; omega)
          have HF5 := Lib.hid (HF4.out.kept hg5 (by intro e; have := Option.some.inj e; omega))
          have HY5 : Hid (Cel w5 w3.heap.size y.list) := HY4.out.kept hg5 (by intro e; have := Option.some.inj e; omega)
          have HB5 := Lib.hid (HB4.out.grown hg5 HB4.out.size (fun k hk => by have := Option.some.inj hk; omega))
          have FI5 := Lib.hid (dfine_any h5)
          have HX5 := Lib.hid h5
          clear h5 hg5 k1 k3 HZ4 HF4 HY4 HB4 FI AMI H4 HX4 hcs HX
          go_wp2_with fail
          refine FI5.out.mono ?_
          rintro e9 w9 ⟨rfl, rfl⟩
          obtain ⟨⟨_, _, _, _, k4, k5, k6, _⟩, _⟩ := Dq.facts HX5.out
          dsimp only at k4 k5 k6
          obtain ⟨⟨z0, z1, z2, z3, z4, z5⟩, g0, g1, g2, g3, g4, g5⟩ := HZ5.out.six_of
          obtain ⟨⟨y0, y1, y2, y3, y4, y5⟩, _⟩ := HY5.out.six_of
          obtain ⟨⟨f0, f1, f2⟩, e0, e1, e2⟩ := HF5.out.dthree_of
          have hly := HY5.out.lt
          have hlf := HF5.out.lt
          have hlq := HX5.out.lt
          go_wp2_with fail
          go_region
          go_wp2
          obtain ⟨hfin, hff, hbf⟩ := parse_end HZ5.out HF5.out HB5.out Ex.zero 111 true (st.frm : Int)
          show bodyPost _ _ _ _ _ (dset3 (set6 w5 W.heap.size Ex.zero) (W.heap.size + 1) 111 true (st.frm : Int)).drew
          generalize (dset3 (set6 w5 W.heap.size Ex.zero) (W.heap.size + 1) 111 true (st.frm : Int)).drew = wf at *
          obtain ⟨⟨k0, k1, k2, k3, k4, k5⟩, _⟩ := hfin.six_of
          obtain ⟨⟨l0, l1, l2⟩, _⟩ := hff.dthree_of
          exact bodyPost_ret (v := .tuple #[Ex.zero.val, faultV 111 true (st.frm : Int)]) (by simp [results, Tryz.results46, go_sem, k0, k1, k2, k3, k4, k5, l0, l1, l2, Ex.val, faultV]) rfl ⟨⟨Ex.zero, true, (st.frm : Int), by rw [HCB.out]⟩, hbf⟩
    · cases hs with
      | fine he hk1 => exact absurd rfl hb
      | bad a n d' wd c k hc he =>
        have HCB := Lib.hid (cond_bad hsz HPP.out he)
        have hbf : (c == 0) = false := by simpa using hc
        have FI : Hid (Calls Tryz.prog 61 #[.pointer (some ⟨W.heap.size + 2, 0, none⟩)] w4 fun e w' => e = .returned (.bool false) ∧ w4 = w') := by
          show Calls _ _ _ _ _
          rw [← hbf]
          exact FI.out
        clear hb hx he hc hbf hcs
        go_wp2_with fail
        refine FI.out.mono ?_
        rintro e9 w9 ⟨rfl, rfl⟩
        go_wp2_with fail
        refine FI.out.mono ?_
        rintro e9 w9 ⟨rfl, rfl⟩
        obtain ⟨⟨_, _, _, _, k4, k5, k6, _⟩, _⟩ := Dq.facts HX.out
        dsimp only at k4 k5 k6
        obtain ⟨⟨z0, z1, z2, z3, z4, z5⟩, g0, g1, g2, g3, g4, g5⟩ := HZ4.out.six_of
        obtain ⟨⟨y0, y1, y2, y3, y4, y5⟩, _⟩ := HY4.out.six_of
        obtain ⟨⟨f0, f1, f2⟩, e0, e1, e2⟩ := HF4.out.dthree_of
        have hly := HY4.out.lt
        have hlf := HF4.out.lt
        have hlq := HX.out.lt
        go_wp2_with fail
        go_region
        go_wp2
        obtain ⟨hfin, hff, hbf⟩ := parse_end HZ4.out HF4.out HB4.out Ex.zero c true k
        show bodyPost _ _ _ _ _ (dset3 (set6 w4 W.heap.size Ex.zero) (W.heap.size + 1) c true k).drew
        generalize (dset3 (set6 w4 W.heap.size Ex.zero) (W.heap.size + 1) c true k).drew = wf at *
        obtain ⟨⟨k0, k1, k2, k3, k4, k5⟩, _⟩ := hfin.six_of
        obtain ⟨⟨l0, l1, l2⟩, _⟩ := hff.dthree_of
        exact bodyPost_ret (v := .tuple #[Ex.zero.val, faultV c true k]) (by simp [results, Tryz.results46, go_sem, k0, k1, k2, k3, k4, k5, l0, l1, l2, Ex.val, faultV]) rfl ⟨⟨Ex.zero, true, k, by rw [HCB.out]⟩, hbf⟩
  · have hszI : (80 : Int) < (s.size : Int) := by omega
    have HCB := Lib.hid (cond_long (s := s) (by omega))
    go_enter Tryz.func46, Tryz.ntmps46
    go_wp2_with fail
    rw [← hwa]
    refine (placed_any 105 80 (by decide) _).mono ?_
    rintro e w1 ⟨rfl, hb1⟩
    unfold faultV
    have HZ2 := Lib.hid (HZ.out.below hb1 (Nat.le_refl _))
    have HF2 := Lib.hid (HF.out.below hb1 (Nat.le_refl _))
    have HB2 := Lib.hid (HB.out.trans (hb1.mono HB.out.size))
    clear hb1 hwa HZ HF HB
    generalize wa.alloc _ = wb at *
    obtain ⟨⟨z0, z1, z2, z3, z4, z5⟩, g0, g1, g2, g3, g4, g5⟩ := (show Cel _ _ Ex.zero.list from HZ2.out).six_of
    obtain ⟨⟨f0, f1, f2⟩, e0, e1, e2⟩ := HF2.out.dthree_of
    go_wp2
    have hfin := (show Cel _ _ Ex.zero.list from HZ2.out).six Ex.zero
    have hff := (HF2.out.kept (set6_grown w1 W.heap.size Ex.zero) (by intro e; have := Option.some.inj e; omega)).dthree 105 true 80
    have hfin := hfin.kept (dset3_grown (set6 w1 W.heap.size Ex.zero) (W.heap.size + 1) 105 true 80) (by intro e; have := Option.some.inj e; omega)
    have hbf := (HB2.out.grown (set6_grown w1 W.heap.size Ex.zero) HB2.out.size (fun k hk => by have := Option.some.inj hk; omega)).grown (dset3_grown (set6 w1 W.heap.size Ex.zero) (W.heap.size + 1) 105 true 80) (by have := HB2.out.size; simpa [set6] using this) (fun k hk => by have := Option.some.inj hk; omega)
    show bodyPost _ _ _ _ _ (dset3 (set6 w1 W.heap.size Ex.zero) (W.heap.size + 1) 105 true 80)
    generalize dset3 (set6 w1 W.heap.size Ex.zero) (W.heap.size + 1) 105 true 80 = wf at *
    obtain ⟨⟨k0, k1, k2, k3, k4, k5⟩, _⟩ := hfin.six_of
    obtain ⟨⟨l0, l1, l2⟩, _⟩ := hff.dthree_of
    exact bodyPost_ret (v := .tuple #[Ex.zero.val, faultV 105 true 80]) (by simp [results, Tryz.results46, go_sem, k0, k1, k2, k3, k4, k5, l0, l1, l2, Ex.val, faultV]) rfl ⟨⟨Ex.zero, true, 80, by rw [HCB.out]⟩, hbf⟩
end Pr
end Go.Proofs.YtddedbpbenkdoaaGreatDoor
