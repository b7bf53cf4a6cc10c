/- The document's parser: a row of parts, levels 4 and 5. -/
import Derived.Test.YtddedbpbenkdoaaGreatDoorDwY
namespace Go.Proofs.YtddedbpbenkdoaaGreatDoor
open Go.RowKit

section
variable {w w1 : World} {q d : Nat} {s : ByteArray} {st : Co.St}
set_option maxRecDepth 10000 in
set_option maxHeartbeats 3200000 in
theorem drow_4 (part : Co.St → Co.Out) (hsz : s.size ≤ 80) (HP : DPart q s 74 #[.int .i64 4] d part) : DPart q s 60 #[.int .i64 4] d (Co.rowAll s.data.toList part 12 13) := by
  intro st eF stF hf w h
  have HH := Lib.hid h
  have hlt := h.lt
  clear h
  unfold Co.rowAll at hf
  cases hp : part st with
  | none => rw [hp] at hf; cases hf
  | some r =>
    obtain ⟨e0, st1⟩ := r
    rw [hp] at hf
    have hrow : Co.row s.data.toList part 12 13 60 e0 st1 = some (eF, stF) := hf
    have HR := Lib.hid hrow
    have HC := Lib.hid (HP st e0 st1 hp)
    have HPP := Lib.hid HP
    clear hf hrow hp HP
    go_enter Tryz.func60, Tryz.ntmps60
    go_upto_region 5 with (fail)
    refine wp_at (G := fun W => Code.wp _ _ _ _ W) (fun W => Cel W w.heap.size Ex.zero.list ∧ Cel W (w.heap.size + 1 + 1 + 1) [.string ⟨#[43]⟩, .string ⟨#[45]⟩] ∧ Cel W (w.heap.size + 1 + 1 + 1 + 1 + 1 + 1 + 1 + 1) [.int .i64 12, .int .i64 13] ∧ DpC W q s st d ∧ w.grownBy W none ∧ W.heap.size = w.heap.size + 11) ?_ ?_
    · refine ⟨?_, ?_, ?_, ?_, ?_, ?_⟩
      · exact cel_at ((((((((((Cel.lit w _ _).alloc _).alloc _).alloc _).alloc _).alloc _).alloc _).alloc _).alloc _).alloc _ |>.alloc _) rfl
      · exact cel_at ((((((((Cel.lit (((w.alloc _).alloc _).alloc _) _ _).alloc _).alloc _).alloc _).alloc _).alloc _).alloc _).alloc _) (by simp)
      · exact cel_at (((Cel.lit ((((((((w.alloc _).alloc _).alloc _).alloc _).alloc _).alloc _).alloc _).alloc _) _ _).alloc _).alloc _) (by simp)
      · exact ((((((((((HH.out.alloc _).alloc _).alloc _).alloc _).alloc _).alloc _).alloc _).alloc _).alloc _).alloc _).alloc _
      · repeat first | exact World.grownBy.refl _ _ | refine grown_trans ?_ (grown_alloc _ _ _)
      · simp
    · rintro W5 ⟨hz, hw, ho, hD, hg5, hs5⟩
      have HC5 := Lib.hid (HC.out W5 hD)
      have HZ := Lib.hid hz
      have HW := Lib.hid hw
      have HO := Lib.hid ho
      have HG5 := Lib.hid hg5
      clear hz hw ho hD hg5 HC
      go_wp2_with fail
      refine HC5.out.mono ?_
      rintro x w6 ⟨⟨y, rfl⟩, h6, hg6⟩
      have hz6 : w.heap.size + 11 ≤ w6.heap.size := by have := hg6.size; omega
      have HG : Hid (w.grownBy w6 (some q)) := grown_trans ⟨HG5.out.os, HG5.out.tape, HG5.out.output, HG5.out.size, fun b hb _ => HG5.out.block b hb (by simp)⟩ hg6
      have HD := Lib.hid (h6.alloc (.cells #[.int .i64 y.op, .int .i64 y.kind, .int .i64 y.num, .string y.txt, .string y.name, .slice y.A y.n y.c] 87))
      have HY := Lib.hid (Cel.lit w6 #[.int .i64 y.op, .int .i64 y.kind, .int .i64 y.num, .string y.txt, .string y.name, .slice y.A y.n y.c] 87)
      have HZ1 := Lib.hid ((HZ.out.kept hg6 (by intro e; have := Option.some.inj e; omega)).alloc (.cells #[.int .i64 y.op, .int .i64 y.kind, .int .i64 y.num, .string y.txt, .string y.name, .slice y.A y.n y.c] 87))
      have HW1 := Lib.hid ((HW.out.kept hg6 (by intro e; have := Option.some.inj e; omega)).alloc (.cells #[.int .i64 y.op, .int .i64 y.kind, .int .i64 y.num, .string y.txt, .string y.name, .slice y.A y.n y.c] 87))
      have HO1 := Lib.hid ((HO.out.kept hg6 (by intro e; have := Option.some.inj e; omega)).alloc (.cells #[.int .i64 y.op, .int .i64 y.kind, .int .i64 y.num, .string y.txt, .string y.name, .slice y.A y.n y.c] 87))
      clear h6 hg6 HC5 HZ HW HO HG5
      unfold Ex.val
      go_wp2_with fail
      go_loopg [8] 60 (fun f k wr => ∃ e st y, Hid (Co.row s.data.toList part 12 13 f e st = some (eF, stF)) ∧ Hid (Cel wr w6.heap.size (Ex.list y)) ∧ Hid (DpC wr q s st d) ∧ Hid (Cel wr w.heap.size Ex.zero.list) ∧
        Hid (Cel wr (w.heap.size + 1 + 1 + 1) [.string ⟨#[43]⟩, .string ⟨#[45]⟩]) ∧ Hid (Cel wr (w.heap.size + 1 + 1 + 1 + 1 + 1 + 1 + 1 + 1) [.int .i64 12, .int .i64 13]) ∧ Hid (w.grownBy wr (some q)))
      case atStart => exact ⟨e0, st1, y, HR, HY.out, HD, HZ1, HW1, HO1, grown_trans HG.out (grown_alloc _ _ _)⟩
      case round =>
        clear HR HY HD HZ1 HW1 HO1 HG
        obtain ⟨e, st, y, HR, HY, HD, HZ, HW, HO, HG⟩ := hrel
        generalize wr = wo at *
        obtain ⟨x, hx, hs⟩ := HD.out.ex
        have FI := Lib.hid (dfine_any hx)
        by_cases hb : x.c = 0
        · have hbt : (x.c == 0) = true := by simpa using hb
          rw [hbt] at FI
          cases hs with
          | bad a n d' wd c k hc he => exact absurd hb hc
          | fine he hk1 =>
            clear hb hbt
            have HX : Hid (Cel wo q (Dq.list s (Dq.good s st d))) := hx
            clear hx
            have HE := Lib.hid he
            have HK := Lib.hid hk1
            clear he hk1
            obtain ⟨⟨_, _, _, k3, _, _, _, _⟩, _⟩ := Dq.facts HX.out
            unfold Dq.good at k3
            dsimp only at k3
            have c0 := HW.out.cell 0 _ rfl
            have c1 := HW.out.cell 1 _ rfl
            have HM0 := Lib.hid (HD.out.gd.isM HE.out [43] (by decide) (by decide))
            have HM1 := Lib.hid (HD.out.gd.isM HE.out [45] (by decide) (by decide))
            by_cases hm0 : Co.text s.data.toList st = [43]
            · rw [hm0] at k3
              have H0 : Hid (Co.op s.data.toList st 12 13 = 12) := by
                have e0 := HM0.out
                rw [decide_eq_true hm0] at e0
                show (if Co.isM s.data.toList st [43] = true then 12 else if Co.isM s.data.toList st [45] = true then 13 else 0) = 12
                rw [e0]; rfl
              have hR := HR.out
              cases gk with
              | zero => cases hR
              | succ f =>
                rw [Co.row, if_neg (by rw [H0.out]; decide), H0.out] at hR
                cases hp : part (Co.next s.data.toList st) with
                | none => rw [hp] at hR; cases hR
                | some r =>
                  obtain ⟨e2, st2⟩ := r
                  rw [hp] at hR
                  have HR2 : Hid (Co.row s.data.toList part 12 13 f (.two 12 e e2) st2 = some (eF, stF)) := hR
                  have hfa := HD.out.gd.facts HE.out
                  have hsl : s.data.toList.length = s.size := by simp
                  have NX : Hid (∀ wv, Cel wv q (Dq.list s (Dq.good s st d)) → _) := fun wv hx => dnext_any hx HE.out (by rw [← hsl]; exact hfa.2.1) hsz
                  have HPP2 := Lib.hid (HPP.out _ _ _ hp)
                  have GN := Lib.hid HD.out.gd.next.1
                  clear hR hp hfa hsl hm0
                  go_wp2_with fail
                  refine FI.out.mono ?_
                  rintro e3 w3 ⟨rfl, rfl⟩
                  go_wp2_with fail
                  go_loopw [8, 9] (fun k i v => ∃ j : Nat, (j ≤ 0 ∧ k = .int .i64 (-1) ∨ (0 < j ∧ j ≤ 2) ∧ k = .int .i64 0) ∧ i = .int .i64 j ∧ Below wo.heap.size wo v) (fun k i _ => 2 - (intOf i).toNat)
                  case atStart => exact ⟨0, .inl ⟨by omega, rfl⟩, rfl, Below.refl _ _⟩
                  case round =>
                    obtain ⟨j, hjk, rfl, hbd⟩ := hrel
                    generalize wr = wv at *
                    have k3d := below_cells hbd k3
                    have c0d := below_cells hbd c0
                    have c1d := below_cells hbd c1
                    have hj : j ≤ 2 := by omega
                    rcases (show j = 0 ∨ j = 1 ∨ j = 2 from by omega) with rfl | rfl | rfl
                    · obtain ⟨_, rfl⟩ | ⟨hx, _⟩ := hjk
                      · go_wp2_with fail
                        go_quiet (fail)
                        go_wp2_with fail
                        go_round
                        case measure => simp [intOf]
                        case rel => exact ⟨1, .inr ⟨by omega, rfl⟩, rfl, below_drewN hbd _⟩
                      · omega
                    · obtain ⟨hx, _⟩ | ⟨_, rfl⟩ := hjk
                      · omega
                      · go_wp2_with fail
                        go_quiet (fail)
                        go_wp2_with fail
                        go_round
                        case measure => simp [intOf]
                        case rel => exact ⟨2, .inr ⟨by omega, rfl⟩, rfl, below_drewN hbd _⟩
                    · obtain ⟨hx, _⟩ | ⟨_, rfl⟩ := hjk
                      · omega
                      · have HY := Lib.hid (HY.out.below hbd (Nat.le_refl _))
                        have HZ := Lib.hid (HZ.out.below hbd (Nat.le_refl _))
                        have HW := Lib.hid (HW.out.below hbd (Nat.le_refl _))
                        have HO := Lib.hid (HO.out.below hbd (Nat.le_refl _))
                        have HX := Lib.hid (HX.out.below hbd (Nat.le_refl _))
                        have HG := Lib.hid (grown_of HG.out hbd (Nat.le_refl _))
                        clear hbd
                        go_wp2_with fail
                        refine (NX.out wv HX.out).mono ?_
                        rintro e4 w4 ⟨rfl, ⟨x4, hx4, hs4⟩, hg4⟩
                        have HG4 := Lib.hid (grown_trans HG.out hg4)
                        have HY4 := Lib.hid (HY.out.kept hg4 (by intro e; have := Option.some.inj e; omega))
                        have HZ4 := Lib.hid (HZ.out.kept hg4 (by intro e; have := Option.some.inj e; omega))
                        have HW4 := Lib.hid (HW.out.kept hg4 (by intro e; have := Option.some.inj e; omega))
                        have HO4 := Lib.hid (HO.out.kept hg4 (by intro e; have := Option.some.inj e; omega))
                        have HP4 := Lib.hid (HPP2.out w4 ⟨GN.out, x4, hx4, hs4⟩)
                        clear hx4 hs4 hg4
                        go_wp2_with fail
                        refine HP4.out.mono ?_
                        rintro e5 w5 ⟨⟨y5, rfl⟩, hd5, hg5⟩
                        unfold Ex.val
                        go_wp2_with fail
                        have hz5 : w6.heap.size < w5.heap.size := by have := hg5.size; have := HY4.out.lt; omega
                        have HD5 := Lib.hid (hd5.alloc (.cells #[.int .i64 y5.op, .int .i64 y5.kind, .int .i64 y5.num, .string y5.txt, .string y5.name, .slice y5.A y5.n y5.c] 87))
                        have HN5 := Lib.hid (Cel.lit w5 #[.int .i64 y5.op, .int .i64 y5.kind, .int .i64 y5.num, .string y5.txt, .string y5.name, .slice y5.A y5.n y5.c] 87)
                        have hne : ∀ z : Nat, w.heap.size ≤ z → some q ≠ some z := fun z hz e => by have := Option.some.inj e; omega
                        have HY5 := Lib.hid ((HY4.out.kept hg5 (hne _ (by omega))).alloc (.cells #[.int .i64 y5.op, .int .i64 y5.kind, .int .i64 y5.num, .string y5.txt, .string y5.name, .slice y5.A y5.n y5.c] 87))
                        have HZ5 := Lib.hid ((HZ4.out.kept hg5 (hne _ (by omega))).alloc (.cells #[.int .i64 y5.op, .int .i64 y5.kind, .int .i64 y5.num, .string y5.txt, .string y5.name, .slice y5.A y5.n y5.c] 87))
                        have HW5 := Lib.hid ((HW4.out.kept hg5 (hne _ (by omega))).alloc (.cells #[.int .i64 y5.op, .int .i64 y5.kind, .int .i64 y5.num, .string y5.txt, .string y5.name, .slice y5.A y5.n y5.c] 87))
                        have HO5 := Lib.hid ((HO4.out.kept hg5 (hne _ (by omega))).alloc (.cells #[.int .i64 y5.op, .int .i64 y5.kind, .int .i64 y5.num, .string y5.txt, .string y5.name, .slice y5.A y5.n y5.c] 87))
                        have HG5 := Lib.hid (grown_trans (grown_trans HG4.out hg5) (grown_alloc w5 (.cells #[.int .i64 y5.op, .int .i64 y5.kind, .int .i64 y5.num, .string y5.txt, .string y5.name, .slice y5.A y5.n y5.c] 87) _))
                        have hz7 : (w5.alloc (.cells #[.int .i64 y5.op, .int .i64 y5.kind, .int .i64 y5.num, .string y5.txt, .string y5.name, .slice y5.A y5.n y5.c] 87)).heap.size = w5.heap.size + 1 := by simp
                        clear hd5 hg5 HP4 HG4 HY4 HZ4 HW4 HO4 HPP2 NX
                        generalize w5.alloc _ = w7 at *
                        obtain ⟨⟨y0, y1, y2, y3, y4, y5'⟩, g0, g1, g2, g3, g4, g5⟩ := HY5.out.six_of
                        obtain ⟨⟨n0, n1, n2, n3, n4, n5⟩, _⟩ := (show Cel w7 w5.heap.size y5.list from HN5.out).six_of
                        have o0 := HO5.out.cell 0 _ rfl
                        have hA : w.heap.size + 1 + 1 + 1 + 1 + 1 + 1 + 1 + 1 < w7.heap.size := HO5.out.lt
                        have hB : w6.heap.size < w7.heap.size := HY5.out.lt
                        have hC : w5.heap.size < w7.heap.size := by omega
                        clear hz5 hne hz7
                        go_region
                        obtain ⟨v, hv⟩ : ∃ v : Ex, v = ⟨12, 0, 0, ⟨#[]⟩, ⟨#[]⟩, some ⟨w7.heap.size, 0, none⟩, 2, 2⟩ := ⟨_, rfl⟩
                        have hg8 := set6_grown w7 w6.heap.size v
                        have hY8 := HY5.out.six v
                        have hne : ∀ z : Nat, z ≠ w6.heap.size → some w6.heap.size ≠ some z := fun z hz e => hz (Option.some.inj e).symm
                        have hD8 := HD5.out.other hg8 (hne _ (by omega))
                        have hZ8 := HZ5.out.kept hg8 (hne _ (by omega))
                        have hW8 := HW5.out.kept hg8 (hne _ (by omega))
                        have hO8 := HO5.out.kept hg8 (hne _ (by omega))
                        have hG8 := grown_past HG5.out hg8 (by omega)
                        show Exit.inBlock _ _ _ _ (((set6 w7 w6.heap.size ⟨12, 0, 0, ⟨#[]⟩, ⟨#[]⟩, some ⟨w7.heap.size, 0, none⟩, 2, 2⟩).alloc _).drew)
                        rw [← hv]
                        generalize set6 w7 w6.heap.size v = w8 at *
                        have hb8 := fun o => ((Below.refl w8.heap.size w8).alloc (Nat.le_refl _) o).drew
                        have HB8 := Lib.hid hb8
                        have HY8 := Lib.hid hY8
                        have HD8 := Lib.hid hD8
                        have HZ8 := Lib.hid hZ8
                        have HW8 := Lib.hid hW8
                        have HO8 := Lib.hid hO8
                        have HG8 := Lib.hid hG8
                        clear hb8 hY8 hD8 hZ8 hW8 hO8 hG8 hg8 hv hne hA hB hC
                        go_wp2_with fail
                        go_roundg f
                        case measure => omega
                        case rel =>
                          exact ⟨_, _, v, HR2, HY8.out.below (HB8.out _) (Nat.le_refl _), HD8.out.other (grown_of (World.grownBy.refl w8 none) (HB8.out _) (Nat.le_refl _)) (by simp), HZ8.out.below (HB8.out _) (Nat.le_refl _),
                            HW8.out.below (HB8.out _) (Nat.le_refl _), HO8.out.below (HB8.out _) (Nat.le_refl _), grown_of HG8.out (HB8.out _) (Nat.le_refl _)⟩
            · by_cases hm1 : Co.text s.data.toList st = [45]
              · rw [hm1] at k3
                have H0 : Hid (Co.op s.data.toList st 12 13 = 13) := by
                  have e0 := HM0.out
                  rw [decide_eq_false hm0] at e0
                  have e1 := HM1.out
                  rw [decide_eq_true hm1] at e1
                  show (if Co.isM s.data.toList st [43] = true then 12 else if Co.isM s.data.toList st [45] = true then 13 else 0) = 13
                  rw [e0, e1]; rfl
                have hR := HR.out
                cases gk with
                | zero => cases hR
                | succ f =>
                  rw [Co.row, if_neg (by rw [H0.out]; decide), H0.out] at hR
                  cases hp : part (Co.next s.data.toList st) with
                  | none => rw [hp] at hR; cases hR
                  | some r =>
                    obtain ⟨e2, st2⟩ := r
                    rw [hp] at hR
                    have HR2 : Hid (Co.row s.data.toList part 12 13 f (.two 13 e e2) st2 = some (eF, stF)) := hR
                    have hfa := HD.out.gd.facts HE.out
                    have hsl : s.data.toList.length = s.size := by simp
                    have NX : Hid (∀ wv, Cel wv q (Dq.list s (Dq.good s st d)) → _) := fun wv hx => dnext_any hx HE.out (by rw [← hsl]; exact hfa.2.1) hsz
                    have HPP2 := Lib.hid (HPP.out _ _ _ hp)
                    have GN := Lib.hid HD.out.gd.next.1
                    clear hR hp hfa hsl hm0 hm1
                    go_wp2_with fail
                    refine FI.out.mono ?_
                    rintro e3 w3 ⟨rfl, rfl⟩
                    go_wp2_with fail
                    go_loopw [8, 9] (fun k i v => ∃ j : Nat, (j ≤ 1 ∧ k = .int .i64 (-1) ∨ (1 < j ∧ j ≤ 2) ∧ k = .int .i64 1) ∧ i = .int .i64 j ∧ Below wo.heap.size wo v) (fun k i _ => 2 - (intOf i).toNat)
                    case atStart => exact ⟨0, .inl ⟨by omega, rfl⟩, rfl, Below.refl _ _⟩
                    case round =>
                      obtain ⟨j, hjk, rfl, hbd⟩ := hrel
                      generalize wr = wv at *
                      have k3d := below_cells hbd k3
                      have c0d := below_cells hbd c0
                      have c1d := below_cells hbd c1
                      have hj : j ≤ 2 := by omega
                      rcases (show j = 0 ∨ j = 1 ∨ j = 2 from by omega) with rfl | rfl | rfl
                      · obtain ⟨_, rfl⟩ | ⟨hx, _⟩ := hjk
                        · go_wp2_with fail
                          go_quiet (fail)
                          go_wp2_with fail
                          go_round
                          case measure => simp [intOf]
                          case rel => exact ⟨1, .inl ⟨by omega, rfl⟩, rfl, below_drewN hbd _⟩
                        · omega
                      · obtain ⟨_, rfl⟩ | ⟨hx, _⟩ := hjk
                        · go_wp2_with fail
                          go_quiet (fail)
                          go_wp2_with fail
                          go_round
                          case measure => simp [intOf]
                          case rel => exact ⟨2, .inr ⟨by omega, rfl⟩, rfl, below_drewN hbd _⟩
                        · omega
                      · obtain ⟨hx, _⟩ | ⟨_, rfl⟩ := hjk
                        · omega
                        · have HY := Lib.hid (HY.out.below hbd (Nat.le_refl _))
                          have HZ := Lib.hid (HZ.out.below hbd (Nat.le_refl _))
                          have HW := Lib.hid (HW.out.below hbd (Nat.le_refl _))
                          have HO := Lib.hid (HO.out.below hbd (Nat.le_refl _))
                          have HX := Lib.hid (HX.out.below hbd (Nat.le_refl _))
                          have HG := Lib.hid (grown_of HG.out hbd (Nat.le_refl _))
                          clear hbd
                          go_wp2_with fail
                          refine (NX.out wv HX.out).mono ?_
                          rintro e4 w4 ⟨rfl, ⟨x4, hx4, hs4⟩, hg4⟩
                          have HG4 := Lib.hid (grown_trans HG.out hg4)
                          have HY4 := Lib.hid (HY.out.kept hg4 (by intro e; have := Option.some.inj e; omega))
                          have HZ4 := Lib.hid (HZ.out.kept hg4 (by intro e; have := Option.some.inj e; omega))
                          have HW4 := Lib.hid (HW.out.kept hg4 (by intro e; have := Option.some.inj e; omega))
                          have HO4 := Lib.hid (HO.out.kept hg4 (by intro e; have := Option.some.inj e; omega))
                          have HP4 := Lib.hid (HPP2.out w4 ⟨GN.out, x4, hx4, hs4⟩)
                          clear hx4 hs4 hg4
                          go_wp2_with fail
                          refine HP4.out.mono ?_
                          rintro e5 w5 ⟨⟨y5, rfl⟩, hd5, hg5⟩
                          unfold Ex.val
                          go_wp2_with fail
                          have hz5 : w6.heap.size < w5.heap.size := by have := hg5.size; have := HY4.out.lt; omega
                          have HD5 := Lib.hid (hd5.alloc (.cells #[.int .i64 y5.op, .int .i64 y5.kind, .int .i64 y5.num, .string y5.txt, .string y5.name, .slice y5.A y5.n y5.c] 87))
                          have HN5 := Lib.hid (Cel.lit w5 #[.int .i64 y5.op, .int .i64 y5.kind, .int .i64 y5.num, .string y5.txt, .string y5.name, .slice y5.A y5.n y5.c] 87)
                          have hne : ∀ z : Nat, w.heap.size ≤ z → some q ≠ some z := fun z hz e => by have := Option.some.inj e; omega
                          have HY5 := Lib.hid ((HY4.out.kept hg5 (hne _ (by omega))).alloc (.cells #[.int .i64 y5.op, .int .i64 y5.kind, .int .i64 y5.num, .string y5.txt, .string y5.name, .slice y5.A y5.n y5.c] 87))
                          have HZ5 := Lib.hid ((HZ4.out.kept hg5 (hne _ (by omega))).alloc (.cells #[.int .i64 y5.op, .int .i64 y5.kind, .int .i64 y5.num, .string y5.txt, .string y5.name, .slice y5.A y5.n y5.c] 87))
                          have HW5 := Lib.hid ((HW4.out.kept hg5 (hne _ (by omega))).alloc (.cells #[.int .i64 y5.op, .int .i64 y5.kind, .int .i64 y5.num, .string y5.txt, .string y5.name, .slice y5.A y5.n y5.c] 87))
                          have HO5 := Lib.hid ((HO4.out.kept hg5 (hne _ (by omega))).alloc (.cells #[.int .i64 y5.op, .int .i64 y5.kind, .int .i64 y5.num, .string y5.txt, .string y5.name, .slice y5.A y5.n y5.c] 87))
                          have HG5 := Lib.hid (grown_trans (grown_trans HG4.out hg5) (grown_alloc w5 (.cells #[.int .i64 y5.op, .int .i64 y5.kind, .int .i64 y5.num, .string y5.txt, .string y5.name, .slice y5.A y5.n y5.c] 87) _))
                          have hz7 : (w5.alloc (.cells #[.int .i64 y5.op, .int .i64 y5.kind, .int .i64 y5.num, .string y5.txt, .string y5.name, .slice y5.A y5.n y5.c] 87)).heap.size = w5.heap.size + 1 := by simp
                          clear hd5 hg5 HP4 HG4 HY4 HZ4 HW4 HO4 HPP2 NX
                          generalize w5.alloc _ = w7 at *
                          obtain ⟨⟨y0, y1, y2, y3, y4, y5'⟩, g0, g1, g2, g3, g4, g5⟩ := HY5.out.six_of
                          obtain ⟨⟨n0, n1, n2, n3, n4, n5⟩, _⟩ := (show Cel w7 w5.heap.size y5.list from HN5.out).six_of
                          have o0 := HO5.out.cell 1 _ rfl
                          have hA : w.heap.size + 1 + 1 + 1 + 1 + 1 + 1 + 1 + 1 < w7.heap.size := HO5.out.lt
                          have hB : w6.heap.size < w7.heap.size := HY5.out.lt
                          have hC : w5.heap.size < w7.heap.size := by omega
                          clear hz5 hne hz7
                          go_region
                          obtain ⟨v, hv⟩ : ∃ v : Ex, v = ⟨13, 0, 0, ⟨#[]⟩, ⟨#[]⟩, some ⟨w7.heap.size, 0, none⟩, 2, 2⟩ := ⟨_, rfl⟩
                          have hg8 := set6_grown w7 w6.heap.size v
                          have hY8 := HY5.out.six v
                          have hne : ∀ z : Nat, z ≠ w6.heap.size → some w6.heap.size ≠ some z := fun z hz e => hz (Option.some.inj e).symm
                          have hD8 := HD5.out.other hg8 (hne _ (by omega))
                          have hZ8 := HZ5.out.kept hg8 (hne _ (by omega))
                          have hW8 := HW5.out.kept hg8 (hne _ (by omega))
                          have hO8 := HO5.out.kept hg8 (hne _ (by omega))
                          have hG8 := grown_past HG5.out hg8 (by omega)
                          show Exit.inBlock _ _ _ _ (((set6 w7 w6.heap.size ⟨13, 0, 0, ⟨#[]⟩, ⟨#[]⟩, some ⟨w7.heap.size, 0, none⟩, 2, 2⟩).alloc _).drew)
                          rw [← hv]
                          generalize set6 w7 w6.heap.size v = w8 at *
                          have hb8 := fun o => ((Below.refl w8.heap.size w8).alloc (Nat.le_refl _) o).drew
                          have HB8 := Lib.hid hb8
                          have HY8 := Lib.hid hY8
                          have HD8 := Lib.hid hD8
                          have HZ8 := Lib.hid hZ8
                          have HW8 := Lib.hid hW8
                          have HO8 := Lib.hid hO8
                          have HG8 := Lib.hid hG8
                          clear hb8 hY8 hD8 hZ8 hW8 hO8 hG8 hg8 hv hne hA hB hC
                          go_wp2_with fail
                          go_roundg f
                          case measure => omega
                          case rel =>
                            exact ⟨_, _, v, HR2, HY8.out.below (HB8.out _) (Nat.le_refl _), HD8.out.other (grown_of (World.grownBy.refl w8 none) (HB8.out _) (Nat.le_refl _)) (by simp), HZ8.out.below (HB8.out _) (Nat.le_refl _),
                              HW8.out.below (HB8.out _) (Nat.le_refl _), HO8.out.below (HB8.out _) (Nat.le_refl _), grown_of HG8.out (HB8.out _) (Nat.le_refl _)⟩
              · obtain ⟨wd, hwd⟩ : ∃ wd : ByteArray, wd = ⟨(Co.text s.data.toList st).toArray⟩ := ⟨_, rfl⟩
                rw [← hwd] at k3
                have hwl0 : (wd.toList == [43]) = false := by
                  rw [Co.eq_lit, hwd]; exact decide_eq_false hm0
                have hwl1 : (wd.toList == [45]) = false := by
                  rw [Co.eq_lit, hwd]; exact decide_eq_false hm1
                have H0 : Hid (Co.op s.data.toList st 12 13 = 0) := by
                  have e0 := HM0.out
                  rw [decide_eq_false hm0] at e0
                  have e1 := HM1.out
                  rw [decide_eq_false hm1] at e1
                  show (if Co.isM s.data.toList st [43] = true then 12 else if Co.isM s.data.toList st [45] = true then 13 else 0) = 0
                  rw [e0, e1]; rfl
                clear hm0 hm1 hwd
                go_wp2_with fail
                refine FI.out.mono ?_
                rintro e3 w3 ⟨rfl, rfl⟩
                go_wp2_with fail
                go_loopw [8, 9] (fun k i v => ∃ j : Nat, j ≤ 2 ∧ i = .int .i64 j ∧ k = .int .i64 (-1) ∧ Below wo.heap.size wo v) (fun k i _ => 2 - (intOf i).toNat)
                case atStart => exact ⟨0, by omega, rfl, rfl, Below.refl _ _⟩
                case round =>
                  obtain ⟨j, hj, rfl, rfl, hbd⟩ := hrel
                  generalize wr = wv at *
                  have k3d := below_cells hbd k3
                  have c0d := below_cells hbd c0
                  have c1d := below_cells hbd c1
                  rcases (show j = 0 ∨ j = 1 ∨ j = 2 from by omega) with rfl | rfl | rfl
                  · go_wp2_with fail
                    go_quiet (fail)
                    go_wp2_with fail
                    go_round
                    case measure => simp [intOf]
                    case rel => exact ⟨1, by omega, rfl, rfl, below_drewN hbd _⟩
                  · go_wp2_with fail
                    go_quiet (fail)
                    go_wp2_with fail
                    go_round
                    case measure => simp [intOf]
                    case rel => exact ⟨2, by omega, rfl, rfl, below_drewN hbd _⟩
                  · have HY := Lib.hid (HY.out.below hbd (Nat.le_refl _))
                    have HZ := Lib.hid (HZ.out.below hbd (Nat.le_refl _))
                    have HW := Lib.hid (HW.out.below hbd (Nat.le_refl _))
                    have HO := Lib.hid (HO.out.below hbd (Nat.le_refl _))
                    have HX := Lib.hid (HX.out.below hbd (Nat.le_refl _))
                    have HG := Lib.hid (grown_of HG.out hbd (Nat.le_refl _))
                    have HD := Lib.hid (HD.out.other (grown_of (World.grownBy.refl wo none) hbd (Nat.le_refl _)) (by simp))
                    clear hbd
                    obtain ⟨⟨y0, y1, y2, y3, y4, y5⟩, _⟩ := HY.out.six_of
                    obtain ⟨⟨z0, z1, z2, z3, z4, z5⟩, g0, g1, g2, g3, g4, g5⟩ := HZ.out.six_of
                    go_wp2_with fail
                    have hF : some (e, st) = some (eF, stF) := by
                      have := HR.out
                      cases gk with
                      | zero => cases this
                      | succ f => rw [Co.row, if_pos H0.out] at this; exact this
                    obtain ⟨rfl, rfl⟩ : e = eF ∧ st = stF := by cases hF; exact ⟨rfl, rfl⟩
                    have hfin := HZ.out.six y
                    have h3 := HD.out.other (set6_grown wv w.heap.size y) (by intro e; have := Option.some.inj e; omega)
                    have hg3 := grown_past HG.out (set6_grown wv w.heap.size y) (Nat.le_refl _)
                    show bodyPost _ _ _ _ _ (set6 wv w.heap.size y)
                    generalize set6 wv w.heap.size y = wf at *
                    obtain ⟨⟨k0, k1, k2, k3', k4, k5⟩, _⟩ := hfin.six_of
                    exact bodyPost_ret (v := y.val) (by simp [results, Tryz.results60, go_sem, k0, k1, k2, k3', k4, k5, Ex.val]) rfl ⟨⟨y, rfl⟩, h3, hg3⟩
        · have hbf : (x.c == 0) = false := by simpa using hb
          rw [hbf] at FI
          have H0 : Hid (Co.op s.data.toList st 12 13 = 0) := by
            cases hs with
            | fine he hk1 => exact absurd rfl hb
            | bad a n d' wd c k hc he =>
              show _ = _
              by_cases h0 : Co.op s.data.toList st 12 13 = 0
              · exact h0
              · have h6 := Co.op_kind h0
                have h1 := Co.eff_of he (by rw [h6]; decide)
                have h2 := HD.out.gd.bad (by rw [h1]; rfl)
                omega
          clear hb hbf hx hs
          go_wp2_with fail
          refine FI.out.mono ?_
          rintro e3 w3 ⟨rfl, rfl⟩
          obtain ⟨⟨y0, y1, y2, y3, y4, y5⟩, _⟩ := HY.out.six_of
          obtain ⟨⟨z0, z1, z2, z3, z4, z5⟩, g0, g1, g2, g3, g4, g5⟩ := HZ.out.six_of
          go_wp2
          have hF : some (e, st) = some (eF, stF) := by
            have := HR.out
            cases gk with
            | zero => cases this
            | succ f => rw [Co.row, if_pos H0.out] at this; exact this
          obtain ⟨rfl, rfl⟩ : e = eF ∧ st = stF := by cases hF; exact ⟨rfl, rfl⟩
          have hfin := HZ.out.six y
          have h3 := HD.out.other (set6_grown wo w.heap.size y) (by intro e; have := Option.some.inj e; omega)
          have hg3 := grown_past HG.out (set6_grown wo w.heap.size y) (Nat.le_refl _)
          show bodyPost _ _ _ _ _ (set6 wo w.heap.size y)
          generalize set6 wo w.heap.size y = wf at *
          obtain ⟨⟨k0, k1, k2, k3, k4, k5⟩, _⟩ := hfin.six_of
          exact bodyPost_ret (v := y.val) (by simp [results, Tryz.results60, go_sem, k0, k1, k2, k3, k4, k5, Ex.val]) rfl ⟨⟨y, rfl⟩, h3, hg3⟩
set_option maxRecDepth 10000 in
set_option maxHeartbeats 3200000 in
theorem drow_5 (part : Co.St → Co.Out) (hsz : s.size ≤ 80) (HP : DPart q s 74 #[.int .i64 5] d part) : DPart q s 60 #[.int .i64 5] d (Co.rowAll s.data.toList part 14 16) := by
  intro st eF stF hf w h
  have HH := Lib.hid h
  have hlt := h.lt
  clear h
  unfold Co.rowAll at hf
  cases hp : part st with
  | none => rw [hp] at hf; cases hf
  | some r =>
    obtain ⟨e0, st1⟩ := r
    rw [hp] at hf
    have hrow : Co.row s.data.toList part 14 16 60 e0 st1 = some (eF, stF) := hf
    have HR := Lib.hid hrow
    have HC := Lib.hid (HP st e0 st1 hp)
    have HPP := Lib.hid HP
    clear hf hrow hp HP
    go_enter Tryz.func60, Tryz.ntmps60
    go_upto_region 5 with (fail)
    refine wp_at (G := fun W => Code.wp _ _ _ _ W) (fun W => Cel W w.heap.size Ex.zero.list ∧ Cel W (w.heap.size + 1 + 1 + 1 + 1) [.string ⟨#[42]⟩, .string ⟨#[47]⟩, .string ⟨#[37]⟩] ∧ Cel W (w.heap.size + 1 + 1 + 1 + 1 + 1 + 1 + 1 + 1 + 1) [.int .i64 14, .int .i64 15, .int .i64 16] ∧ DpC W q s st d ∧ w.grownBy W none ∧ W.heap.size = w.heap.size + 11) ?_ ?_
    · refine ⟨?_, ?_, ?_, ?_, ?_, ?_⟩
      · exact cel_at ((((((((((Cel.lit w _ _).alloc _).alloc _).alloc _).alloc _).alloc _).alloc _).alloc _).alloc _).alloc _ |>.alloc _) rfl
      · exact cel_at (((((((Cel.lit ((((w.alloc _).alloc _).alloc _).alloc _) _ _).alloc _).alloc _).alloc _).alloc _).alloc _).alloc _) (by simp)
      · exact cel_at ((Cel.lit (((((((((w.alloc _).alloc _).alloc _).alloc _).alloc _).alloc _).alloc _).alloc _).alloc _) _ _).alloc _) (by simp)
      · exact ((((((((((HH.out.alloc _).alloc _).alloc _).alloc _).alloc _).alloc _).alloc _).alloc _).alloc _).alloc _).alloc _
      · repeat first | exact World.grownBy.refl _ _ | refine grown_trans ?_ (grown_alloc _ _ _)
      · simp
    · rintro W5 ⟨hz, hw, ho, hD, hg5, hs5⟩
      have HC5 := Lib.hid (HC.out W5 hD)
      have HZ := Lib.hid hz
      have HW := Lib.hid hw
      have HO := Lib.hid ho
      have HG5 := Lib.hid hg5
      clear hz hw ho hD hg5 HC
      go_wp2_with fail
      refine HC5.out.mono ?_
      rintro x w6 ⟨⟨y, rfl⟩, h6, hg6⟩
      have hz6 : w.heap.size + 11 ≤ w6.heap.size := by have := hg6.size; omega
      have HG : Hid (w.grownBy w6 (some q)) := grown_trans ⟨HG5.out.os, HG5.out.tape, HG5.out.output, HG5.out.size, fun b hb _ => HG5.out.block b hb (by simp)⟩ hg6
      have HD := Lib.hid (h6.alloc (.cells #[.int .i64 y.op, .int .i64 y.kind, .int .i64 y.num, .string y.txt, .string y.name, .slice y.A y.n y.c] 87))
      have HY := Lib.hid (Cel.lit w6 #[.int .i64 y.op, .int .i64 y.kind, .int .i64 y.num, .string y.txt, .string y.name, .slice y.A y.n y.c] 87)
      have HZ1 := Lib.hid ((HZ.out.kept hg6 (by intro e; have := Option.some.inj e; omega)).alloc (.cells #[.int .i64 y.op, .int .i64 y.kind, .int .i64 y.num, .string y.txt, .string y.name, .slice y.A y.n y.c] 87))
      have HW1 := Lib.hid ((HW.out.kept hg6 (by intro e; have := Option.some.inj e; omega)).alloc (.cells #[.int .i64 y.op, .int .i64 y.kind, .int .i64 y.num, .string y.txt, .string y.name, .slice y.A y.n y.c] 87))
      have HO1 := Lib.hid ((HO.out.kept hg6 (by intro e; have := Option.some.inj e; omega)).alloc (.cells #[.int .i64 y.op, .int .i64 y.kind, .int .i64 y.num, .string y.txt, .string y.name, .slice y.A y.n y.c] 87))
      clear h6 hg6 HC5 HZ HW HO HG5
      unfold Ex.val
      go_wp2_with fail
      go_loopg [8] 60 (fun f k wr => ∃ e st y, Hid (Co.row s.data.toList part 14 16 f e st = some (eF, stF)) ∧ Hid (Cel wr w6.heap.size (Ex.list y)) ∧ Hid (DpC wr q s st d) ∧ Hid (Cel wr w.heap.size Ex.zero.list) ∧
        Hid (Cel wr (w.heap.size + 1 + 1 + 1 + 1) [.string ⟨#[42]⟩, .string ⟨#[47]⟩, .string ⟨#[37]⟩]) ∧ Hid (Cel wr (w.heap.size + 1 + 1 + 1 + 1 + 1 + 1 + 1 + 1 + 1) [.int .i64 14, .int .i64 15, .int .i64 16]) ∧ Hid (w.grownBy wr (some q)))
      case atStart => exact ⟨e0, st1, y, HR, HY.out, HD, HZ1, HW1, HO1, grown_trans HG.out (grown_alloc _ _ _)⟩
      case round =>
        clear HR HY HD HZ1 HW1 HO1 HG
        obtain ⟨e, st, y, HR, HY, HD, HZ, HW, HO, HG⟩ := hrel
        generalize wr = wo at *
        obtain ⟨x, hx, hs⟩ := HD.out.ex
        have FI := Lib.hid (dfine_any hx)
        by_cases hb : x.c = 0
        · have hbt : (x.c == 0) = true := by simpa using hb
          rw [hbt] at FI
          cases hs with
          | bad a n d' wd c k hc he => exact absurd hb hc
          | fine he hk1 =>
            clear hb hbt
            have HX : Hid (Cel wo q (Dq.list s (Dq.good s st d))) := hx
            clear hx
            have HE := Lib.hid he
            have HK := Lib.hid hk1
            clear he hk1
            obtain ⟨⟨_, _, _, k3, _, _, _, _⟩, _⟩ := Dq.facts HX.out
            unfold Dq.good at k3
            dsimp only at k3
            have c0 := HW.out.cell 0 _ rfl
            have c1 := HW.out.cell 1 _ rfl
            have c2 := HW.out.cell 2 _ rfl
            have HM0 := Lib.hid (HD.out.gd.isM HE.out [42] (by decide) (by decide))
            have HM1 := Lib.hid (HD.out.gd.isM HE.out [47] (by decide) (by decide))
            have HM2 := Lib.hid (HD.out.gd.isM HE.out [37] (by decide) (by decide))
            by_cases hm0 : Co.text s.data.toList st = [42]
            · rw [hm0] at k3
              have H0 : Hid (Co.op s.data.toList st 14 16 = 14) := by
                have e0 := HM0.out
                rw [decide_eq_true hm0] at e0
                show (if Co.isM s.data.toList st [42] = true then 14 else if Co.isM s.data.toList st [47] = true then 15 else if Co.isM s.data.toList st [37] = true then 16 else 0) = 14
                rw [e0]; rfl
              have hR := HR.out
              cases gk with
              | zero => cases hR
              | succ f =>
                rw [Co.row, if_neg (by rw [H0.out]; decide), H0.out] at hR
                cases hp : part (Co.next s.data.toList st) with
                | none => rw [hp] at hR; cases hR
                | some r =>
                  obtain ⟨e2, st2⟩ := r
                  rw [hp] at hR
                  have HR2 : Hid (Co.row s.data.toList part 14 16 f (.two 14 e e2) st2 = some (eF, stF)) := hR
                  have hfa := HD.out.gd.facts HE.out
                  have hsl : s.data.toList.length = s.size := by simp
                  have NX : Hid (∀ wv, Cel wv q (Dq.list s (Dq.good s st d)) → _) := fun wv hx => dnext_any hx HE.out (by rw [← hsl]; exact hfa.2.1) hsz
                  have HPP2 := Lib.hid (HPP.out _ _ _ hp)
                  have GN := Lib.hid HD.out.gd.next.1
                  clear hR hp hfa hsl hm0
                  go_wp2_with fail
                  refine FI.out.mono ?_
                  rintro e3 w3 ⟨rfl, rfl⟩
                  go_wp2_with fail
                  go_loopw [8, 9] (fun k i v => ∃ j : Nat, (j ≤ 0 ∧ k = .int .i64 (-1) ∨ (0 < j ∧ j ≤ 3) ∧ k = .int .i64 0) ∧ i = .int .i64 j ∧ Below wo.heap.size wo v) (fun k i _ => 3 - (intOf i).toNat)
                  case atStart => exact ⟨0, .inl ⟨by omega, rfl⟩, rfl, Below.refl _ _⟩
                  case round =>
                    obtain ⟨j, hjk, rfl, hbd⟩ := hrel
                    generalize wr = wv at *
                    have k3d := below_cells hbd k3
                    have c0d := below_cells hbd c0
                    have c1d := below_cells hbd c1
                    have c2d := below_cells hbd c2
                    have hj : j ≤ 3 := by omega
                    rcases (show j = 0 ∨ j = 1 ∨ j = 2 ∨ j = 3 from by omega) with rfl | rfl | rfl | rfl
                    · obtain ⟨_, rfl⟩ | ⟨hx, _⟩ := hjk
                      · go_wp2_with fail
                        go_quiet (fail)
                        go_wp2_with fail
                        go_round
                        case measure => simp [intOf]
                        case rel => exact ⟨1, .inr ⟨by omega, rfl⟩, rfl, below_drewN hbd _⟩
                      · omega
                    · obtain ⟨hx, _⟩ | ⟨_, rfl⟩ := hjk
                      · omega
                      · go_wp2_with fail
                        go_quiet (fail)
                        go_wp2_with fail
                        go_round
                        case measure => simp [intOf]
                        case rel => exact ⟨2, .inr ⟨by omega, rfl⟩, rfl, below_drewN hbd _⟩
                    · obtain ⟨hx, _⟩ | ⟨_, rfl⟩ := hjk
                      · omega
                      · go_wp2_with fail
                        go_quiet (fail)
                        go_wp2_with fail
                        go_round
                        case measure => simp [intOf]
                        case rel => exact ⟨3, .inr ⟨by omega, rfl⟩, rfl, below_drewN hbd _⟩
                    · obtain ⟨hx, _⟩ | ⟨_, rfl⟩ := hjk
                      · omega
                      · have HY := Lib.hid (HY.out.below hbd (Nat.le_refl _))
                        have HZ := Lib.hid (HZ.out.below hbd (Nat.le_refl _))
                        have HW := Lib.hid (HW.out.below hbd (Nat.le_refl _))
                        have HO := Lib.hid (HO.out.below hbd (Nat.le_refl _))
                        have HX := Lib.hid (HX.out.below hbd (Nat.le_refl _))
                        have HG := Lib.hid (grown_of HG.out hbd (Nat.le_refl _))
                        clear hbd
                        go_wp2_with fail
                        refine (NX.out wv HX.out).mono ?_
                        rintro e4 w4 ⟨rfl, ⟨x4, hx4, hs4⟩, hg4⟩
                        have HG4 := Lib.hid (grown_trans HG.out hg4)
                        have HY4 := Lib.hid (HY.out.kept hg4 (by intro e; have := Option.some.inj e; omega))
                        have HZ4 := Lib.hid (HZ.out.kept hg4 (by intro e; have := Option.some.inj e; omega))
                        have HW4 := Lib.hid (HW.out.kept hg4 (by intro e; have := Option.some.inj e; omega))
                        have HO4 := Lib.hid (HO.out.kept hg4 (by intro e; have := Option.some.inj e; omega))
                        have HP4 := Lib.hid (HPP2.out w4 ⟨GN.out, x4, hx4, hs4⟩)
                        clear hx4 hs4 hg4
                        go_wp2_with fail
                        refine HP4.out.mono ?_
                        rintro e5 w5 ⟨⟨y5, rfl⟩, hd5, hg5⟩
                        unfold Ex.val
                        go_wp2_with fail
                        have hz5 : w6.heap.size < w5.heap.size := by have := hg5.size; have := HY4.out.lt; omega
                        have HD5 := Lib.hid (hd5.alloc (.cells #[.int .i64 y5.op, .int .i64 y5.kind, .int .i64 y5.num, .string y5.txt, .string y5.name, .slice y5.A y5.n y5.c] 87))
                        have HN5 := Lib.hid (Cel.lit w5 #[.int .i64 y5.op, .int .i64 y5.kind, .int .i64 y5.num, .string y5.txt, .string y5.name, .slice y5.A y5.n y5.c] 87)
                        have hne : ∀ z : Nat, w.heap.size ≤ z → some q ≠ some z := fun z hz e => by have := Option.some.inj e; omega
                        have HY5 := Lib.hid ((HY4.out.kept hg5 (hne _ (by omega))).alloc (.cells #[.int .i64 y5.op, .int .i64 y5.kind, .int .i64 y5.num, .string y5.txt, .string y5.name, .slice y5.A y5.n y5.c] 87))
                        have HZ5 := Lib.hid ((HZ4.out.kept hg5 (hne _ (by omega))).alloc (.cells #[.int .i64 y5.op, .int .i64 y5.kind, .int .i64 y5.num, .string y5.txt, .string y5.name, .slice y5.A y5.n y5.c] 87))
                        have HW5 := Lib.hid ((HW4.out.kept hg5 (hne _ (by omega))).alloc (.cells #[.int .i64 y5.op, .int .i64 y5.kind, .int .i64 y5.num, .string y5.txt, .string y5.name, .slice y5.A y5.n y5.c] 87))
                        have HO5 := Lib.hid ((HO4.out.kept hg5 (hne _ (by omega))).alloc (.cells #[.int .i64 y5.op, .int .i64 y5.kind, .int .i64 y5.num, .string y5.txt, .string y5.name, .slice y5.A y5.n y5.c] 87))
                        have HG5 := Lib.hid (grown_trans (grown_trans HG4.out hg5) (grown_alloc w5 (.cells #[.int .i64 y5.op, .int .i64 y5.kind, .int .i64 y5.num, .string y5.txt, .string y5.name, .slice y5.A y5.n y5.c] 87) _))
                        have hz7 : (w5.alloc (.cells #[.int .i64 y5.op, .int .i64 y5.kind, .int .i64 y5.num, .string y5.txt, .string y5.name, .slice y5.A y5.n y5.c] 87)).heap.size = w5.heap.size + 1 := by simp
                        clear hd5 hg5 HP4 HG4 HY4 HZ4 HW4 HO4 HPP2 NX
                        generalize w5.alloc _ = w7 at *
                        obtain ⟨⟨y0, y1, y2, y3, y4, y5'⟩, g0, g1, g2, g3, g4, g5⟩ := HY5.out.six_of
                        obtain ⟨⟨n0, n1, n2, n3, n4, n5⟩, _⟩ := (show Cel w7 w5.heap.size y5.list from HN5.out).six_of
                        have o0 := HO5.out.cell 0 _ rfl
                        have hA : w.heap.size + 1 + 1 + 1 + 1 + 1 + 1 + 1 + 1 + 1 < w7.heap.size := HO5.out.lt
                        have hB : w6.heap.size < w7.heap.size := HY5.out.lt
                        have hC : w5.heap.size < w7.heap.size := by omega
                        clear hz5 hne hz7
                        go_region
                        obtain ⟨v, hv⟩ : ∃ v : Ex, v = ⟨14, 0, 0, ⟨#[]⟩, ⟨#[]⟩, some ⟨w7.heap.size, 0, none⟩, 2, 2⟩ := ⟨_, rfl⟩
                        have hg8 := set6_grown w7 w6.heap.size v
                        have hY8 := HY5.out.six v
                        have hne : ∀ z : Nat, z ≠ w6.heap.size → some w6.heap.size ≠ some z := fun z hz e => hz (Option.some.inj e).symm
                        have hD8 := HD5.out.other hg8 (hne _ (by omega))
                        have hZ8 := HZ5.out.kept hg8 (hne _ (by omega))
                        have hW8 := HW5.out.kept hg8 (hne _ (by omega))
                        have hO8 := HO5.out.kept hg8 (hne _ (by omega))
                        have hG8 := grown_past HG5.out hg8 (by omega)
                        show Exit.inBlock _ _ _ _ (((set6 w7 w6.heap.size ⟨14, 0, 0, ⟨#[]⟩, ⟨#[]⟩, some ⟨w7.heap.size, 0, none⟩, 2, 2⟩).alloc _).drew)
                        rw [← hv]
                        generalize set6 w7 w6.heap.size v = w8 at *
                        have hb8 := fun o => ((Below.refl w8.heap.size w8).alloc (Nat.le_refl _) o).drew
                        have HB8 := Lib.hid hb8
                        have HY8 := Lib.hid hY8
                        have HD8 := Lib.hid hD8
                        have HZ8 := Lib.hid hZ8
                        have HW8 := Lib.hid hW8
                        have HO8 := Lib.hid hO8
                        have HG8 := Lib.hid hG8
                        clear hb8 hY8 hD8 hZ8 hW8 hO8 hG8 hg8 hv hne hA hB hC
                        go_wp2_with fail
                        go_roundg f
                        case measure => omega
                        case rel =>
                          exact ⟨_, _, v, HR2, HY8.out.below (HB8.out _) (Nat.le_refl _), HD8.out.other (grown_of (World.grownBy.refl w8 none) (HB8.out _) (Nat.le_refl _)) (by simp), HZ8.out.below (HB8.out _) (Nat.le_refl _),
                            HW8.out.below (HB8.out _) (Nat.le_refl _), HO8.out.below (HB8.out _) (Nat.le_refl _), grown_of HG8.out (HB8.out _) (Nat.le_refl _)⟩
            · by_cases hm1 : Co.text s.data.toList st = [47]
              · rw [hm1] at k3
                have H0 : Hid (Co.op s.data.toList st 14 16 = 15) := by
                  have e0 := HM0.out
                  rw [decide_eq_false hm0] at e0
                  have e1 := HM1.out
                  rw [decide_eq_true hm1] at e1
                  show (if Co.isM s.data.toList st [42] = true then 14 else if Co.isM s.data.toList st [47] = true then 15 else if Co.isM s.data.toList st [37] = true then 16 else 0) = 15
                  rw [e0, e1]; rfl
                have hR := HR.out
                cases gk with
                | zero => cases hR
                | succ f =>
                  rw [Co.row, if_neg (by rw [H0.out]; decide), H0.out] at hR
                  cases hp : part (Co.next s.data.toList st) with
                  | none => rw [hp] at hR; cases hR
                  | some r =>
                    obtain ⟨e2, st2⟩ := r
                    rw [hp] at hR
                    have HR2 : Hid (Co.row s.data.toList part 14 16 f (.two 15 e e2) st2 = some (eF, stF)) := hR
                    have hfa := HD.out.gd.facts HE.out
                    have hsl : s.data.toList.length = s.size := by simp
                    have NX : Hid (∀ wv, Cel wv q (Dq.list s (Dq.good s st d)) → _) := fun wv hx => dnext_any hx HE.out (by rw [← hsl]; exact hfa.2.1) hsz
                    have HPP2 := Lib.hid (HPP.out _ _ _ hp)
                    have GN := Lib.hid HD.out.gd.next.1
                    clear hR hp hfa hsl hm0 hm1
                    go_wp2_with fail
                    refine FI.out.mono ?_
                    rintro e3 w3 ⟨rfl, rfl⟩
                    go_wp2_with fail
                    go_loopw [8, 9] (fun k i v => ∃ j : Nat, (j ≤ 1 ∧ k = .int .i64 (-1) ∨ (1 < j ∧ j ≤ 3) ∧ k = .int .i64 1) ∧ i = .int .i64 j ∧ Below wo.heap.size wo v) (fun k i _ => 3 - (intOf i).toNat)
                    case atStart => exact ⟨0, .inl ⟨by omega, rfl⟩, rfl, Below.refl _ _⟩
                    case round =>
                      obtain ⟨j, hjk, rfl, hbd⟩ := hrel
                      generalize wr = wv at *
                      have k3d := below_cells hbd k3
                      have c0d := below_cells hbd c0
                      have c1d := below_cells hbd c1
                      have c2d := below_cells hbd c2
                      have hj : j ≤ 3 := by omega
                      rcases (show j = 0 ∨ j = 1 ∨ j = 2 ∨ j = 3 from by omega) with rfl | rfl | rfl | rfl
                      · obtain ⟨_, rfl⟩ | ⟨hx, _⟩ := hjk
                        · go_wp2_with fail
                          go_quiet (fail)
                          go_wp2_with fail
                          go_round
                          case measure => simp [intOf]
                          case rel => exact ⟨1, .inl ⟨by omega, rfl⟩, rfl, below_drewN hbd _⟩
                        · omega
                      · obtain ⟨_, rfl⟩ | ⟨hx, _⟩ := hjk
                        · go_wp2_with fail
                          go_quiet (fail)
                          go_wp2_with fail
                          go_round
                          case measure => simp [intOf]
                          case rel => exact ⟨2, .inr ⟨by omega, rfl⟩, rfl, below_drewN hbd _⟩
                        · omega
                      · obtain ⟨hx, _⟩ | ⟨_, rfl⟩ := hjk
                        · omega
                        · go_wp2_with fail
                          go_quiet (fail)
                          go_wp2_with fail
                          go_round
                          case measure => simp [intOf]
                          case rel => exact ⟨3, .inr ⟨by omega, rfl⟩, rfl, below_drewN hbd _⟩
                      · obtain ⟨hx, _⟩ | ⟨_, rfl⟩ := hjk
                        · omega
                        · have HY := Lib.hid (HY.out.below hbd (Nat.le_refl _))
                          have HZ := Lib.hid (HZ.out.below hbd (Nat.le_refl _))
                          have HW := Lib.hid (HW.out.below hbd (Nat.le_refl _))
                          have HO := Lib.hid (HO.out.below hbd (Nat.le_refl _))
                          have HX := Lib.hid (HX.out.below hbd (Nat.le_refl _))
                          have HG := Lib.hid (grown_of HG.out hbd (Nat.le_refl _))
                          clear hbd
                          go_wp2_with fail
                          refine (NX.out wv HX.out).mono ?_
                          rintro e4 w4 ⟨rfl, ⟨x4, hx4, hs4⟩, hg4⟩
                          have HG4 := Lib.hid (grown_trans HG.out hg4)
                          have HY4 := Lib.hid (HY.out.kept hg4 (by intro e; have := Option.some.inj e; omega))
                          have HZ4 := Lib.hid (HZ.out.kept hg4 (by intro e; have := Option.some.inj e; omega))
                          have HW4 := Lib.hid (HW.out.kept hg4 (by intro e; have := Option.some.inj e; omega))
                          have HO4 := Lib.hid (HO.out.kept hg4 (by intro e; have := Option.some.inj e; omega))
                          have HP4 := Lib.hid (HPP2.out w4 ⟨GN.out, x4, hx4, hs4⟩)
                          clear hx4 hs4 hg4
                          go_wp2_with fail
                          refine HP4.out.mono ?_
                          rintro e5 w5 ⟨⟨y5, rfl⟩, hd5, hg5⟩
                          unfold Ex.val
                          go_wp2_with fail
                          have hz5 : w6.heap.size < w5.heap.size := by have := hg5.size; have := HY4.out.lt; omega
                          have HD5 := Lib.hid (hd5.alloc (.cells #[.int .i64 y5.op, .int .i64 y5.kind, .int .i64 y5.num, .string y5.txt, .string y5.name, .slice y5.A y5.n y5.c] 87))
                          have HN5 := Lib.hid (Cel.lit w5 #[.int .i64 y5.op, .int .i64 y5.kind, .int .i64 y5.num, .string y5.txt, .string y5.name, .slice y5.A y5.n y5.c] 87)
                          have hne : ∀ z : Nat, w.heap.size ≤ z → some q ≠ some z := fun z hz e => by have := Option.some.inj e; omega
                          have HY5 := Lib.hid ((HY4.out.kept hg5 (hne _ (by omega))).alloc (.cells #[.int .i64 y5.op, .int .i64 y5.kind, .int .i64 y5.num, .string y5.txt, .string y5.name, .slice y5.A y5.n y5.c] 87))
                          have HZ5 := Lib.hid ((HZ4.out.kept hg5 (hne _ (by omega))).alloc (.cells #[.int .i64 y5.op, .int .i64 y5.kind, .int .i64 y5.num, .string y5.txt, .string y5.name, .slice y5.A y5.n y5.c] 87))
                          have HW5 := Lib.hid ((HW4.out.kept hg5 (hne _ (by omega))).alloc (.cells #[.int .i64 y5.op, .int .i64 y5.kind, .int .i64 y5.num, .string y5.txt, .string y5.name, .slice y5.A y5.n y5.c] 87))
                          have HO5 := Lib.hid ((HO4.out.kept hg5 (hne _ (by omega))).alloc (.cells #[.int .i64 y5.op, .int .i64 y5.kind, .int .i64 y5.num, .string y5.txt, .string y5.name, .slice y5.A y5.n y5.c] 87))
                          have HG5 := Lib.hid (grown_trans (grown_trans HG4.out hg5) (grown_alloc w5 (.cells #[.int .i64 y5.op, .int .i64 y5.kind, .int .i64 y5.num, .string y5.txt, .string y5.name, .slice y5.A y5.n y5.c] 87) _))
                          have hz7 : (w5.alloc (.cells #[.int .i64 y5.op, .int .i64 y5.kind, .int .i64 y5.num, .string y5.txt, .string y5.name, .slice y5.A y5.n y5.c] 87)).heap.size = w5.heap.size + 1 := by simp
                          clear hd5 hg5 HP4 HG4 HY4 HZ4 HW4 HO4 HPP2 NX
                          generalize w5.alloc _ = w7 at *
                          obtain ⟨⟨y0, y1, y2, y3, y4, y5'⟩, g0, g1, g2, g3, g4, g5⟩ := HY5.out.six_of
                          obtain ⟨⟨n0, n1, n2, n3, n4, n5⟩, _⟩ := (show Cel w7 w5.heap.size y5.list from HN5.out).six_of
                          have o0 := HO5.out.cell 1 _ rfl
                          have hA : w.heap.size + 1 + 1 + 1 + 1 + 1 + 1 + 1 + 1 + 1 < w7.heap.size := HO5.out.lt
                          have hB : w6.heap.size < w7.heap.size := HY5.out.lt
                          have hC : w5.heap.size < w7.heap.size := by omega
                          clear hz5 hne hz7
                          go_region
                          obtain ⟨v, hv⟩ : ∃ v : Ex, v = ⟨15, 0, 0, ⟨#[]⟩, ⟨#[]⟩, some ⟨w7.heap.size, 0, none⟩, 2, 2⟩ := ⟨_, rfl⟩
                          have hg8 := set6_grown w7 w6.heap.size v
                          have hY8 := HY5.out.six v
                          have hne : ∀ z : Nat, z ≠ w6.heap.size → some w6.heap.size ≠ some z := fun z hz e => hz (Option.some.inj e).symm
                          have hD8 := HD5.out.other hg8 (hne _ (by omega))
                          have hZ8 := HZ5.out.kept hg8 (hne _ (by omega))
                          have hW8 := HW5.out.kept hg8 (hne _ (by omega))
                          have hO8 := HO5.out.kept hg8 (hne _ (by omega))
                          have hG8 := grown_past HG5.out hg8 (by omega)
                          show Exit.inBlock _ _ _ _ (((set6 w7 w6.heap.size ⟨15, 0, 0, ⟨#[]⟩, ⟨#[]⟩, some ⟨w7.heap.size, 0, none⟩, 2, 2⟩).alloc _).drew)
                          rw [← hv]
                          generalize set6 w7 w6.heap.size v = w8 at *
                          have hb8 := fun o => ((Below.refl w8.heap.size w8).alloc (Nat.le_refl _) o).drew
                          have HB8 := Lib.hid hb8
                          have HY8 := Lib.hid hY8
                          have HD8 := Lib.hid hD8
                          have HZ8 := Lib.hid hZ8
                          have HW8 := Lib.hid hW8
                          have HO8 := Lib.hid hO8
                          have HG8 := Lib.hid hG8
                          clear hb8 hY8 hD8 hZ8 hW8 hO8 hG8 hg8 hv hne hA hB hC
                          go_wp2_with fail
                          go_roundg f
                          case measure => omega
                          case rel =>
                            exact ⟨_, _, v, HR2, HY8.out.below (HB8.out _) (Nat.le_refl _), HD8.out.other (grown_of (World.grownBy.refl w8 none) (HB8.out _) (Nat.le_refl _)) (by simp), HZ8.out.below (HB8.out _) (Nat.le_refl _),
                              HW8.out.below (HB8.out _) (Nat.le_refl _), HO8.out.below (HB8.out _) (Nat.le_refl _), grown_of HG8.out (HB8.out _) (Nat.le_refl _)⟩
              · by_cases hm2 : Co.text s.data.toList st = [37]
                · rw [hm2] at k3
                  have H0 : Hid (Co.op s.data.toList st 14 16 = 16) := by
                    have e0 := HM0.out
                    rw [decide_eq_false hm0] at e0
                    have e1 := HM1.out
                    rw [decide_eq_false hm1] at e1
                    have e2 := HM2.out
                    rw [decide_eq_true hm2] at e2
                    show (if Co.isM s.data.toList st [42] = true then 14 else if Co.isM s.data.toList st [47] = true then 15 else if Co.isM s.data.toList st [37] = true then 16 else 0) = 16
                    rw [e0, e1, e2]; rfl
                  have hR := HR.out
                  cases gk with
                  | zero => cases hR
                  | succ f =>
                    rw [Co.row, if_neg (by rw [H0.out]; decide), H0.out] at hR
                    cases hp : part (Co.next s.data.toList st) with
                    | none => rw [hp] at hR; cases hR
                    | some r =>
                      obtain ⟨e2, st2⟩ := r
                      rw [hp] at hR
                      have HR2 : Hid (Co.row s.data.toList part 14 16 f (.two 16 e e2) st2 = some (eF, stF)) := hR
                      have hfa := HD.out.gd.facts HE.out
                      have hsl : s.data.toList.length = s.size := by simp
                      have NX : Hid (∀ wv, Cel wv q (Dq.list s (Dq.good s st d)) → _) := fun wv hx => dnext_any hx HE.out (by rw [← hsl]; exact hfa.2.1) hsz
                      have HPP2 := Lib.hid (HPP.out _ _ _ hp)
                      have GN := Lib.hid HD.out.gd.next.1
                      clear hR hp hfa hsl hm0 hm1 hm2
                      go_wp2_with fail
                      refine FI.out.mono ?_
                      rintro e3 w3 ⟨rfl, rfl⟩
                      go_wp2_with fail
                      go_loopw [8, 9] (fun k i v => ∃ j : Nat, (j ≤ 2 ∧ k = .int .i64 (-1) ∨ (2 < j ∧ j ≤ 3) ∧ k = .int .i64 2) ∧ i = .int .i64 j ∧ Below wo.heap.size wo v) (fun k i _ => 3 - (intOf i).toNat)
                      case atStart => exact ⟨0, .inl ⟨by omega, rfl⟩, rfl, Below.refl _ _⟩
                      case round =>
                        obtain ⟨j, hjk, rfl, hbd⟩ := hrel
                        generalize wr = wv at *
                        have k3d := below_cells hbd k3
                        have c0d := below_cells hbd c0
                        have c1d := below_cells hbd c1
                        have c2d := below_cells hbd c2
                        have hj : j ≤ 3 := by omega
                        rcases (show j = 0 ∨ j = 1 ∨ j = 2 ∨ j = 3 from by omega) with rfl | rfl | rfl | rfl
                        · obtain ⟨_, rfl⟩ | ⟨hx, _⟩ := hjk
                          · go_wp2_with fail
                            go_quiet (fail)
                            go_wp2_with fail
                            go_round
                            case measure => simp [intOf]
                            case rel => exact ⟨1, .inl ⟨by omega, rfl⟩, rfl, below_drewN hbd _⟩
                          · omega
                        · obtain ⟨_, rfl⟩ | ⟨hx, _⟩ := hjk
                          · go_wp2_with fail
                            go_quiet (fail)
                            go_wp2_with fail
                            go_round
                            case measure => simp [intOf]
                            case rel => exact ⟨2, .inl ⟨by omega, rfl⟩, rfl, below_drewN hbd _⟩
                          · omega
                        · obtain ⟨_, rfl⟩ | ⟨hx, _⟩ := hjk
                          · go_wp2_with fail
                            go_quiet (fail)
                            go_wp2_with fail
                            go_round
                            case measure => simp [intOf]
                            case rel => exact ⟨3, .inr ⟨by omega, rfl⟩, rfl, below_drewN hbd _⟩
                          · omega
                        · obtain ⟨hx, _⟩ | ⟨_, rfl⟩ := hjk
                          · omega
                          · have HY := Lib.hid (HY.out.below hbd (Nat.le_refl _))
                            have HZ := Lib.hid (HZ.out.below hbd (Nat.le_refl _))
                            have HW := Lib.hid (HW.out.below hbd (Nat.le_refl _))
                            have HO := Lib.hid (HO.out.below hbd (Nat.le_refl _))
                            have HX := Lib.hid (HX.out.below hbd (Nat.le_refl _))
                            have HG := Lib.hid (grown_of HG.out hbd (Nat.le_refl _))
                            clear hbd
                            go_wp2_with fail
                            refine (NX.out wv HX.out).mono ?_
                            rintro e4 w4 ⟨rfl, ⟨x4, hx4, hs4⟩, hg4⟩
                            have HG4 := Lib.hid (grown_trans HG.out hg4)
                            have HY4 := Lib.hid (HY.out.kept hg4 (by intro e; have := Option.some.inj e; omega))
                            have HZ4 := Lib.hid (HZ.out.kept hg4 (by intro e; have := Option.some.inj e; omega))
                            have HW4 := Lib.hid (HW.out.kept hg4 (by intro e; have := Option.some.inj e; omega))
                            have HO4 := Lib.hid (HO.out.kept hg4 (by intro e; have := Option.some.inj e; omega))
                            have HP4 := Lib.hid (HPP2.out w4 ⟨GN.out, x4, hx4, hs4⟩)
                            clear hx4 hs4 hg4
                            go_wp2_with fail
                            refine HP4.out.mono ?_
                            rintro e5 w5 ⟨⟨y5, rfl⟩, hd5, hg5⟩
                            unfold Ex.val
                            go_wp2_with fail
                            have hz5 : w6.heap.size < w5.heap.size := by have := hg5.size; have := HY4.out.lt; omega
                            have HD5 := Lib.hid (hd5.alloc (.cells #[.int .i64 y5.op, .int .i64 y5.kind, .int .i64 y5.num, .string y5.txt, .string y5.name, .slice y5.A y5.n y5.c] 87))
                            have HN5 := Lib.hid (Cel.lit w5 #[.int .i64 y5.op, .int .i64 y5.kind, .int .i64 y5.num, .string y5.txt, .string y5.name, .slice y5.A y5.n y5.c] 87)
                            have hne : ∀ z : Nat, w.heap.size ≤ z → some q ≠ some z := fun z hz e => by have := Option.some.inj e; omega
                            have HY5 := Lib.hid ((HY4.out.kept hg5 (hne _ (by omega))).alloc (.cells #[.int .i64 y5.op, .int .i64 y5.kind, .int .i64 y5.num, .string y5.txt, .string y5.name, .slice y5.A y5.n y5.c] 87))
                            have HZ5 := Lib.hid ((HZ4.out.kept hg5 (hne _ (by omega))).alloc (.cells #[.int .i64 y5.op, .int .i64 y5.kind, .int .i64 y5.num, .string y5.txt, .string y5.name, .slice y5.A y5.n y5.c] 87))
                            have HW5 := Lib.hid ((HW4.out.kept hg5 (hne _ (by omega))).alloc (.cells #[.int .i64 y5.op, .int .i64 y5.kind, .int .i64 y5.num, .string y5.txt, .string y5.name, .slice y5.A y5.n y5.c] 87))
                            have HO5 := Lib.hid ((HO4.out.kept hg5 (hne _ (by omega))).alloc (.cells #[.int .i64 y5.op, .int .i64 y5.kind, .int .i64 y5.num, .string y5.txt, .string y5.name, .slice y5.A y5.n y5.c] 87))
                            have HG5 := Lib.hid (grown_trans (grown_trans HG4.out hg5) (grown_alloc w5 (.cells #[.int .i64 y5.op, .int .i64 y5.kind, .int .i64 y5.num, .string y5.txt, .string y5.name, .slice y5.A y5.n y5.c] 87) _))
                            have hz7 : (w5.alloc (.cells #[.int .i64 y5.op, .int .i64 y5.kind, .int .i64 y5.num, .string y5.txt, .string y5.name, .slice y5.A y5.n y5.c] 87)).heap.size = w5.heap.size + 1 := by simp
                            clear hd5 hg5 HP4 HG4 HY4 HZ4 HW4 HO4 HPP2 NX
                            generalize w5.alloc _ = w7 at *
                            obtain ⟨⟨y0, y1, y2, y3, y4, y5'⟩, g0, g1, g2, g3, g4, g5⟩ := HY5.out.six_of
                            obtain ⟨⟨n0, n1, n2, n3, n4, n5⟩, _⟩ := (show Cel w7 w5.heap.size y5.list from HN5.out).six_of
                            have o0 := HO5.out.cell 2 _ rfl
                            have hA : w.heap.size + 1 + 1 + 1 + 1 + 1 + 1 + 1 + 1 + 1 < w7.heap.size := HO5.out.lt
                            have hB : w6.heap.size < w7.heap.size := HY5.out.lt
                            have hC : w5.heap.size < w7.heap.size := by omega
                            clear hz5 hne hz7
                            go_region
                            obtain ⟨v, hv⟩ : ∃ v : Ex, v = ⟨16, 0, 0, ⟨#[]⟩, ⟨#[]⟩, some ⟨w7.heap.size, 0, none⟩, 2, 2⟩ := ⟨_, rfl⟩
                            have hg8 := set6_grown w7 w6.heap.size v
                            have hY8 := HY5.out.six v
                            have hne : ∀ z : Nat, z ≠ w6.heap.size → some w6.heap.size ≠ some z := fun z hz e => hz (Option.some.inj e).symm
                            have hD8 := HD5.out.other hg8 (hne _ (by omega))
                            have hZ8 := HZ5.out.kept hg8 (hne _ (by omega))
                            have hW8 := HW5.out.kept hg8 (hne _ (by omega))
                            have hO8 := HO5.out.kept hg8 (hne _ (by omega))
                            have hG8 := grown_past HG5.out hg8 (by omega)
                            show Exit.inBlock _ _ _ _ (((set6 w7 w6.heap.size ⟨16, 0, 0, ⟨#[]⟩, ⟨#[]⟩, some ⟨w7.heap.size, 0, none⟩, 2, 2⟩).alloc _).drew)
                            rw [← hv]
                            generalize set6 w7 w6.heap.size v = w8 at *
                            have hb8 := fun o => ((Below.refl w8.heap.size w8).alloc (Nat.le_refl _) o).drew
                            have HB8 := Lib.hid hb8
                            have HY8 := Lib.hid hY8
                            have HD8 := Lib.hid hD8
                            have HZ8 := Lib.hid hZ8
                            have HW8 := Lib.hid hW8
                            have HO8 := Lib.hid hO8
                            have HG8 := Lib.hid hG8
                            clear hb8 hY8 hD8 hZ8 hW8 hO8 hG8 hg8 hv hne hA hB hC
                            go_wp2_with fail
                            go_roundg f
                            case measure => omega
                            case rel =>
                              exact ⟨_, _, v, HR2, HY8.out.below (HB8.out _) (Nat.le_refl _), HD8.out.other (grown_of (World.grownBy.refl w8 none) (HB8.out _) (Nat.le_refl _)) (by simp), HZ8.out.below (HB8.out _) (Nat.le_refl _),
                                HW8.out.below (HB8.out _) (Nat.le_refl _), HO8.out.below (HB8.out _) (Nat.le_refl _), grown_of HG8.out (HB8.out _) (Nat.le_refl _)⟩
                · obtain ⟨wd, hwd⟩ : ∃ wd : ByteArray, wd = ⟨(Co.text s.data.toList st).toArray⟩ := ⟨_, rfl⟩
                  rw [← hwd] at k3
                  have hwl0 : (wd.toList == [42]) = false := by
                    rw [Co.eq_lit, hwd]; exact decide_eq_false hm0
                  have hwl1 : (wd.toList == [47]) = false := by
                    rw [Co.eq_lit, hwd]; exact decide_eq_false hm1
                  have hwl2 : (wd.toList == [37]) = false := by
                    rw [Co.eq_lit, hwd]; exact decide_eq_false hm2
                  have H0 : Hid (Co.op s.data.toList st 14 16 = 0) := by
                    have e0 := HM0.out
                    rw [decide_eq_false hm0] at e0
                    have e1 := HM1.out
                    rw [decide_eq_false hm1] at e1
                    have e2 := HM2.out
                    rw [decide_eq_false hm2] at e2
                    show (if Co.isM s.data.toList st [42] = true then 14 else if Co.isM s.data.toList st [47] = true then 15 else if Co.isM s.data.toList st [37] = true then 16 else 0) = 0
                    rw [e0, e1, e2]; rfl
                  clear hm0 hm1 hm2 hwd
                  go_wp2_with fail
                  refine FI.out.mono ?_
                  rintro e3 w3 ⟨rfl, rfl⟩
                  go_wp2_with fail
                  go_loopw [8, 9] (fun k i v => ∃ j : Nat, j ≤ 3 ∧ i = .int .i64 j ∧ k = .int .i64 (-1) ∧ Below wo.heap.size wo v) (fun k i _ => 3 - (intOf i).toNat)
                  case atStart => exact ⟨0, by omega, rfl, rfl, Below.refl _ _⟩
                  case round =>
                    obtain ⟨j, hj, rfl, rfl, hbd⟩ := hrel
                    generalize wr = wv at *
                    have k3d := below_cells hbd k3
                    have c0d := below_cells hbd c0
                    have c1d := below_cells hbd c1
                    have c2d := below_cells hbd c2
                    rcases (show j = 0 ∨ j = 1 ∨ j = 2 ∨ j = 3 from by omega) with rfl | rfl | rfl | rfl
                    · go_wp2_with fail
                      go_quiet (fail)
                      go_wp2_with fail
                      go_round
                      case measure => simp [intOf]
                      case rel => exact ⟨1, by omega, rfl, rfl, below_drewN hbd _⟩
                    · go_wp2_with fail
                      go_quiet (fail)
                      go_wp2_with fail
                      go_round
                      case measure => simp [intOf]
                      case rel => exact ⟨2, by omega, rfl, rfl, below_drewN hbd _⟩
                    · go_wp2_with fail
                      go_quiet (fail)
                      go_wp2_with fail
                      go_round
                      case measure => simp [intOf]
                      case rel => exact ⟨3, by omega, rfl, rfl, below_drewN hbd _⟩
                    · have HY := Lib.hid (HY.out.below hbd (Nat.le_refl _))
                      have HZ := Lib.hid (HZ.out.below hbd (Nat.le_refl _))
                      have HW := Lib.hid (HW.out.below hbd (Nat.le_refl _))
                      have HO := Lib.hid (HO.out.below hbd (Nat.le_refl _))
                      have HX := Lib.hid (HX.out.below hbd (Nat.le_refl _))
                      have HG := Lib.hid (grown_of HG.out hbd (Nat.le_refl _))
                      have HD := Lib.hid (HD.out.other (grown_of (World.grownBy.refl wo none) hbd (Nat.le_refl _)) (by simp))
                      clear hbd
                      obtain ⟨⟨y0, y1, y2, y3, y4, y5⟩, _⟩ := HY.out.six_of
                      obtain ⟨⟨z0, z1, z2, z3, z4, z5⟩, g0, g1, g2, g3, g4, g5⟩ := HZ.out.six_of
                      go_wp2_with fail
                      have hF : some (e, st) = some (eF, stF) := by
                        have := HR.out
                        cases gk with
                        | zero => cases this
                        | succ f => rw [Co.row, if_pos H0.out] at this; exact this
                      obtain ⟨rfl, rfl⟩ : e = eF ∧ st = stF := by cases hF; exact ⟨rfl, rfl⟩
                      have hfin := HZ.out.six y
                      have h3 := HD.out.other (set6_grown wv w.heap.size y) (by intro e; have := Option.some.inj e; omega)
                      have hg3 := grown_past HG.out (set6_grown wv w.heap.size y) (Nat.le_refl _)
                      show bodyPost _ _ _ _ _ (set6 wv w.heap.size y)
                      generalize set6 wv w.heap.size y = wf at *
                      obtain ⟨⟨k0, k1, k2, k3', k4, k5⟩, _⟩ := hfin.six_of
                      exact bodyPost_ret (v := y.val) (by simp [results, Tryz.results60, go_sem, k0, k1, k2, k3', k4, k5, Ex.val]) rfl ⟨⟨y, rfl⟩, h3, hg3⟩
        · have hbf : (x.c == 0) = false := by simpa using hb
          rw [hbf] at FI
          have H0 : Hid (Co.op s.data.toList st 14 16 = 0) := by
            cases hs with
            | fine he hk1 => exact absurd rfl hb
            | bad a n d' wd c k hc he =>
              show _ = _
              by_cases h0 : Co.op s.data.toList st 14 16 = 0
              · exact h0
              · have h6 := Co.op_kind h0
                have h1 := Co.eff_of he (by rw [h6]; decide)
                have h2 := HD.out.gd.bad (by rw [h1]; rfl)
                omega
          clear hb hbf hx hs
          go_wp2_with fail
          refine FI.out.mono ?_
          rintro e3 w3 ⟨rfl, rfl⟩
          obtain ⟨⟨y0, y1, y2, y3, y4, y5⟩, _⟩ := HY.out.six_of
          obtain ⟨⟨z0, z1, z2, z3, z4, z5⟩, g0, g1, g2, g3, g4, g5⟩ := HZ.out.six_of
          go_wp2
          have hF : some (e, st) = some (eF, stF) := by
            have := HR.out
            cases gk with
            | zero => cases this
            | succ f => rw [Co.row, if_pos H0.out] at this; exact this
          obtain ⟨rfl, rfl⟩ : e = eF ∧ st = stF := by cases hF; exact ⟨rfl, rfl⟩
          have hfin := HZ.out.six y
          have h3 := HD.out.other (set6_grown wo w.heap.size y) (by intro e; have := Option.some.inj e; omega)
          have hg3 := grown_past HG.out (set6_grown wo w.heap.size y) (Nat.le_refl _)
          show bodyPost _ _ _ _ _ (set6 wo w.heap.size y)
          generalize set6 wo w.heap.size y = wf at *
          obtain ⟨⟨k0, k1, k2, k3, k4, k5⟩, _⟩ := hfin.six_of
          exact bodyPost_ret (v := y.val) (by simp [results, Tryz.results60, go_sem, k0, k1, k2, k3, k4, k5, Ex.val]) rfl ⟨⟨y, rfl⟩, h3, hg3⟩
end
end Go.Proofs.YtddedbpbenkdoaaGreatDoor
