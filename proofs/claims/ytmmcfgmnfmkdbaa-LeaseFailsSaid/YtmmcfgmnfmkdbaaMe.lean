/- Statements of lease: first, made. -/
import Derived.Test.YtmmcfgmnfmkdbaaMf
import Derived.Test.YtmmcfgmnfmkdbaaNumber
namespace Go.Proofs.Ytmmcfgmnfmkdbaa
open Go.RowKit

namespace Ls
theorem i64_and1 (y : Int) : ∃ k : Nat, k ≤ 1 ∧ Go.bits .and .i64 y 1 = (k : Int) := by
  have h : ((BitVec.ofInt 64 y) &&& BitVec.ofInt 64 1).toNat ≤ 1 := by
    rw [BitVec.toNat_and]
    exact Nat.le_trans Nat.and_le_right (by decide)
  refine ⟨((BitVec.ofInt 64 y) &&& BitVec.ofInt 64 1).toNat, h, ?_⟩
  show IntKind.i64.wrap ((BitVec.ofInt 64 y &&& BitVec.ofInt 64 1).toNat : Int) = _
  rw [IntKind.wrap_i64]
  generalize ((BitVec.ofInt 64 y) &&& BitVec.ofInt 64 1).toNat = n at *
  omega
theorem tdiv_within (n : Int) (d : Int) (hd : 1 < d) (h1 : -9223372036854775808 ≤ n) (h2 : n ≤ 9223372036854775807) : -9223372036854775808 ≤ n.tdiv d ∧ n.tdiv d ≤ 9223372036854775807 := by
  have h : (n.tdiv d).natAbs ≤ n.natAbs / 2 := by
    rw [Int.natAbs_tdiv]
    exact Nat.div_le_div_left (by omega) (by decide)
  omega
theorem MadeEnd.mk {w w3 : World} {x : T} {s : ByteArray} {E : Int} (hc : Cel w3 (w.heap.size + 1) [.int .i64 x.id, .int .i64 x.ins, .int .i64 x.tok, .int .i64 x.nod, .string x.top, .int .i64 x.prio, .string s, .int .i64 x.epo, .int .i64 x.exp, .int .i64 x.aft, .int .i64 x.ret, .bool x.bro]) (hd : Cel w3 w.heap.size zero.cells) (hb : Below w.heap.size w w3) (hg : x.Good) (h1 : s.size = 1) (h2 : Vr.name s.data.toList = true) (h3 : 1 ≤ E ∧ E ≤ 1073742000) (h4 : 0 < x.epo) :
    (Value.pointer (some ⟨w.heap.size + 1, 0, Option.none⟩) = Value.pointer (some ⟨w.heap.size + 1, 0, Option.none⟩)) ∧ ∃ y : T, Cel (w3.setCell ⟨w.heap.size + 1, 8, Option.none⟩ (.int .i64 E)) (w.heap.size + 1) y.cells ∧ Cel (w3.setCell ⟨w.heap.size + 1, 8, Option.none⟩ (.int .i64 E)) w.heap.size zero.cells ∧ Below w.heap.size w (w3.setCell ⟨w.heap.size + 1, 8, Option.none⟩ (.int .i64 E)) ∧ y.Good ∧ y.exp ≤ 1073743000 :=
  ⟨rfl, { x with wkr := s, exp := E }, hc.set (i := 8) (by simp) (.int .i64 E), hd.kept (set_grown (World.grownBy.refl w3 (some (w.heap.size + 1))) 8 (.int .i64 E)) (fun e => by have := Option.some.inj e; omega), hb.setCell (p := ⟨w.heap.size + 1, 8, Option.none⟩) (Nat.le_succ _) (.int .i64 E),
    hg.hold h2 (by omega) (by omega) (by omega) (by omega) h4 hg.epo.2, (by show E ≤ _; omega)⟩
theorem exp_within {now E : Int} {k : Nat} (h1 : 0 ≤ now) (h2 : now < 1073741824) (hk : (k : Int) < 40) (h : E = (if wrap64 (wrap64 (now + (k : Int)) - 20) < 1 then 1 else wrap64 (wrap64 (now + (k : Int)) - 20))) : 1 ≤ E ∧ E ≤ 1073742000 := by
  have e3 : wrap64 (now + (k : Int)) = now + (k : Int) := by unfold wrap64; omega
  have e4 : wrap64 (now + (k : Int) - 20) = now + (k : Int) - 20 := by unfold wrap64; omega
  rw [e3, e4] at h
  by_cases h3 : now + (k : Int) - 20 < 1
  · rw [if_pos h3] at h; omega
  · rw [if_neg h3] at h; omega
set_option maxHeartbeats 800000 in
theorem first_any (w : World) : Calls Try.prog 7 #[] w fun e w' => e = .returned (.bool true) ∧ Below w.heap.size w w' := by
  have W0 := Lib.hid (fun w => free_any zero 0 w)
  have W1 := Lib.hid (fun w => free_any { zero with bro := true } 0 w)
  have e0 : zero.free 0 = true := by decide +kernel
  have e1 : ({ zero with bro := true } : T).free 0 = false := by decide +kernel
  rw [e0] at W0
  rw [e1] at W1
  unfold zero T.val at W0 W1
  dsimp only at W0 W1
  clear e0 e1
  go_enter Try.func7, Try.ntmps7
  go_wp2_with fail
  refine (W0.out _).mono ?_
  rintro e w1 ⟨rfl, hb1⟩
  have HB1 := Lib.hid hb1
  clear hb1
  go_wp2_with fail
  refine (W1.out _).mono ?_
  rintro e w2 ⟨rfl, hb2⟩
  have HB2 := Lib.hid (HB1.out.trans (hb2.mono HB1.out.size))
  clear hb2
  go_wp2
  go_ret
  exact ⟨rfl, HB2.out⟩
set_option maxHeartbeats 3200000 in
theorem made_any (n m now : Int) (w : World) (hn1 : -9223372036854775808 ≤ n) (hn2 : n ≤ 9223372036854775807) (hm1 : -9223372036854775808 ≤ m) (hm2 : m ≤ 9223372036854775807) (h1 : 0 ≤ now) (h2 : now < 1073741824) :
    Calls Try.prog 9 #[.int .i64 n, .int .i64 m, .int .i64 now] w fun e w' => (∃ x : T, e = .returned x.val ∧ x.Good ∧ x.exp ≤ 1073743000) ∧ Below w.heap.size w w' := by
  obtain ⟨hd, hb⟩ := one_lit w #[.int .i64 0, .int .i64 0, .int .i64 0, .int .i64 0, .string ⟨#[]⟩, .int .i64 0, .string ⟨#[]⟩, .int .i64 0, .int .i64 0, .int .i64 0, .int .i64 0, .bool false] 25
  have t1 := tdiv_within n 10 (by decide) hn1 hn2
  have t2 := tdiv_within n 3 (by decide) hn1 hn2
  have t3 := tdiv_within m 7 (by decide) hm1 hm2
  have N1 := Lib.hid (fun w => number_any n 10 w (by decide) hn1 hn2 (by decide))
  have N2 := Lib.hid (fun w => number_any (n.tdiv 10) 9 w (by decide) t1.1 t1.2 (by decide))
  have N3 := Lib.hid (fun w => number_any m 61 w (by decide) hm1 hm2 (by decide))
  have N4 := Lib.hid (fun w => number_any (n.tdiv 3) 40 w (by decide) t2.1 t2.2 (by decide))
  have N5 := Lib.hid (fun w => number_any (m.tdiv 7) 40 w (by decide) t3.1 t3.2 (by decide))
  have d1 : IntKind.i64.wrap (n.tdiv 10) = n.tdiv 10 := wrapI t1.1 t1.2
  have d2 : IntKind.i64.wrap (n.tdiv 3) = n.tdiv 3 := wrapI t2.1 t2.2
  have d3 : IntKind.i64.wrap (m.tdiv 7) = m.tdiv 7 := wrapI t3.1 t3.2
  have H1 := Lib.hid h1
  have H2 := Lib.hid h2
  clear t1 t2 t3 hn1 hn2 hm1 hm2 h1 h2
  go_enter Try.func9, Try.ntmps9
  go_upto_region 1 with (fail)
  have WS : Hid ((w.alloc (.cells #[.int .i64 0, .int .i64 0, .int .i64 0, .int .i64 0, .string ⟨#[]⟩, .int .i64 0, .string ⟨#[]⟩, .int .i64 0, .int .i64 0, .int .i64 0, .int .i64 0, .bool false] 25)).heap.size = w.heap.size + 1) := Lib.hid (by simp)
  generalize w.alloc _ = wa at *
  have HD := Lib.hid hd
  have HB := Lib.hid hb
  clear hd hb
  go_wp2_with fail
  refine (N1.out _).mono ?_
  rintro e wy ⟨⟨k1, rfl, hk1⟩, rfl⟩
  go_wp2_with fail
  refine (N2.out _).mono ?_
  rintro e wy ⟨⟨k2, rfl, hk2⟩, rfl⟩
  go_wp2_with fail
  refine (N3.out _).mono ?_
  rintro e wy ⟨⟨k3, rfl, hk3⟩, rfl⟩
  go_wp2_with fail
  refine (N4.out _).mono ?_
  rintro e wy ⟨⟨k4, rfl, hk4⟩, rfl⟩
  go_upto_region 2 with (fail)
  obtain ⟨A, hA⟩ : ∃ A, A = (if wrap64 (wrap64 (now + (k4 : Int)) - 20) < 0 then 0 else wrap64 (wrap64 (now + (k4 : Int)) - 20)) := ⟨_, rfl⟩
  rw [← hA]
  have hA1 : 0 ≤ A ∧ A ≤ 2147483648 := by
    have e1 := H1.out
    have e2 := H2.out
    have e3 : wrap64 (now + (k4 : Int)) = now + (k4 : Int) := by unfold wrap64; omega
    have e4 : wrap64 (now + (k4 : Int) - 20) = now + (k4 : Int) - 20 := by unfold wrap64; omega
    rw [e3, e4] at hA
    by_cases h : now + (k4 : Int) - 20 < 0
    · rw [if_pos h] at hA; omega
    · rw [if_neg h] at hA; omega
  generalize wrap64 (wrap64 (now + (k4 : Int)) - 20) = A0 at *
  clear hA d2
  have hk10 : (k1 : Int) ≤ 9 := by omega
  have hk30 : (k3 : Int) ≤ 60 := by omega
  have hk20 : 1 ≤ 1 + (k2 : Int) ∧ 1 + (k2 : Int) ≤ 9 := by omega
  obtain ⟨x, hx⟩ : ∃ x : T, x = ⟨3, 1, 2, 1, ⟨#[116]⟩, k1, ⟨#[]⟩, k3, 0, A, 1 + (k2 : Int), false⟩ := ⟨_, rfl⟩
  have hg : x.Good := by
    subst hx
    exact good_lit _ _ _ _ _ _ _ _ _ _ _ _ (by decide) (by decide) (by decide) (by decide) (by decide +kernel) (by decide) ⟨by omega, by omega⟩ ⟨by omega, by omega⟩ (by decide) ⟨by omega, by omega⟩ ⟨by omega, by omega⟩ (decide_eq_false (by omega)).symm (.inl ⟨rfl, rfl⟩)
  have hc : Cel (wa.alloc (.cells x.cells.toArray 25)) wa.heap.size x.cells := Cel.lit wa x.cells.toArray 25
  have HBA := Lib.hid (HB.out.alloc (o := .cells x.cells.toArray 25) HB.out.size)
  have HDA := Lib.hid (HD.out.alloc (.cells x.cells.toArray 25))
  have HE : Hid (x.exp = 0 ∧ x.wkr = ⟨#[]⟩ ∧ x.bro = false ∧ x.epo = k3) := Lib.hid (by subst hx; exact ⟨rfl, rfl, rfl, rfl⟩)
  have e : wa.alloc (.cells #[.int .i64 3, .int .i64 1, .int .i64 2, .int .i64 1, .string ⟨#[116]⟩, .int .i64 k1, .string ⟨#[]⟩, .int .i64 k3, .int .i64 0, .int .i64 A, .int .i64 (1 + (k2 : Int)), .bool false] 25) = wa.alloc (.cells x.cells.toArray 25) := by subst hx; rfl
  rw [e]
  generalize wa.alloc (.cells x.cells.toArray 25) = wb at *
  have hwa : wa.heap.size = w.heap.size + 1 := WS.out
  rw [hwa] at hc
  rw [hwa]
  have HC := Lib.hid hc
  have HG := Lib.hid hg
  clear e hc hg hx hA1 HB HD
  obtain ⟨j1, hj1, hb1⟩ := i64_and1 n
  obtain ⟨v, hv⟩ : ∃ v : Int, Go.bits .and .i64 n 30 = v := ⟨_, rfl⟩
  have HJ : Hid (∀ y : Int, ∃ k : Nat, k ≤ 1 ∧ Go.bits .and .i64 y 1 = (k : Int)) := Lib.hid i64_and1
  go_cut [31] from 24 to 31 (fun s wx => (∃ B : Bool, s = .bool B ∧ (B = true → 0 < x.epo)) ∧ wx = wb)
  case first =>
    obtain ⟨⟨c0, c1, c2, c3, c4, c5, c6, c7, c8, c9, c10, c11⟩, _⟩ := dz_facts HC.out
    by_cases h : j1 = 1
    · subst h
      by_cases h2 : 0 < x.epo
      · go_wp2
        go_meet
        exact ⟨⟨true, rfl, fun _ => h2⟩, rfl⟩
      · go_wp2
        go_meet
        exact ⟨⟨false, rfl, fun h => by cases h⟩, rfl⟩
    · have h2 : ((j1 : Int) == 1) = false := by rw [beq_eq_false_iff_ne]; omega
      go_wp2
      go_meet
      exact ⟨⟨false, rfl, fun h => by cases h⟩, rfl⟩
  case rest =>
    obtain ⟨⟨B, rfl, HB0⟩, rfl⟩ := hcut
    generalize wc = wb at *
    go_upto_if 31 with (fail)
    go_cut [7] from 32 to 46 (fun s wx => s = .pointer (some ⟨w.heap.size + 1, 0, Option.none⟩) ∧ ∃ y : T, Cel wx (w.heap.size + 1) y.cells ∧ Cel wx w.heap.size zero.cells ∧ Below w.heap.size w wx ∧ y.Good ∧ y.exp ≤ 1073743000)
    case first =>
      cases B with
      | false =>
        go_wp2
        go_meet
        exact ⟨rfl, x, HC.out, HDA.out, HBA.out, HG.out, by rw [HE.out.1]; decide⟩
      | true =>
        have HB1 := Lib.hid (HB0 rfl)
        clear HB0
        obtain ⟨j, hj, hjb⟩ := HJ.out (n / 2)
        have hs2 := Cel.lit wb #[.string ⟨#[97]⟩, .string ⟨#[98]⟩] 9
        have HCn := Lib.hid (HC.out.alloc (.cells #[.string ⟨#[97]⟩, .string ⟨#[98]⟩] 9))
        have HDn := Lib.hid (HDA.out.alloc (.cells #[.string ⟨#[97]⟩, .string ⟨#[98]⟩] 9))
        have HBn := Lib.hid (HBA.out.alloc (o := .cells #[.string ⟨#[97]⟩, .string ⟨#[98]⟩] 9) HBA.out.size)
        have z0 := hs2.cell 0 _ rfl
        have z1 := hs2.cell 1 _ rfl
        obtain ⟨⟨c0, c1, c2, c3, c4, c5, c6, c7, c8, c9, c10, c11⟩, f0, f1, f2, f3, f4, f5, f6, f7, f8, f9, f10, f11⟩ := dz_facts HCn.out
        clear hs2
        have hY : ∃ s : ByteArray, s.size = 1 ∧ Vr.name s.data.toList = true ∧ (⟨#[UInt8.ofNat (97 + j)]⟩ : ByteArray) = s := ⟨_, rfl, by rcases (show j = 0 ∨ j = 1 by omega) with h | h <;> subst h <;> decide +kernel, rfl⟩
        obtain ⟨s, hs1, hs3, hs4⟩ := hY
        have HS1 := Lib.hid hs1
        have HS3 := Lib.hid hs3
        rcases (show j = 0 ∨ j = 1 by omega) with h | h
        · subst h
          obtain rfl : s = ⟨#[97]⟩ := hs4.symm
          clear hs1 hs3 hs4
          have h1 := HCn.out.set (i := 6) (by simp [T.cells]) (.string ⟨#[97]⟩)
          have hgr := set_grown (World.grownBy.refl (wb.alloc (.cells #[.string ⟨#[97]⟩, .string ⟨#[98]⟩] 9)) (some (w.heap.size + 1))) 6 (.string ⟨#[97]⟩)
          have HD3 := Lib.hid (HDn.out.kept hgr (fun e => by have := Option.some.inj e; omega))
          have HB3 := Lib.hid (HBn.out.setCell (p := ⟨w.heap.size + 1, 6, Option.none⟩) (Nat.le_succ _) (.string ⟨#[97]⟩))
          have HC3 := Lib.hid h1
          clear h1 hgr
          go_upto_region 4 with (fail)
          generalize World.setCell _ _ _ = w3 at *
          clear c0 c1 c2 c3 c4 c5 c6 c7 c8 c9 c10 c11 f0 f1 f2 f3 f4 f5 f6 f7 f8 f9 f10 f11 z0 z1
          unfold T.cells at HC3
          dsimp only [List.set] at HC3
          obtain ⟨⟨c0, c1, c2, c3, c4, c5, c6, c7, c8, c9, c10, c11⟩, f0, f1, f2, f3, f4, f5, f6, f7, f8, f9, f10, f11⟩ := dz_facts HC3.out
          go_wp2_with fail
          refine (N5.out _).mono ?_
          rintro e wy ⟨⟨k5, rfl, hk5⟩, rfl⟩
          obtain ⟨E, hE⟩ : ∃ E, E = (if wrap64 (wrap64 (now + (k5 : Int)) - 20) < 1 then 1 else wrap64 (wrap64 (now + (k5 : Int)) - 20)) := ⟨_, rfl⟩
          have HE5 := Lib.hid (exp_within H1.out H2.out hk5 hE)
          have HLIM := Lib.hid (show w.heap.size ≤ w.heap.size + 1 from Nat.le_succ _)
          by_cases h6 : wrap64 (wrap64 (now + (k5 : Int)) - 20) < 1
          · rw [if_pos h6] at hE
            subst hE
            go_wp2
            go_meet
            exact MadeEnd.mk HC3.out HD3.out HB3.out HG.out (by decide) (by decide +kernel) HE5.out HB1.out
          · rw [if_neg h6] at hE
            subst hE
            go_wp2
            go_meet
            exact MadeEnd.mk HC3.out HD3.out HB3.out HG.out (by decide) (by decide +kernel) HE5.out HB1.out
        · subst h
          obtain rfl : s = ⟨#[98]⟩ := hs4.symm
          clear hs1 hs3 hs4
          have h1 := HCn.out.set (i := 6) (by simp [T.cells]) (.string ⟨#[98]⟩)
          have hgr := set_grown (World.grownBy.refl (wb.alloc (.cells #[.string ⟨#[97]⟩, .string ⟨#[98]⟩] 9)) (some (w.heap.size + 1))) 6 (.string ⟨#[98]⟩)
          have HD3 := Lib.hid (HDn.out.kept hgr (fun e => by have := Option.some.inj e; omega))
          have HB3 := Lib.hid (HBn.out.setCell (p := ⟨w.heap.size + 1, 6, Option.none⟩) (Nat.le_succ _) (.string ⟨#[98]⟩))
          have HC3 := Lib.hid h1
          clear h1 hgr
          go_upto_region 4 with (fail)
          generalize World.setCell _ _ _ = w3 at *
          clear c0 c1 c2 c3 c4 c5 c6 c7 c8 c9 c10 c11 f0 f1 f2 f3 f4 f5 f6 f7 f8 f9 f10 f11 z0 z1
          unfold T.cells at HC3
          dsimp only [List.set] at HC3
          obtain ⟨⟨c0, c1, c2, c3, c4, c5, c6, c7, c8, c9, c10, c11⟩, f0, f1, f2, f3, f4, f5, f6, f7, f8, f9, f10, f11⟩ := dz_facts HC3.out
          go_wp2_with fail
          refine (N5.out _).mono ?_
          rintro e wy ⟨⟨k5, rfl, hk5⟩, rfl⟩
          obtain ⟨E, hE⟩ : ∃ E, E = (if wrap64 (wrap64 (now + (k5 : Int)) - 20) < 1 then 1 else wrap64 (wrap64 (now + (k5 : Int)) - 20)) := ⟨_, rfl⟩
          have HE5 := Lib.hid (exp_within H1.out H2.out hk5 hE)
          have HLIM := Lib.hid (show w.heap.size ≤ w.heap.size + 1 from Nat.le_succ _)
          by_cases h6 : wrap64 (wrap64 (now + (k5 : Int)) - 20) < 1
          · rw [if_pos h6] at hE
            subst hE
            go_wp2
            go_meet
            exact MadeEnd.mk HC3.out HD3.out HB3.out HG.out (by decide) (by decide +kernel) HE5.out HB1.out
          · rw [if_neg h6] at hE
            subst hE
            go_wp2
            go_meet
            exact MadeEnd.mk HC3.out HD3.out HB3.out HG.out (by decide) (by decide +kernel) HE5.out HB1.out
    case rest =>
      obtain ⟨rfl, y, hcy, hdy, hby, hgy, hey⟩ := hcut
      have HCY := Lib.hid hcy
      have HDY := Lib.hid hdy
      have HBY := Lib.hid hby
      have HGY := Lib.hid hgy
      have HEY := Lib.hid hey
      clear hcy hdy hby hgy hey HC HDA HBA HG HE
      generalize wc = wd at *
      go_upto_if 49 with (fail)
      go_cut [7] from 47 to 51 (fun s wx => s = .pointer (some ⟨w.heap.size + 1, 0, Option.none⟩) ∧ ∃ y : T, Cel wx (w.heap.size + 1) y.cells ∧ Cel wx w.heap.size zero.cells ∧ Below w.heap.size w wx ∧ y.Good ∧ y.exp ≤ 1073743000)
      case first =>
        obtain ⟨⟨c0, c1, c2, c3, c4, c5, c6, c7, c8, c9, c10, c11⟩, f0, f1, f2, f3, f4, f5, f6, f7, f8, f9, f10, f11⟩ := dz_facts HCY.out
        by_cases h : v = 30
        · subst h
          go_wp2
          go_meet
          exact ⟨rfl, { y with ret := 0, bro := true }, (HCY.out.set (i := 10) (by simp [T.cells]) (.int .i64 0)).set (i := 11) (by simp [T.cells]) (.bool true), HDY.out.kept (set_grown (set_grown (World.grownBy.refl wd (some (w.heap.size + 1))) 10 (.int .i64 0)) 11 (.bool true)) (fun e => by have := Option.some.inj e; omega), (HBY.out.setCell (p := ⟨w.heap.size + 1, 10, Option.none⟩) (Nat.le_succ _) (.int .i64 0)).setCell (p := ⟨w.heap.size + 1, 11, Option.none⟩) (Nat.le_succ _) (.bool true), HGY.out.broken, HEY.out⟩
        · have h2 : (v == 30) = false := by rw [beq_eq_false_iff_ne]; exact h
          go_wp2
          go_meet
          exact ⟨rfl, y, HCY.out, HDY.out, HBY.out, HGY.out, HEY.out⟩
      case rest =>
        obtain ⟨rfl, z, hcz, hdz, hbz, hgz, hez⟩ := hcut
        have HCZ := Lib.hid hcz
        have HDZ : Hid (Cel wc w.heap.size [.int .i64 0, .int .i64 0, .int .i64 0, .int .i64 0, .string ⟨#[]⟩, .int .i64 0, .string ⟨#[]⟩, .int .i64 0, .int .i64 0, .int .i64 0, .int .i64 0, .bool false]) := Lib.hid hdz
        have HBZ := Lib.hid hbz
        have HGZ := Lib.hid hgz
        have HEZ := Lib.hid hez
        clear hcz hdz hbz hgz hez HCY HDY HBY HGY HEY
        obtain ⟨⟨c0, c1, c2, c3, c4, c5, c6, c7, c8, c9, c10, c11⟩, _⟩ := dz_facts HCZ.out
        obtain ⟨⟨d0, d1, d2, d3, d4, d5, d6, d7, d8, d9, d10, d11⟩, f0, f1, f2, f3, f4, f5, f6, f7, f8, f9, f10, f11⟩ := dz_facts HDZ.out
        go_wp2
        have HK := dzn_cel HDZ.out ⟨z.id, z.ins, z.tok, z.nod, z.top, z.prio, z.wkr, z.epo, z.exp, z.aft, z.ret, z.bro⟩
        have HBK := dzn_below HBZ.out (z := w.heap.size) (Nat.le_refl _) ⟨z.id, z.ins, z.tok, z.nod, z.top, z.prio, z.wkr, z.epo, z.exp, z.aft, z.ret, z.bro⟩
        change bodyPost _ _ _ _ _ (dzn wc w.heap.size ⟨z.id, z.ins, z.tok, z.nod, z.top, z.prio, z.wkr, z.epo, z.exp, z.aft, z.ret, z.bro⟩)
        generalize dzn wc w.heap.size ⟨z.id, z.ins, z.tok, z.nod, z.top, z.prio, z.wkr, z.epo, z.exp, z.aft, z.ret, z.bro⟩ = wz at *
        obtain ⟨⟨k0, k1, k2, k3, k4, k5, k6, k7, k8, k9, k10, k11⟩, _⟩ := dz_facts HK
        exact bodyPost_ret (v := .agg #[.int .i64 z.id, .int .i64 z.ins, .int .i64 z.tok, .int .i64 z.nod, .string z.top, .int .i64 z.prio, .string z.wkr, .int .i64 z.epo, .int .i64 z.exp, .int .i64 z.aft, .int .i64 z.ret, .bool z.bro]) (by simp [results, Try.results9, go_sem, k0, k1, k2, k3, k4, k5, k6, k7, k8, k9, k10, k11]) rfl ⟨⟨z, rfl, HGZ.out, HEZ.out⟩, HBK⟩
end Ls
end Go.Proofs.Ytmmcfgmnfmkdbaa
