/- Walks of package cond: Parse. -/
import Derived.Test.YtkffnfgdmcebdaaGreatDoorCiY
namespace Go.Proofs.YtkffnfgdmcebdaaGreatDoor
open Go.RowKit

def coFn : Nat → Nat
  | 0 => 146
  | 1 => 155
  | 2 => 171
  | 3 => 180
  | 4 => 196
  | 5 => 203
  | 6 => 207
  | 7 => 212
  | 8 => 211
  | _ => 213
theorem below_of_grown {w w' : World} (h : w.grownBy w' none) : Below w.heap.size w w' := ⟨h.os, h.tape, h.output, h.size, fun k hk => h.block k hk (by simp)⟩
section
variable {E : Int → Option Addr} {W w : World} {q : Nat} {s : ByteArray}
theorem cparts_any (hE : CoErrs W E) (hWq : W.heap.size ≤ q) : ∀ (f d : Nat), d ≤ 12 → ∀ which, PartC E W q s (coFn which) d (Co.parts s.data.toList f which d)
  | 0, _, _, _ => fun _ _ _ h => by cases h
  | f + 1, d, hd, which => by
    have ih := cparts_any hE hWq f
    match which with
    | 0 => exact cor_any hE hWq _ (ih d hd 1)
    | 1 => exact cand_any hE hWq _ (ih d hd 2)
    | 2 => exact cnot_any hE hWq hd (Co.parts s.data.toList f 2) _ (fun h => ih (d + 1) (by omega) 2) (ih d hd 3)
    | 3 => exact ccomp_any hE hWq _ (ih d hd 4)
    | 4 => exact csum_any hE hWq _ (ih d hd 5)
    | 5 => exact cprod_any hE hWq _ (ih d hd 6)
    | 6 => exact csign_any hE hWq hd (Co.parts s.data.toList f 7) _ (fun h => ih (d + 1) (by omega) 7) (ih d hd 8)
    | 7 => exact cbehind_any hE hWq _ (ih d hd 6)
    | 8 => exact csingle_any hE _ (ih d hd 9)
    | n + 9 => exact cbracket_any hE hWq hd (Co.parts s.data.toList f 0) (fun h => ih (d + 1) (by omega) 0)

set_option maxHeartbeats 3200000 in
theorem cparse_any (hE : CoErrs W E) (hb : Below W.heap.size W w) (hsz : s.size ≤ 80) (e : Co.Tr) (er : Option (Int × Nat)) (hp : Co.parse s.data.toList = some (e, er)) :
    Calls Tryz.prog 139 #[.string s] w fun x w' => (∃ y ev, x = .returned (.tuple #[Ex.val y, ev]) ∧ At w' (fun b => w.heap.size ≤ b) e y ∧ ErrSt E w' ev er) ∧ Below w.heap.size w w' := by
  have hl : s.data.toList.length = s.size := by simp
  unfold Co.parse at hp
  rw [if_neg (by omega)] at hp
  have hszI : ¬ (80 : Int) < (s.size : Int) := by omega
  cases hpp : Co.parts s.data.toList 140 0 0 (Co.next s.data.toList ⟨0, 0, 0, none⟩) with
  | none => rw [hpp] at hp; cases hp
  | some r =>
    obtain ⟨e1, st⟩ := r
    rw [hpp] at hp
    have HP := Lib.hid hp
    have hq : Cel ((w.alloc (.cells #[.int .i64 0, .int .i64 0, .int .i64 0, .string ⟨#[]⟩, .string ⟨#[]⟩, .slice none 0 0] 185)).alloc (.cells #[.string s, .int .i64 0, .int .i64 0, .int .i64 0, .int .i64 0, .nilIface] 195)) (w.heap.size + 1)
        [.string s, .int .i64 0, .int .i64 0, .int .i64 0, .int .i64 0, .nilIface] := by
      have := Cel.lit (w.alloc (.cells #[.int .i64 0, .int .i64 0, .int .i64 0, .string ⟨#[]⟩, .string ⟨#[]⟩, .slice none 0 0] 185)) #[.string s, .int .i64 0, .int .i64 0, .int .i64 0, .int .i64 0, .nilIface] 195
      simpa using this
    have hz : Cel ((w.alloc (.cells #[.int .i64 0, .int .i64 0, .int .i64 0, .string ⟨#[]⟩, .string ⟨#[]⟩, .slice none 0 0] 185)).alloc (.cells #[.string s, .int .i64 0, .int .i64 0, .int .i64 0, .int .i64 0, .nilIface] 195)) w.heap.size Ex.zero.list :=
      (Cel.lit w #[.int .i64 0, .int .i64 0, .int .i64 0, .string ⟨#[]⟩, .string ⟨#[]⟩, .slice none 0 0] 185).alloc _
    have hpa : PaC E _ (w.heap.size + 1) s ⟨0, 0, 0, none⟩ 0 := ⟨⟨.nilIface, hq, rfl⟩, Nat.le_refl _, Nat.zero_le _, hsz⟩
    have hg1 : w.grownBy ((w.alloc (.cells #[.int .i64 0, .int .i64 0, .int .i64 0, .string ⟨#[]⟩, .string ⟨#[]⟩, .slice none 0 0] 185)).alloc (.cells #[.string s, .int .i64 0, .int .i64 0, .int .i64 0, .int .i64 0, .nilIface] 195)) none :=
      grown_trans (grown_alloc _ _ _) (grown_alloc _ _ _)
    have hb1 : Below W.heap.size W ((w.alloc (.cells #[.int .i64 0, .int .i64 0, .int .i64 0, .string ⟨#[]⟩, .string ⟨#[]⟩, .slice none 0 0] 185)).alloc (.cells #[.string s, .int .i64 0, .int .i64 0, .int .i64 0, .int .i64 0, .nilIface] 195)) :=
      (hb.alloc hb.size _).alloc (by simpa using Nat.le_succ_of_le hb.size) _
    have hWq : W.heap.size ≤ w.heap.size + 1 := Nat.le_succ_of_le hb.size
    have HN := Lib.hid (cnext_any hpa)
    have HPP := Lib.hid (cparts_any (s := s) hE hWq 140 0 (by decide) 0 _ _ _ hpp)
    have HZ := Lib.hid hz
    have HG := Lib.hid hg1
    have HB := Lib.hid hb1
    have HE := Lib.hid hE
    have HWW := Lib.hid hb
    clear hp hq hz hpa hg1 hb1 hpp hE hb hl
    go_enter Tryz.func139, Tryz.ntmps139
    go_wp2_with fail
    refine HN.out.mono ?_
    rintro x w1 ⟨rfl, hp1, hg1⟩
    have HX := Lib.hid (HPP.out w1 (HB.out.grown hg1 HB.out.size (fun k hk => by obtain rfl := Option.some.inj hk; exact hWq)) hp1)
    have HZ1 : Hid (Cel w1 w.heap.size Ex.zero.list) := HZ.out.kept hg1 (by simp)
    have HG1 : Hid (w.grownBy w1 none) := grown_past HG.out hg1 (Nat.le_succ _)
    have HB1 := Lib.hid (HB.out.grown hg1 HB.out.size (fun k hk => by obtain rfl := Option.some.inj hk; exact hWq))
    clear hp1 hg1 HN HPP
    go_wp2_with fail
    refine HX.out.mono ?_
    rintro x w2 ⟨⟨y, rfl, hat⟩, hp2, hg2⟩
    have HZ2 : Hid (Cel w2 w.heap.size Ex.zero.list) := HZ1.out.kept hg2 (by simp)
    have HG2 : Hid (w.grownBy w2 none) := grown_past HG1.out hg2 (Nat.le_succ _)
    have HB2 := Lib.hid (HB1.out.grown hg2 HB1.out.size (fun k hk => by obtain rfl := Option.some.inj hk; exact hWq))
    have hlt1 : w.heap.size < w1.heap.size := HZ1.out.lt
    have HAT2 : Hid (At w2 (fun b => w.heap.size < b) e1 y) := hat.mono (fun c hc _ => by omega)
    have HP2 := Lib.hid hp2
    have hlq : w.heap.size + 1 < w2.heap.size := hp2.lt
    have hl0 : w.heap.size < w2.heap.size := HZ2.out.lt
    obtain ⟨ev, ⟨c0, c1, c2, c3, c4, c5⟩, he⟩ := hp2.cells
    have HEV := Lib.hid he
    clear hat hp2 hg2 he
    unfold Ex.val
    by_cases hk : st.kind = 1
    · have hkI : (st.kind : Int) = 1 := by omega
      rw [hkI] at c1
      have hp := HP.out
      rw [if_pos hk] at hp
      cases her : st.err with
      | none =>
        rw [her] at hp
        obtain ⟨rfl, rfl⟩ : e1 = e ∧ none = er := by cases hp; exact ⟨rfl, rfl⟩
        have hev := HEV.out
        rw [her] at hev
        obtain rfl : ev = .nilIface := hev
        obtain ⟨⟨z0, z1, z2, z3, z4, z5⟩, g0, g1, g2, g3, g4, g5⟩ := HZ2.out.six_of
        clear hp her hk hkI
        go_wp2
        show bodyPost _ _ _ _ _ ((set6 w2 w.heap.size y).alloc (.cells #[.int .i64 y.op, .int .i64 y.kind, .int .i64 y.num, .string y.txt, .string y.name, .slice y.A y.n y.c] 185))
        have hg4 := set6_grown w2 w.heap.size y
        have hfin := (HZ2.out.six y).alloc (.cells #[.int .i64 y.op, .int .i64 y.kind, .int .i64 y.num, .string y.txt, .string y.name, .slice y.A y.n y.c] 185)
        have hAF : At _ (fun b => w.heap.size ≤ b) e1 y := (At.kept (N' := fun b => w.heap.size ≤ b) hg4 (fun c hc _ => ⟨fun e => by have := Option.some.inj e; omega, by omega⟩) HAT2.out).alloc (.cells #[.int .i64 y.op, .int .i64 y.kind, .int .i64 y.num, .string y.txt, .string y.name, .slice y.A y.n y.c] 185)
        have hGF := grown_trans (grown_past HG2.out hg4 (Nat.le_refl _)) (grown_alloc _ (.cells #[.int .i64 y.op, .int .i64 y.kind, .int .i64 y.num, .string y.txt, .string y.name, .slice y.A y.n y.c] 185) _)
        generalize (set6 w2 w.heap.size y).alloc _ = wf at *
        obtain ⟨⟨k0, k1, k2, k3, k4, k5⟩, _⟩ := hfin.six_of
        exact bodyPost_ret (v := .tuple #[y.val, .nilIface]) (by simp [results, Tryz.results139, go_sem, k0, k1, k2, k3, k4, k5, Ex.val]) rfl ⟨⟨y, .nilIface, rfl, hAF, rfl⟩, below_of_grown hGF⟩
      | some xx =>
        rw [her] at hp
        obtain ⟨rfl, rfl⟩ : Co.Tr.none = e ∧ some xx = er := by cases hp; exact ⟨rfl, rfl⟩
        have hev := HEV.out
        rw [her] at hev
        obtain ⟨bx, ax, rfl, hka, hcn, hbx⟩ := hev
        obtain ⟨⟨z0, z1, z2, z3, z4, z5⟩, g0, g1, g2, g3, g4, g5⟩ := HZ2.out.six_of
        have HBX := Lib.hid hbx
        have HKA := Lib.hid hka
        unfold atV at c5
        clear hp her hk hkI hbx hka
        go_wp2_with fail
        go_region
        go_wp2
        have hg4 := set6_grown w2 w.heap.size Ex.zero
        have hfin : Cel (((set6 w2 w.heap.size Ex.zero).alloc (.cells #[.int .i64 y.op, .int .i64 y.kind, .int .i64 y.num, .string y.txt, .string y.name, .slice y.A y.n y.c] 185)).drew) w.heap.size Ex.zero.list := ((HZ2.out.six Ex.zero).alloc (.cells #[.int .i64 y.op, .int .i64 y.kind, .int .i64 y.num, .string y.txt, .string y.name, .slice y.A y.n y.c] 185)).drewN 1
        have hGF : w.grownBy (((set6 w2 w.heap.size Ex.zero).alloc (.cells #[.int .i64 y.op, .int .i64 y.kind, .int .i64 y.num, .string y.txt, .string y.name, .slice y.A y.n y.c] 185)).drew) none := grown_trans (grown_trans (grown_past HG2.out hg4 (Nat.le_refl _)) (grown_alloc _ (.cells #[.int .i64 y.op, .int .i64 y.kind, .int .i64 y.num, .string y.txt, .string y.name, .slice y.A y.n y.c] 185) _)) (grown_drew _ _)
        have hEF : ErrSt E (((set6 w2 w.heap.size Ex.zero).alloc (.cells #[.int .i64 y.op, .int .i64 y.kind, .int .i64 y.num, .string y.txt, .string y.name, .slice y.A y.n y.c] 185)).drew) (atV bx) (some xx) := by
          have h0 : ErrSt E w2 (atV bx) (some xx) := ⟨bx, ax, rfl, HKA.out, hcn, HBX.out⟩
          exact (h0.kept hg4 HZ2.out.int1).below ((Below.refl _ _).alloc (Nat.le_refl _) _).drew (Nat.le_refl _)
        show bodyPost _ _ _ _ _ (((set6 w2 w.heap.size Ex.zero).alloc (.cells #[.int .i64 y.op, .int .i64 y.kind, .int .i64 y.num, .string y.txt, .string y.name, .slice y.A y.n y.c] 185)).drew)
        generalize ((set6 w2 w.heap.size Ex.zero).alloc _).drew = wf at *
        obtain ⟨⟨k0, k1, k2, k3, k4, k5⟩, _⟩ := hfin.six_of
        exact bodyPost_ret (v := .tuple #[Ex.zero.val, atV bx]) (by simp [results, Tryz.results139, go_sem, k0, k1, k2, k3, k4, k5, Ex.val, atV]) rfl ⟨⟨Ex.zero, _, rfl, At.zero _ _, hEF⟩, below_of_grown hGF⟩
    · have hkI : ((st.kind : Int) == 1) = false := by rw [beq_eq_false_iff_ne]; omega
      have hp := HP.out
      rw [if_neg hk] at hp
      obtain ⟨xx, hxx⟩ : ∃ xx, (Co.fail 111 st).err = some xx := by
        cases her : st.err with
        | none => rw [Co.fail_new her]; exact ⟨_, rfl⟩
        | some xx => rw [Co.fail_err her]; exact ⟨_, her⟩
      rw [hxx] at hp
      obtain ⟨rfl, rfl⟩ : Co.Tr.none = e ∧ some xx = er := by cases hp; exact ⟨rfl, rfl⟩
      have hb3 : Below W.heap.size W (w2.alloc (.cells #[.int .i64 y.op, .int .i64 y.kind, .int .i64 y.num, .string y.txt, .string y.name, .slice y.A y.n y.c] 185)) := HB2.out.alloc HB2.out.size _
      obtain ⟨a, hka, hg⟩ := (HE.out.below hb3).e111
      have hgl := cell_lt hg
      have HF := Lib.hid (cfail_any (HP2.out.alloc (.cells #[.int .i64 y.op, .int .i64 y.kind, .int .i64 y.num, .string y.txt, .string y.name, .slice y.A y.n y.c] 185)) 111 a hka (by decide))
      have HZ3 : Hid (Cel (w2.alloc (.cells #[.int .i64 y.op, .int .i64 y.kind, .int .i64 y.num, .string y.txt, .string y.name, .slice y.A y.n y.c] 185)) w.heap.size Ex.zero.list) := HZ2.out.alloc _
      have HG3 := Lib.hid (grown_trans HG2.out (grown_alloc w2 (.cells #[.int .i64 y.op, .int .i64 y.kind, .int .i64 y.num, .string y.txt, .string y.name, .slice y.A y.n y.c] 185) none))
      have HXX := Lib.hid hxx
      unfold errV at hg HF
      clear hp hb3 hka hxx hk
      go_wp2_with fail
      refine HF.out.mono ?_
      rintro x w4 ⟨rfl, hp4, hg4⟩
      have HZ4 : Hid (Cel w4 w.heap.size Ex.zero.list) := HZ3.out.kept hg4 (by simp)
      have HG4 : Hid (w.grownBy w4 none) := grown_past HG3.out hg4 (Nat.le_succ _)
      obtain ⟨ev4, ⟨d0, d1, d2, d3, d4, d5⟩, he4⟩ := hp4.cells
      rw [HXX.out] at he4
      obtain ⟨bx, ax, rfl, hka, hcn, hbx⟩ := he4
      obtain ⟨⟨z0, z1, z2, z3, z4, z5⟩, g0, g1, g2, g3, g4, g5⟩ := HZ4.out.six_of
      have HBX := Lib.hid hbx
      have HKA := Lib.hid hka
      have HEV4 := Lib.hid hcn
      unfold atV at d5
      clear hbx hka hcn hp4 hg4 c0 c1 c2 c3 c4 c5 d0 d1 d2 d3 d4 hg hgl
      go_wp2_with fail
      go_region
      go_wp2
      have hg5 := set6_grown w4 w.heap.size Ex.zero
      have hfin : Cel (set6 w4 w.heap.size Ex.zero).drew w.heap.size Ex.zero.list := (HZ4.out.six Ex.zero).drewN 1
      have hGF : w.grownBy (set6 w4 w.heap.size Ex.zero).drew none := grown_trans (grown_past HG4.out hg5 (Nat.le_refl _)) (grown_drew _ _)
      have hEF : ErrSt E (set6 w4 w.heap.size Ex.zero).drew (atV bx) (some xx) := by
        have h0 : ErrSt E w4 (atV bx) (some xx) := ⟨bx, ax, rfl, HKA.out, HEV4.out, HBX.out⟩
        exact (h0.kept hg5 HZ4.out.int1).below (Below.refl _ _).drew (Nat.le_refl _)
      show bodyPost _ _ _ _ _ (set6 w4 w.heap.size Ex.zero).drew
      generalize (set6 w4 w.heap.size Ex.zero).drew = wf at *
      obtain ⟨⟨k0, k1, k2, k3, k4, k5⟩, _⟩ := hfin.six_of
      exact bodyPost_ret (v := .tuple #[Ex.zero.val, atV bx]) (by simp [results, Tryz.results139, go_sem, k0, k1, k2, k3, k4, k5, Ex.val, atV]) rfl ⟨⟨Ex.zero, _, rfl, At.zero _ _, hEF⟩, below_of_grown hGF⟩
end
end Go.Proofs.YtkffnfgdmcebdaaGreatDoor
