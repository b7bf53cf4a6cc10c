/- The statement VarsSet: its walk. -/
import Derived.Test.YthkgjdhbibialaaDoorVo
import Derived.Test.YthkgjdhbibialaaDoorVh
import Derived.Test.YthkgjdhbibialaaDoorVf
import Derived.Test.YthkgjdhbibialaaDoorOpen
import Derived.Deep.RegionHeld3
namespace Go.Proofs.YthkgjdhbibialaaDoor
open Go.RowKit

/-- A variable in a block of its own. -/
structure Box (w : World) (b : Nat) (v : Vr.V) : Prop where
  c0 : w.cell? ⟨b, 0, none⟩ = some (.string v.name)
  c1 : w.cell? ⟨b, 1, none⟩ = some (.int .i64 v.kind)
  c2 : w.cell? ⟨b, 2, none⟩ = some (.int .i64 v.num)
  c3 : w.cell? ⟨b, 3, none⟩ = some (.string v.text)
theorem Box.below {w w' : World} {b : Nat} {v : Vr.V} (h : Box w b v) (hb : Below w.heap.size w w') : Box w' b v :=
  ⟨below_cells hb h.c0, below_cells hb h.c1, below_cells hb h.c2, below_cells hb h.c3⟩
theorem Box.new (w : World) (v : Vr.V) : Box (w.alloc (.cells #[.string v.name, .int .i64 v.kind, .int .i64 v.num, .string v.text] 45)) w.heap.size v := by
  have hh := heap_alloc_new w (.cells #[.string v.name, .int .i64 v.kind, .int .i64 v.num, .string v.text] 45)
  exact ⟨cell_of_row _ w.heap.size 0 _ _ (0, 0) hh, cell_of_row _ w.heap.size 1 _ _ (0, 0) hh, cell_of_row _ w.heap.size 2 _ _ (0, 0) hh, cell_of_row _ w.heap.size 3 _ _ (0, 0) hh⟩
theorem varRow_lit2 (w : World) (v u : Vr.V) : VRow (w.alloc (.cells #[.string v.name, .int .i64 v.kind, .int .i64 v.num, .string v.text, .string u.name, .int .i64 u.kind, .int .i64 u.num, .string u.text] 45)) (w.heap.size + 1) (some ⟨w.heap.size, 0, none⟩) 2 [v, u] := by
  refine ⟨rfl, fun _ => ⟨w.heap.size, 0, rfl, by omega, fun k x hx => ?_⟩⟩
  have := cell_of_row (w.alloc (.cells #[.string v.name, .int .i64 v.kind, .int .i64 v.num, .string v.text, .string u.name, .int .i64 u.kind, .int .i64 u.num, .string u.text] 45)) w.heap.size k _ _ (0, 0) (heap_alloc_new w _)
  rw [Nat.zero_add]
  exact this.trans (by simpa [Vr.V.cells] using hx)

namespace Vr
theorem two_bad {l : List V} {v u : V} (hf : fault v ≠ 0 ∨ fault u ≠ 0) (hn : v.name ≠ u.name) : (setV l [v, u]).2.1 ≠ 0 ∧ (setV l [v, u]).1 = [] := by
  have hc : (check (sets l [v, u])).1 ≠ 0 := by
    intro h
    have hg := good_check h
    have h1 : v ∈ sets l [v, u] := setOne_keeps (setOne_mem l v) hn
    have h2 : u ∈ sets l [v, u] := setOne_mem _ u
    rcases hf with h' | h'
    · exact h' (hg.fts _ h1)
    · exact h' (hg.fts _ h2)
  unfold setV
  rw [if_neg hc]
  exact ⟨hc, rfl⟩
theorem setV_err {l m : List V} (h : (setV l m).2.1 ≠ 0) : (setV l m).1 = [] := by
  unfold setV at h ⊢
  by_cases hc : (check (sets l m)).1 = 0
  · rw [if_pos hc] at h; exact absurd rfl h
  · rw [if_neg hc]
theorem setV_ok {l m : List V} (h : (setV l m).2.1 = 0) : (setV l m) = (sets l m, 0, none) := by
  unfold setV at h ⊢
  by_cases hc : (check (sets l m)).1 = 0
  · rw [if_pos hc]
  · rw [if_neg hc] at h; exact absurd h hc
/-- Two that may be, in a list that may be. -/
theorem two_full {l : List V} {v u : V} (hg : Good l) (hl : l.length ≤ 11) (hv : fault v = 0) (hu : fault u = 0) (he : (setV l [v, u]).2.1 ≠ 0) : l.length = 11 ∧ (get l v.name).2 = false ∧ v.name ≠ u.name := by
  have hG : Good (sets l [v, u]) := (hg.setOne hv).setOne hu
  have hlen : 12 < (sets l [v, u]).length := by
    rcases Nat.lt_or_ge 12 (sets l [v, u]).length with h | h
    · exact h
    · have := hG.check h
      unfold setV at he
      rw [this] at he
      simp at he
  have h1 := setOne_len l v
  have h2 := setOne_len (setOne l v) u
  have hlen' : 12 < (setOne (setOne l v) u).length := hlen
  refine ⟨by omega, ?_, fun e => ?_⟩
  · cases hgt : (get l v.name).2 with
    | false => rfl
    | true =>
      have := setOne_len_eq (get_true hgt)
      omega
  · have := setOne_len_eq (l := setOne l v) (v := u) ⟨v, setOne_mem l v, e⟩
    omega
theorem two_get {l : List V} {v u : V} (hg : Good l) (hv : fault v = 0) (hu : fault u = 0) :
    get (sets l [v, u]) v.name = (if v.name = u.name then u else v, true) ∧ get (sets l [v, u]) u.name = (u, true) ∧
      ∀ x ∈ l, (get (sets l [v, u]) x.name).2 = true ∧ (x.name ≠ v.name → x.name ≠ u.name → get (sets l [v, u]) x.name = (x, true)) := by
  have hG : Good (sets l [v, u]) := (hg.setOne hv).setOne hu
  have h2 : u ∈ sets l [v, u] := setOne_mem _ u
  have hgu := hG.get h2
  have hgv : get (sets l [v, u]) v.name = (if v.name = u.name then u else v, true) := by
    by_cases e : v.name = u.name
    · rw [if_pos e, e]; exact hgu
    · rw [if_neg e]
      exact hG.get (setOne_keeps (setOne_mem l v) e)
  refine ⟨hgv, hgu, fun x hx => ⟨?_, fun n1 n2 => hG.get (setOne_keeps (setOne_keeps hx n1) n2)⟩⟩
  by_cases n1 : x.name = v.name
  · rw [n1, hgv]
  · by_cases n2 : x.name = u.name
    · rw [n2, hgu]
    · rw [hG.get (setOne_keeps (setOne_keeps hx n1) n2)]
theorem sameVal_refl (u : V) : sameVal u u = true := by simp [sameVal]
end Vr

set_option maxRecDepth 100000 in
set_option maxHeartbeats 8000000 in
theorem varsSet_walk (A : Option Addr) (n c : Nat) (l : List Vr.V) (v u : Vr.V) (ads : List Addr) (w : World) (hin : InRow w 4 A n c (l.flatMap Vr.V.cells)) (hv : ∀ x ∈ l, Vr.InV x) (iv : Vr.InV v) (iu : Vr.InV u)
    (hE0 : Errs w 104 [0, 4, 2, 1, 3] ads) :
    Calls Tryd.prog 4 #[.slice A n c, v.val, u.val] w fun e w' => e = .returned (.bool true) ∧ Below w.heap.size w w' := by
  have hE := vaErrs5 hE0
  have r0 : VRow w w.heap.size A n l := hin.row
  have hA := hin.nn
  have hcap := hin.cap
  have hmost := hin.most
  unfold maxLen at hmost
  have HL := Lib.hid r0.len
  have HV := Lib.hid hv
  have hb0 : Below w.heap.size w ((w.alloc (.cells #[.string v.name, .int .i64 v.kind, .int .i64 v.num, .string v.text] 45)).alloc (.cells #[.string u.name, .int .i64 u.kind, .int .i64 u.num, .string u.text] 45)) := ((Below.refl _ _).alloc (Nat.le_refl _) _).alloc (by simp) _
  have bv : Box ((w.alloc (.cells #[.string v.name, .int .i64 v.kind, .int .i64 v.num, .string v.text] 45)).alloc (.cells #[.string u.name, .int .i64 u.kind, .int .i64 u.num, .string u.text] 45)) w.heap.size v := (Box.new w v).below ((Below.refl _ _).alloc (Nat.le_refl _) _)
  have bu : Box ((w.alloc (.cells #[.string v.name, .int .i64 v.kind, .int .i64 v.num, .string v.text] 45)).alloc (.cells #[.string u.name, .int .i64 u.kind, .int .i64 u.num, .string u.text] 45)) (w.heap.size + 1) u := by
    have := Box.new (w.alloc (.cells #[.string v.name, .int .i64 v.kind, .int .i64 v.num, .string v.text] 45)) u
    rwa [World.size_alloc] at this
  clear hE0 hin hv
  unfold Vr.V.val
  go_enter Tryd.func4, Tryd.ntmps4
  go_wp2_with fail
  generalize (w.alloc (.cells #[.string v.name, .int .i64 v.kind, .int .i64 v.num, .string v.text] 45)).alloc (.cells #[.string u.name, .int .i64 u.kind, .int .i64 u.num, .string u.text] 45) = w0 at *
  refine (vfirst_any hE hb0).mono ?_
  rintro e w1 ⟨rfl, hbf⟩
  have hb1 : Below w.heap.size w w1 := hb0.trans (hbf.mono hb0.size)
  have bv1 := bv.below hbf
  have bu1 := bu.below hbf
  clear bv bu hbf hb0
  have r1 := r0.below hb1 (Nat.le_refl _)
  have r1' := r1.mono hb1.size
  have hLt := light_any A n c l r1' (by omega) HV.out
  cases hlt : Vr.light l with
  | false =>
    rw [hlt] at hLt
    clear hlt
    go_wp2_with (go_at_call 9; refine hLt.mono ?_; rintro e w' ⟨rfl, rfl⟩)
    go_ret
    exact ⟨rfl, hb1⟩
  | true =>
    rw [hlt] at hLt
    obtain ⟨hl20, _⟩ := Vr.light_len hlt
    rw [HL.out] at hl20
    have hCk := check_any (W := w) (w := w1) A n c l hE hb1 r1' (by omega) HV.out
    clear hlt
    go_wp2_with fail
    refine hLt.mono ?_
    rintro e w' ⟨rfl, rfl⟩
    by_cases hc0 : (Vr.check l).1 = 0
    · rw [hc0, Vr.check_pos hc0] at hCk
      have HG := Lib.hid (Vr.good_check hc0)
      clear hc0
      go_wp2_with fail
      refine hCk.mono ?_
      rintro e w2 ⟨⟨ev, rfl, hs⟩, hbc⟩
      obtain rfl := hs.none_of
      clear hs hCk hLt
      have hb2 := hb1.trans (hbc.mono hb1.size)
      have bv2 := bv1.below hbc
      have bu2 := bu1.below hbc
      clear bv1 bu1 hbc r1 r1' hb1
      by_cases h11 : 11 < n
      · have h11' : (11 : Int) < (n : Int) := by omega
        go_wp2
        go_ret
        exact ⟨rfl, hb2⟩
      · have h11' : ¬ (11 : Int) < (n : Int) := by omega
        have r2 := (r0.below hb2 (Nat.le_refl _)).mono hb2.size
        go_wp2_with fail
        refine (refvars_any A n c l r2 (by omega)).mono ?_
        rintro e w3 ⟨A3, c3, rfl, ho3, hb23⟩
        have hb3 := hb2.trans (hb23.mono hb2.size)
        have bv3 := bv2.below hb23
        have bu3 := bu2.below hb23
        clear bv2 bu2 hb23 r2 hb2
        obtain ⟨x0, x1, x2, x3⟩ := bv3
        obtain ⟨y0, y1, y2, y3⟩ := bu3
        have hb34 : Below w3.heap.size w3 (w3.alloc (.cells #[.string v.name, .int .i64 v.kind, .int .i64 v.num, .string v.text, .string u.name, .int .i64 u.kind, .int .i64 u.num, .string u.text] 45)) := (Below.refl _ _).alloc (Nat.le_refl _) _
        have hS := set_any (W := w) (w := w3.alloc (.cells #[.string v.name, .int .i64 v.kind, .int .i64 v.num, .string v.text, .string u.name, .int .i64 u.kind, .int .i64 u.num, .string u.text] 45)) A n c l (some ⟨w3.heap.size, 0, none⟩) 2 2 [v, u] hE (hb3.trans (hb34.mono hb3.size)) (((r0.below hb3 (Nat.le_refl _)).below hb34 hb3.size).mono (Nat.le_trans hb3.size (by simp))) hA (by omega) ((varRow_lit2 w3 v u).mono (by simp)) (by omega) HV.out (fun x hx => by
          simp only [List.mem_cons, List.not_mem_nil, or_false] at hx
          rcases hx with rfl | rfl
          · exact iv
          · exact iu)
        go_wp2_with fail
        refine hS.mono ?_
        rintro e w5 ⟨A5, n5, c5, ev, rfl, ho5, hs5, hb45⟩
        have hb35 : Below w3.heap.size w3 w5 := hb34.trans (hb45.mono (by simp))
        have hb5 := hb3.trans (hb35.mono hb3.size)
        have ho5' := ho5.lower (base' := w.heap.size) (Nat.le_trans hb3.size (by simp))
        have bv5 := (Box.mk x0 x1 x2 x3).below hb35
        have bu5 := (Box.mk y0 y1 y2 y3).below hb35
        have ho35 := ho3.below hb35 (Nat.le_refl _)
        have HS5 := Lib.hid hs5
        have HO5 := Lib.hid ho5'
        clear hS hb34 hb45 ho5 ho5' hs5 hb35 x0 x1 x2 x3 y0 y1 y2 y3 ho3 hb3
        obtain ⟨x0, x1, x2, x3⟩ := bv5
        obtain ⟨y0, y1, y2, y3⟩ := bu5
        have hb56 : Below w5.heap.size w5 (w5.alloc (.cells #[.string v.name, .int .i64 v.kind, .int .i64 v.num, .string v.text] 45)) := (Below.refl _ _).alloc (Nat.le_refl _) _
        have hK := check_any (W := w) (w := w5.alloc (.cells #[.string v.name, .int .i64 v.kind, .int .i64 v.num, .string v.text] 45)) (some ⟨w5.heap.size, 0, none⟩) 1 1 [v] hE (hb5.trans (hb56.mono hb5.size)) ((varRow_lit w5 v).mono (by simp)) (by omega) (fun x hx => by obtain rfl := List.mem_singleton.1 hx; exact iv)
        rw [Vr.check_one] at hK
        go_wp2_with fail
        refine hK.mono ?_
        rintro e w6 ⟨⟨ev6, rfl, hs6⟩, hb6⟩
        have hb56' : Below w5.heap.size w5 w6 := hb56.trans (hb6.mono (by simp))
        have hb6' := hb5.trans (hb56'.mono hb5.size)
        have bv6 := (Box.mk x0 x1 x2 x3).below hb56'
        have bu6 := (Box.mk y0 y1 y2 y3).below hb56'
        have ho36 := ho35.below hb56' (Nat.le_refl _)
        have HO6 : Hid (OwnVars w6 w.heap.size 45 A5 n5 c5 (Vr.setV l [v, u]).1) := HO5.out.below hb56' (Nat.le_refl _)
        clear hK hb56 hb6 x0 x1 x2 x3 y0 y1 y2 y3 HO5 hb5 ho35
        obtain ⟨x0, x1, x2, x3⟩ := bv6
        obtain ⟨y0, y1, y2, y3⟩ := bu6
        by_cases fv : Vr.fault v = 0
        · rw [fv] at hs6
          obtain rfl := hs6.none_of
          have hb67 : Below w6.heap.size w6 (w6.alloc (.cells #[.string u.name, .int .i64 u.kind, .int .i64 u.num, .string u.text] 45)) := (Below.refl _ _).alloc (Nat.le_refl _) _
          have hK := check_any (W := w) (w := w6.alloc (.cells #[.string u.name, .int .i64 u.kind, .int .i64 u.num, .string u.text] 45)) (some ⟨w6.heap.size, 0, none⟩) 1 1 [u] hE (hb6'.trans (hb67.mono hb6'.size)) ((varRow_lit w6 u).mono (by simp)) (by omega) (fun x hx => by obtain rfl := List.mem_singleton.1 hx; exact iu)
          rw [Vr.check_one] at hK
          have FV := Lib.hid fv
          clear fv hs6
          go_wp2_with fail
          refine hK.mono ?_
          rintro e w7 ⟨⟨ev7, rfl, hs7⟩, hb7⟩
          have hb67' : Below w6.heap.size w6 w7 := hb67.trans (hb7.mono (by simp))
          have hb7' := hb6'.trans (hb67'.mono hb6'.size)
          have bv7 := (Box.mk x0 x1 x2 x3).below hb67'
          have bu7 := (Box.mk y0 y1 y2 y3).below hb67'
          have ho37 := ho36.below hb67' (Nat.le_refl _)
          have HO7 : Hid (OwnVars w7 w.heap.size 45 A5 n5 c5 (Vr.setV l [v, u]).1) := HO6.out.below hb67' (Nat.le_refl _)
          clear hK hb67 hb7 x0 x1 x2 x3 y0 y1 y2 y3 ho36
          obtain ⟨x0, x1, x2, x3⟩ := bv7
          obtain ⟨y0, y1, y2, y3⟩ := bu7
          by_cases fu : Vr.fault u = 0
          · rw [fu] at hs7
            obtain rfl := hs7.none_of
            have FU := Lib.hid fu
            clear fu hs7 HO6 hb6' hb67'
            have hG := get_any (w := w7) A n c l v.name ((r0.below hb7' (Nat.le_refl _)).mono hb7'.size) (by omega)
            obtain ⟨gx, gb, hg⟩ : ∃ gx gb, Vr.get l v.name = (gx, gb) := ⟨_, _, rfl⟩
            rw [hg] at hG
            have HGB := Lib.hid hg
            clear hg
            unfold getV Vr.V.inner at hG
            dsimp only at hG
            go_wp2_with fail
            refine hG.mono ?_
            rintro e w8 ⟨rfl, hb78⟩
            have hb8 := hb7'.trans (hb78.mono hb7'.size)
            have bv8 := (Box.mk x0 x1 x2 x3).below hb78
            have bu8 := (Box.mk y0 y1 y2 y3).below hb78
            have ho38 := ho37.below hb78 (Nat.le_refl _)
            have HO8 : Hid (OwnVars w8 w.heap.size 45 A5 n5 c5 (Vr.setV l [v, u]).1) := HO7.out.below hb78 (Nat.le_refl _)
            clear hG hb78 x0 x1 x2 x3 y0 y1 y2 y3 ho37 HO7 hb7'
            go_upto_region 11 with (fail)
            have hb89 : Below w8.heap.size w8 (w8.alloc (.cells #[.int .i64 gx.kind, .int .i64 gx.num, .string gx.text] 26)) := (Below.refl _ _).alloc (Nat.le_refl _) _
            have hb9 := hb8.trans (hb89.mono hb8.size)
            have bv9 := bv8.below hb89
            have bu9 := bu8.below hb89
            have ho39 := ho38.below hb89 (Nat.le_refl _)
            have HO9 : Hid (OwnVars (w8.alloc (.cells #[.int .i64 gx.kind, .int .i64 gx.num, .string gx.text] 26)) w.heap.size 45 A5 n5 c5 (Vr.setV l [v, u]).1) := HO8.out.below hb89 (Nat.le_refl _)
            clear hb89 hb8 bv8 bu8 ho38 HO8
            generalize w8.alloc (.cells #[.int .i64 gx.kind, .int .i64 gx.num, .string gx.text] 26) = w9 at *
            obtain ⟨x0, x1, x2, x3⟩ := bv9
            obtain ⟨y0, y1, y2, y3⟩ := bu9
            by_cases e0 : (Vr.setV l [v, u]).2.1 = 0
            · have hok := Vr.setV_ok e0
              have hs5 := HS5.out
              rw [e0] at hs5
              obtain rfl := hs5.none_of
              have HO10 : Hid (OwnVars w9 w.heap.size 45 A5 n5 c5 (Vr.sets l [v, u])) := by have := HO9.out; rw [hok] at this; exact this
              have HC9 : Hid (Vr.check (Vr.sets l [v, u]) = (0, none)) := by
                show _ = _
                unfold Vr.setV at e0
                by_cases hc : (Vr.check (Vr.sets l [v, u])).1 = 0
                · exact Prod.ext hc (Vr.check_pos hc)
                · rw [if_neg hc] at e0; exact absurd e0 hc
              obtain ⟨k1, k2, k3⟩ := Vr.two_get HG.out FV.out FU.out
              have K1 := Lib.hid k1
              have K2 := Lib.hid k2
              have K3 := Lib.hid k3
              clear e0 hs5 hok HO9 HS5 k1 k2 k3
              have hn5 : n5 ≤ 1000 := by
                have h1 := HO10.out.len
                have h2 := Vr.sets_len_le [v, u] l
                rw [HL.out] at h2
                simp only [List.length_cons, List.length_nil] at h2
                omega
              have hGa := get_any (w := w9) A5 n5 c5 (Vr.sets l [v, u]) v.name (HO10.out.row) (by omega)
              rw [K1.out] at hGa
              obtain ⟨ga, hga⟩ : ∃ ga : Vr.V, ga = if v.name = u.name then u else v := ⟨_, rfl⟩
              rw [← hga] at hGa
              have HGA := Lib.hid hga
              unfold getV Vr.V.inner at hGa
              dsimp only at hGa
              clear hga
              go_wp2_with fail
              refine hGa.mono ?_
              rintro e w10 ⟨rfl, hb910⟩
              have hb10 := hb9.trans (hb910.mono hb9.size)
              have bv10 := (Box.mk x0 x1 x2 x3).below hb910
              have bu10 := (Box.mk y0 y1 y2 y3).below hb910
              have ho310 := ho39.below hb910 (Nat.le_refl _)
              have HO11 : Hid (OwnVars w10 w.heap.size 45 A5 n5 c5 (Vr.sets l [v, u])) := HO10.out.below hb910 (Nat.le_refl _)
              clear hGa hb910 hb9 x0 x1 x2 x3 y0 y1 y2 y3 ho39 HO10
              go_upto_region 14 with (fail)
              obtain ⟨pa, hpa⟩ : ∃ pa, pa = w10.heap.size := ⟨_, rfl⟩
              have hb1011 : Below w10.heap.size w10 (w10.alloc (.cells #[.int .i64 ga.kind, .int .i64 ga.num, .string ga.text] 26)) := (Below.refl _ _).alloc (Nat.le_refl _) _
              have hb11 := hb10.trans (hb1011.mono hb10.size)
              have bv11 := bv10.below hb1011
              have bu11 := bu10.below hb1011
              have ho311 := ho310.below hb1011 (Nat.le_refl _)
              have HO12 : Hid (OwnVars (w10.alloc (.cells #[.int .i64 ga.kind, .int .i64 ga.num, .string ga.text] 26)) w.heap.size 45 A5 n5 c5 (Vr.sets l [v, u])) := HO11.out.below hb1011 (Nat.le_refl _)
              have a0 : (w10.alloc (.cells #[.int .i64 ga.kind, .int .i64 ga.num, .string ga.text] 26)).cell? ⟨w10.heap.size, 0, none⟩ = some (.int .i64 ga.kind) := cell_of_row _ w10.heap.size 0 _ _ (0, 0) (heap_alloc_new w10 _)
              have a1 : (w10.alloc (.cells #[.int .i64 ga.kind, .int .i64 ga.num, .string ga.text] 26)).cell? ⟨w10.heap.size, 1, none⟩ = some (.int .i64 ga.num) := cell_of_row _ w10.heap.size 1 _ _ (0, 0) (heap_alloc_new w10 _)
              have a2 : (w10.alloc (.cells #[.int .i64 ga.kind, .int .i64 ga.num, .string ga.text] 26)).cell? ⟨w10.heap.size, 2, none⟩ = some (.string ga.text) := cell_of_row _ w10.heap.size 2 _ _ (0, 0) (heap_alloc_new w10 _)
              rw [← hpa] at a0 a1 a2
              clear hb1011 hb10 bv10 bu10 ho310 HO11
              rw [← hpa]
              clear hpa
              generalize w10.alloc (.cells #[.int .i64 ga.kind, .int .i64 ga.num, .string ga.text] 26) = w11 at *
              obtain ⟨x0, x1, x2, x3⟩ := bv11
              obtain ⟨y0, y1, y2, y3⟩ := bu11
              have hGb := get_any (w := w11) A5 n5 c5 (Vr.sets l [v, u]) u.name (HO12.out.row) (by omega)
              rw [K2.out] at hGb
              unfold getV Vr.V.inner at hGb
              dsimp only at hGb
              go_wp2_with fail
              refine hGb.mono ?_
              rintro e w12 ⟨rfl, hb1112⟩
              have hb12 := hb11.trans (hb1112.mono hb11.size)
              have bv12 := (Box.mk x0 x1 x2 x3).below hb1112
              have bu12 := (Box.mk y0 y1 y2 y3).below hb1112
              have ho312 := ho311.below hb1112 (Nat.le_refl _)
              have HO13 : Hid (OwnVars w12 w.heap.size 45 A5 n5 c5 (Vr.sets l [v, u])) := HO12.out.below hb1112 (Nat.le_refl _)
              have a0 := below_cells hb1112 a0
              have a1 := below_cells hb1112 a1
              have a2 := below_cells hb1112 a2
              clear hGb hb1112 hb11 x0 x1 x2 x3 y0 y1 y2 y3 ho311 HO12
              go_upto_region 15 with (fail)
              obtain ⟨pb, hpb⟩ : ∃ pb, pb = w12.heap.size := ⟨_, rfl⟩
              have hb1213 : Below w12.heap.size w12 (w12.alloc (.cells #[.int .i64 u.kind, .int .i64 u.num, .string u.text] 26)) := (Below.refl _ _).alloc (Nat.le_refl _) _
              have hb13 := hb12.trans (hb1213.mono hb12.size)
              have bv13 := bv12.below hb1213
              have bu13 := bu12.below hb1213
              have ho313 := ho312.below hb1213 (Nat.le_refl _)
              have HO14 : Hid (OwnVars (w12.alloc (.cells #[.int .i64 u.kind, .int .i64 u.num, .string u.text] 26)) w.heap.size 45 A5 n5 c5 (Vr.sets l [v, u])) := HO13.out.below hb1213 (Nat.le_refl _)
              have a0 := below_cells hb1213 a0
              have a1 := below_cells hb1213 a1
              have a2 := below_cells hb1213 a2
              have d0 : (w12.alloc (.cells #[.int .i64 u.kind, .int .i64 u.num, .string u.text] 26)).cell? ⟨w12.heap.size, 0, none⟩ = some (.int .i64 u.kind) := cell_of_row _ w12.heap.size 0 _ _ (0, 0) (heap_alloc_new w12 _)
              have d1 : (w12.alloc (.cells #[.int .i64 u.kind, .int .i64 u.num, .string u.text] 26)).cell? ⟨w12.heap.size, 1, none⟩ = some (.int .i64 u.num) := cell_of_row _ w12.heap.size 1 _ _ (0, 0) (heap_alloc_new w12 _)
              have d2 : (w12.alloc (.cells #[.int .i64 u.kind, .int .i64 u.num, .string u.text] 26)).cell? ⟨w12.heap.size, 2, none⟩ = some (.string u.text) := cell_of_row _ w12.heap.size 2 _ _ (0, 0) (heap_alloc_new w12 _)
              rw [← hpb] at d0 d1 d2
              rw [← hpb]
              clear hb1213 hb12 bv12 bu12 ho312 HO13 hpb
              generalize w12.alloc (.cells #[.int .i64 u.kind, .int .i64 u.num, .string u.text] 26) = w13 at *
              obtain ⟨x0, x1, x2, x3⟩ := bv13
              obtain ⟨y0, y1, y2, y3⟩ := bu13
              have hvw : w.heap.size < w13.heap.size := cell_lt x0
              have huw : w.heap.size + 1 < w13.heap.size := cell_lt y0
              go_upto_if 121 with (fail)
              obtain ⟨q, hq⟩ : ∃ q, (v.name.toList == u.name.toList) = q := ⟨_, rfl⟩
              rw [hq]
              have HQ := Lib.hid (hq.symm.trans (Vr.eq_of v.name u.name))
              clear hq
              go_cut [17] from 122 to 194 (fun s17 wx => ∃ pw, s17 = .pointer (some ⟨pw, 0, none⟩) ∧ wx.cell? ⟨pw, 0, none⟩ = some (.int .i64 ga.kind) ∧ wx.cell? ⟨pw, 1, none⟩ = some (.int .i64 ga.num) ∧ wx.cell? ⟨pw, 2, none⟩ = some (.string ga.text) ∧ Below w13.heap.size w13 wx)
              case first =>
                cases q with
                | true =>
                  obtain rfl : ga = u := by rw [HGA.out, if_pos (of_decide_eq_true HQ.out.symm)]
                  go_wp2_with fail
                  go_meet
                  refine ⟨_, rfl, ?_, ?_, ?_, (Below.refl _ _).alloc (Nat.le_refl _) _⟩
                  · exact cell_of_row _ w13.heap.size 0 _ _ (0, 0) (heap_alloc_new w13 _)
                  · exact cell_of_row _ w13.heap.size 1 _ _ (0, 0) (heap_alloc_new w13 _)
                  · exact cell_of_row _ w13.heap.size 2 _ _ (0, 0) (heap_alloc_new w13 _)
                | false =>
                  obtain rfl : ga = v := by rw [HGA.out, if_neg (of_decide_eq_false HQ.out.symm)]
                  go_wp2_with fail
                  go_meet
                  refine ⟨_, rfl, ?_, ?_, ?_, (Below.refl _ _).alloc (Nat.le_refl _) _⟩
                  · exact cell_of_row _ w13.heap.size 0 _ _ (0, 0) (heap_alloc_new w13 _)
                  · exact cell_of_row _ w13.heap.size 1 _ _ (0, 0) (heap_alloc_new w13 _)
                  · exact cell_of_row _ w13.heap.size 2 _ _ (0, 0) (heap_alloc_new w13 _)
              case rest =>
                obtain ⟨pw, rfl, q0, q1, q2, hb1314⟩ := hcut
                have hb14 := hb13.trans (hb1314.mono hb13.size)
                have bv14 := (Box.mk x0 x1 x2 x3).below hb1314
                have bu14 := (Box.mk y0 y1 y2 y3).below hb1314
                have ho314 := ho313.below hb1314 (Nat.le_refl _)
                have HO15 : Hid (OwnVars wc w.heap.size 45 A5 n5 c5 (Vr.sets l [v, u])) := HO14.out.below hb1314 (Nat.le_refl _)
                have a0 := below_cells hb1314 a0
                have a1 := below_cells hb1314 a1
                have a2 := below_cells hb1314 a2
                have d0 := below_cells hb1314 d0
                have d1 := below_cells hb1314 d1
                have d2 := below_cells hb1314 d2
                clear hb1314 hb13 x0 x1 x2 x3 y0 y1 y2 y3 ho313 HO14 hvw huw
                go_wp2_with fail
                go_loopw [18] (fun i wr => ∃ k : Nat, k ≤ n ∧ i = .int .i64 k ∧ Below wc.heap.size wc wr) (fun i _ => n - (intOf i).toNat)
                case atStart => exact ⟨0, Nat.zero_le _, rfl, Below.refl _ _⟩
                case round =>
                  obtain ⟨k, hk, rfl, hbr⟩ := hrel
                  have hbW := hb14.trans (hbr.mono hb14.size)
                  have bvr := bv14.below hbr
                  have bur := bu14.below hbr
                  have a0 := below_cells hbr a0
                  have a1 := below_cells hbr a1
                  have a2 := below_cells hbr a2
                  have d0 := below_cells hbr d0
                  have d1 := below_cells hbr d1
                  have d2 := below_cells hbr d2
                  have q0 := below_cells hbr q0
                  have q1 := below_cells hbr q1
                  have q2 := below_cells hbr q2
                  have HOr : Hid (OwnVars wr w.heap.size 45 A5 n5 c5 (Vr.sets l [v, u])) := HO15.out.below hbr (Nat.le_refl _)
                  have ho3r := ho314.below hbr (Nat.le_refl _)
                  clear bv14 bu14 HO15 ho314
                  by_cases hkn : k < n
                  · have hkl : k < l.length := by rw [HL.out]; exact hkn
                    obtain ⟨b, off, rfl, hbb, z0, z1, z2, z3⟩ := (r0.below hbW (Nat.le_refl _)).at_ hkn
                    have hk3 := K3.out l[k]! (by rw [getElem!_pos l k hkl]; exact List.getElem_mem _)
                    obtain ⟨lk, hlk⟩ : ∃ lk, lk = l[k]! := ⟨_, rfl⟩
                    rw [← hlk] at z0 z1 z2 z3 hk3
                    clear hlk
                    obtain ⟨k3a, k3b⟩ := hk3
                    have hGc := get_any (w := wr) A5 n5 c5 (Vr.sets l [v, u]) lk.name (HOr.out.row) (by omega)
                    obtain ⟨gy, gc, hg⟩ : ∃ gy gc, Vr.get (Vr.sets l [v, u]) lk.name = (gy, gc) := ⟨_, _, rfl⟩
                    rw [hg] at hGc k3a k3b
                    obtain rfl : gc = true := k3a
                    have K3B := Lib.hid k3b
                    unfold getV Vr.V.inner at hGc
                    dsimp only at hGc
                    clear hg k3b
                    have hk0 : (0 : Int) ≤ (k : Int) := by omega
                    have hkI : (k : Int) < (n : Int) := by omega
                    clear a0 a1 a2 d0 d1 d2 q0 q1 q2 ho3r HOr
                    go_wp2_with fail
                    refine hGc.mono ?_
                    rintro e ws ⟨rfl, hbs⟩
                    have bvs := bvr.below hbs
                    have bus := bur.below hbs
                    have z0 := below_cells hbs z0
                    have z1 := below_cells hbs z1
                    have z2 := below_cells hbs z2
                    have z3 := below_cells hbs z3
                    have hbrs := hbr.trans (hbs.mono hbr.size)
                    clear hGc hbs bvr bur hbr
                    go_upto_region 22 with (fail)
                    obtain ⟨pc, hpc⟩ : ∃ pc, pc = ws.heap.size := ⟨_, rfl⟩
                    have hbst : Below ws.heap.size ws (ws.alloc (.cells #[.int .i64 gy.kind, .int .i64 gy.num, .string gy.text] 26)) := (Below.refl _ _).alloc (Nat.le_refl _) _
                    have g0 : (ws.alloc (.cells #[.int .i64 gy.kind, .int .i64 gy.num, .string gy.text] 26)).cell? ⟨ws.heap.size, 0, none⟩ = some (.int .i64 gy.kind) := cell_of_row _ ws.heap.size 0 _ _ (0, 0) (heap_alloc_new ws _)
                    have g1 : (ws.alloc (.cells #[.int .i64 gy.kind, .int .i64 gy.num, .string gy.text] 26)).cell? ⟨ws.heap.size, 1, none⟩ = some (.int .i64 gy.num) := cell_of_row _ ws.heap.size 1 _ _ (0, 0) (heap_alloc_new ws _)
                    have g2 : (ws.alloc (.cells #[.int .i64 gy.kind, .int .i64 gy.num, .string gy.text] 26)).cell? ⟨ws.heap.size, 2, none⟩ = some (.string gy.text) := cell_of_row _ ws.heap.size 2 _ _ (0, 0) (heap_alloc_new ws _)
                    have bvt := bvs.below hbst
                    have but := bus.below hbst
                    have z0 := below_cells hbst z0
                    have z1 := below_cells hbst z1
                    have z2 := below_cells hbst z2
                    have z3 := below_cells hbst z3
                    have hbrt := hbrs.trans (hbst.mono hbrs.size)
                    rw [← hpc] at g0 g1 g2
                    rw [← hpc]
                    clear hbst bvs bus hbrs hpc
                    generalize ws.alloc (.cells #[.int .i64 gy.kind, .int .i64 gy.num, .string gy.text] 26) = wt at *
                    obtain ⟨x0, x1, x2, x3⟩ := bvt
                    obtain ⟨y0, y1, y2, y3⟩ := but
                    have hbWt := hb14.trans (hbrt.mono hb14.size)
                    by_cases n1 : lk.name = v.name
                    · have hq1 : (lk.name.toList == v.name.toList) = true := by rw [n1]; simp
                      clear n1
                      go_quiet (fail)
                      go_wp2
                      go_roundw
                      case measure => simp [intOf]; omega
                      case rel => exact ⟨k + 1, by omega, by go_num, below_drewN hbrt _⟩
                    · have hq1 : (lk.name.toList == v.name.toList) = false := by rw [Vr.eq_of]; simpa using n1
                      by_cases n2 : lk.name = u.name
                      · have hq2 : (lk.name.toList == u.name.toList) = true := by rw [n2]; simp
                        clear n1 n2
                        go_quiet (fail)
                        go_wp2
                        go_roundw
                        case measure => simp [intOf]; omega
                        case rel => exact ⟨k + 1, by omega, by go_num, below_drewN hbrt _⟩
                      · have hq2 : (lk.name.toList == u.name.toList) = false := by rw [Vr.eq_of]; simpa using n2
                        obtain rfl : gy = lk := by have := K3B.out n1 n2; injection this
                        have hSv := fun W => sameValue_any gy gy W
                        rw [Vr.sameVal_refl] at hSv
                        unfold Vr.V.inner at hSv
                        clear n1 n2 K3B
                        go_still_tail 28, (by kernel_rfl)
                        change wpList _ _ _ _ _ wt.drew
                        have hbd := hbrt.drew
                        generalize wt.drew = wu at *
                        go_wp2_with fail
                        refine (hSv _).mono ?_
                        rintro e wy ⟨rfl, hby⟩
                        have hbdy := hbd.trans (hby.mono hbd.size)
                        go_wp2
                        go_roundw
                        case measure => simp [intOf]; omega
                        case rel => exact ⟨k + 1, by omega, by go_num, hbdy⟩
                  · obtain ⟨x0, x1, x2, x3⟩ := bvr
                    obtain ⟨y0, y1, y2, y3⟩ := bur
                    have hSa := fun W => sameValue_any ga ga W
                    rw [Vr.sameVal_refl] at hSa
                    have hSb := fun W => sameValue_any u u W
                    rw [Vr.sameVal_refl] at hSb
                    unfold Vr.V.inner at hSa hSb
                    go_wp2_with fail
                    refine (hSa _).mono ?_
                    rintro e ws ⟨rfl, hbs⟩
                    have d0 := below_cells hbs d0
                    have d1 := below_cells hbs d1
                    have d2 := below_cells hbs d2
                    have y1 := below_cells hbs y1
                    have y2 := below_cells hbs y2
                    have y3 := below_cells hbs y3
                    have hbWs := hbW.trans (hbs.mono hbW.size)
                    have HOs : Hid (OwnVars ws w.heap.size 45 A5 n5 c5 (Vr.sets l [v, u])) := HOr.out.below hbs (Nat.le_refl _)
                    have ho3s := ho3r.below hbs (Nat.le_refl _)
                    clear hbs HOr ho3r a0 a1 a2 q0 q1 q2 x0 x1 x2 x3 y0
                    go_wp2_with fail
                    refine (hSb _).mono ?_
                    rintro e wt ⟨rfl, hbt⟩
                    have hbWt := hbWs.trans (hbt.mono hbWs.size)
                    have HOt : Hid (OwnVars wt w.heap.size 45 A5 n5 c5 (Vr.sets l [v, u])) := HOs.out.below hbt (Nat.le_refl _)
                    have ho3t := ho3s.below hbt (Nat.le_refl _)
                    clear hbt HOs ho3s d0 d1 d2 y1 y2 y3
                    have hKx := check_any (W := w) (w := wt) A5 n5 c5 (Vr.sets l [v, u]) hE hbWt (HOt.out.row) (by omega) (Vr.setOne_all (Vr.setOne_all HV.out iv) iu)
                    rw [HC9.out] at hKx
                    go_wp2_with fail
                    refine hKx.mono ?_
                    rintro e wz ⟨⟨evz, rfl, hsz⟩, hbz⟩
                    obtain rfl := hsz.none_of
                    have hbWz := hbWt.trans (hbz.mono hbWt.size)
                    have ho3z := ho3t.below hbz (Nat.le_refl _)
                    have hSl := sameVars_any (w := wz) A n c l A3 n c3 l ((r0.below hbWz (Nat.le_refl _)).mono hbWz.size) ho3z.row (by omega) (by omega)
                    rw [Vr.sameL_refl] at hSl
                    clear hsz hbz
                    go_wp2_with fail
                    refine hSl.mono ?_
                    rintro e wq ⟨rfl, hbq⟩
                    go_wp2
                    go_ret
                    exact ⟨rfl, hbWz.trans (hbq.mono hbWz.size)⟩
            · obtain ⟨t5, a5, rfl⟩ := HS5.out.some_of e0
              obtain ⟨f1, f2, f3⟩ := Vr.two_full HG.out (by rw [HL.out]; omega) FV.out FU.out e0
              rw [HL.out] at f1
              rw [HGB.out] at f2
              have hbq : (v.name.toList == u.name.toList) = false := by
                rw [Vr.eq_of]; simpa using f3
              obtain rfl : n = 11 := f1
              obtain rfl : gb = false := f2
              clear e0 f3
              go_wp2
              go_ret
              exact ⟨rfl, hb9⟩
          · obtain ⟨t7, a7, rfl⟩ := hs7.some_of fu
            have HBAD : Hid (Vr.fault v ≠ 0 ∨ Vr.fault u ≠ 0) := .inr fu
            clear fu hs7
            by_cases e0 : (Vr.setV l [v, u]).2.1 = 0
            · have hnm : v.name = u.name := by
                rcases Decidable.em (v.name = u.name) with h | h
                · exact h
                · exact absurd e0 (Vr.two_bad HBAD.out h).1
              have hs5 := HS5.out
              rw [e0] at hs5
              obtain rfl := hs5.none_of
              have hbq : (v.name.toList == u.name.toList) = true := by rw [hnm]; simp
              clear e0 hs5 hnm
              go_wp2
              go_ret
              exact ⟨rfl, hb7'⟩
            · obtain ⟨t5, a5, rfl⟩ := HS5.out.some_of e0
              have hz := HO6.out.len
              rw [Vr.setV_err e0] at hz
              obtain rfl : 0 = n5 := hz
              clear e0
              go_wp2
              go_ret
              exact ⟨rfl, hb7'⟩
        · obtain ⟨t6, a6, rfl⟩ := hs6.some_of fv
          have HBAD : Hid (Vr.fault v ≠ 0 ∨ Vr.fault u ≠ 0) := .inl fv
          clear fv hs6
          by_cases e0 : (Vr.setV l [v, u]).2.1 = 0
          · have hnm : v.name = u.name := by
              rcases Decidable.em (v.name = u.name) with h | h
              · exact h
              · exact absurd e0 (Vr.two_bad HBAD.out h).1
            have hs5 := HS5.out
            rw [e0] at hs5
            obtain rfl := hs5.none_of
            have hbq : (v.name.toList == u.name.toList) = true := by rw [hnm]; simp
            clear e0 hs5 hnm
            go_wp2
            go_ret
            exact ⟨rfl, hb6'⟩
          · obtain ⟨t5, a5, rfl⟩ := HS5.out.some_of e0
            have hz := HO6.out.len
            rw [Vr.setV_err e0] at hz
            obtain rfl : 0 = n5 := hz
            clear e0
            go_wp2
            go_ret
            exact ⟨rfl, hb6'⟩
    · go_wp2_with fail
      refine hCk.mono ?_
      rintro e w2 ⟨⟨ev, rfl, hs⟩, hbc⟩
      obtain ⟨t2, a2, rfl⟩ := hs.some_of hc0
      clear hs hc0 hCk hLt
      go_wp2
      go_ret
      exact ⟨rfl, hb1.trans (hbc.mono hb1.size)⟩
end Go.Proofs.YthkgjdhbibialaaDoor
