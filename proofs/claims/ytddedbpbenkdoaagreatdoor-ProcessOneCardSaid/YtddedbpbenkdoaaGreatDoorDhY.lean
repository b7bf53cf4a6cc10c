/- The document's parser: a sign: what is amiss already, minus. -/
import Derived.Test.YtddedbpbenkdoaaGreatDoorDqY
namespace Go.Proofs.YtddedbpbenkdoaaGreatDoor
open Go.RowKit

theorem Co.behind_word {l : List UInt8} {st : Co.St} (h : Co.Gd l st) (he : st.err = none) (hk : Co.text l st = [] → st.kind = 1) :
    (st.kind = 3 ∨ st.kind = 4) ↔ (Co.text l st = [116, 114, 117, 101] ∨ Co.text l st = [102, 97, 108, 115, 101] ∨ (Co.text l st ≠ [] ∧ (Co.text l st)[0]! = 34)) := by
  by_cases ht : Co.text l st = []
  · have := hk ht
    rw [ht]
    simp [this]
  · have hkd := h.kind he ht
    rw [hkd]
    generalize Co.text l st = t at *
    unfold Co.V
    by_cases hw : Co.ofWord t[0]! = true
    · rw [if_pos hw]
      have h34 : t[0]! ≠ 34 := fun e => by rw [e] at hw; exact absurd hw (by decide)
      unfold Co.kindOf
      by_cases h1 : t = [111, 114] ∨ t = [97, 110, 100] ∨ t = [110, 111, 116]
      · rw [if_pos h1]
        rcases h1 with rfl | rfl | rfl <;> simp
      · rw [if_neg h1]
        by_cases h2 : t = [116, 114, 117, 101] ∨ t = [102, 97, 108, 115, 101]
        · rw [if_pos h2]
          rcases h2 with rfl | rfl <;> simp
        · rw [if_neg h2]
          have e : ¬ (t = [116, 114, 117, 101] ∨ t = [102, 97, 108, 115, 101] ∨ (t ≠ [] ∧ t[0]! = 34)) := fun h => h.elim (fun a => h2 (.inl a)) (fun a => a.elim (fun a => h2 (.inr a)) (fun a => h34 a.2))
          split
          · exact iff_of_false (by omega) e
          · split
            · exact iff_of_false (by omega) e
            · exact iff_of_false (by omega) e
    · rw [if_neg hw]
      have n1 : t ≠ [116, 114, 117, 101] := fun e => hw (by rw [e]; decide)
      have n2 : t ≠ [102, 97, 108, 115, 101] := fun e => hw (by rw [e]; decide)
      by_cases h34 : t[0]! = 34
      · rw [if_pos h34]; exact iff_of_true (.inl rfl) (.inr (.inr ⟨ht, h34⟩))
      · rw [if_neg h34]; exact iff_of_false (by omega) (fun h => h.elim n1 (fun a => a.elim n2 (fun a => h34 a.2)))
section
variable {w w1 : World} {q d : Nat} {s : ByteArray} {st : Co.St}
set_option maxRecDepth 10000 in
set_option maxHeartbeats 3200000 in
/-- Where something is amiss already, nothing is read. -/
theorem dsign_bad (f : Co.St → Co.Out) (hk : Co.Keeps f) (ht : Co.Tot s.data.toList f) {e : Co.Tr} {st' : Co.St} (hf : f st = some (e, st')) (h : DpC w q s st d) {x : Dq} (hx : Cel w q (x.list s)) (hs : Says s st d x) (hb : x.c ≠ 0) :
    Calls Tryz.prog 85 #[.pointer (some ⟨q, 0, none⟩)] w (DEnd q s d st' w) := by
  have hql := h.lt
  have HX := Lib.hid (hx.alloc (.cells #[.int .i64 0, .int .i64 0, .int .i64 0, .string ⟨#[]⟩, .string ⟨#[]⟩, .slice none 0 0] 87))
  have HZ : Hid (Cel (w.alloc (.cells #[.int .i64 0, .int .i64 0, .int .i64 0, .string ⟨#[]⟩, .string ⟨#[]⟩, .slice none 0 0] 87)) w.heap.size Ex.zero.list) := Lib.hid (Cel.lit w #[.int .i64 0, .int .i64 0, .int .i64 0, .string ⟨#[]⟩, .string ⟨#[]⟩, .slice none 0 0] 87)
  have FI := Lib.hid (dfine_any HX.out)
  have hbf : (x.c == 0) = false := by simpa using hb
  rw [hbf] at FI
  obtain ⟨h1, h2⟩ := hs.stay (d2 := d) h.gd hf hk ht hb
  have H1 : Hid (DpC (w.alloc (.cells #[.int .i64 0, .int .i64 0, .int .i64 0, .string ⟨#[]⟩, .string ⟨#[]⟩, .slice none 0 0] 87)) q s st' d) := ⟨h1, x, HX.out, h2⟩
  clear h hx hs hb hbf h1 h2 hf hk ht HX
  go_enter Tryz.func85, Tryz.ntmps85
  go_wp2_with (go_at_call 61; refine (FI.out).mono ?_; rintro e w3 ⟨rfl, rfl⟩)
  obtain ⟨⟨k0, k1, k2, k3, k4, k5⟩, _⟩ := HZ.out.six_of
  exact bodyPost_ret (v := Ex.zero.val) (by simp [results, Tryz.results85, go_sem, k0, k1, k2, k3, k4, k5, Ex.val]) rfl ⟨⟨_, rfl⟩, H1.out, grown_alloc _ _ _⟩
set_option maxRecDepth 10000 in
set_option maxHeartbeats 3200000 in
theorem dsign_minus (hsz : s.size ≤ 80) (hd : d ≤ 12) (p6 : Nat → Co.St → Co.Out) (other : Co.St → Co.Out) (hk6 : d ≠ 12 → Co.Keeps (p6 (d + 1))) (ht6 : d ≠ 12 → Co.Tot s.data.toList (p6 (d + 1)))
    (HP : d ≠ 12 → DPart q s 85 #[] (d + 1) (p6 (d + 1))) {e : Co.Tr} {st' : Co.St} (hm : Co.text s.data.toList st = [45]) (he : st.err = none)
    (hf : Co.under s.data.toList [45] 17 (fun n => Co.behind (p6 n)) other d st = some (e, st')) (h : DpC w q s st d) :
    Calls Tryz.prog 85 #[.pointer (some ⟨q, 0, none⟩)] w (DEnd q s d st' w) := by
  obtain ⟨part, hpart⟩ : ∃ part : Nat → Co.St → Co.Out, part = fun n => Co.behind (p6 n) := ⟨_, rfl⟩
  rw [← hpart] at hf
  have hk : d ≠ 12 → Co.Keeps (part (d + 1)) := fun h => by rw [hpart]; exact Co.behind_keeps (hk6 h)
  have ht : d ≠ 12 → Co.Tot s.data.toList (part (d + 1)) := fun h => by rw [hpart]; exact Co.behind_tot (ht6 h)
  have hql := h.lt
  have hM := h.gd.isM he [45] (by decide) (by decide)
  rw [hm] at hM
  have hM : Co.isM s.data.toList st [45] = true := hM
  unfold Co.under at hf
  rw [if_pos hM] at hf
  have hfa := h.gd.facts he
  have hsl : s.data.toList.length = s.size := by simp
  have H1 := Lib.hid (h.alloc (.cells #[.int .i64 0, .int .i64 0, .int .i64 0, .string ⟨#[]⟩, .string ⟨#[]⟩, .slice none 0 0] 87))
  have HZ := Lib.hid (Cel.lit w #[.int .i64 0, .int .i64 0, .int .i64 0, .string ⟨#[]⟩, .string ⟨#[]⟩, .slice none 0 0] 87)
  obtain ⟨x, hx, hs⟩ := H1.out.ex
  have HGd := Lib.hid h.gd
  have hti : st.till ≤ s.size := by rw [← hsl]; exact hfa.2.1
  clear h hfa hM
  cases hs with
  | bad a n d' wd c k hc he2 =>
    exfalso
    have hM := HGd.out.isM he [45] (by decide) (by decide)
    rw [hm] at hM
    have hk6 := Co.isM_kind (show Co.isM s.data.toList st [45] = true from hM)
    have := Co.eff_of he2 (by rw [hk6]; decide)
    rw [he] at this
    cases this
  | fine _ hk1 =>
    have HX : Hid (Cel _ q (Dq.list s (Dq.good s st d))) := hx
    have FI := Lib.hid (dfine_any hx)
    have IN := Lib.hid (dinner_any HX.out he hti hsz hd)
    obtain ⟨⟨_, _, _, k3, _, _, _, _⟩, _⟩ := Dq.facts hx
    dsimp only at k3
    rw [hm] at k3
    have HF := Lib.hid hf
    have HE := Lib.hid he
    have HK := Lib.hid hk
    have HT := Lib.hid ht
    have HPP := Lib.hid HP
    clear hf hx hk ht HP hm he hk1 hti
    go_enter Tryz.func85, Tryz.ntmps85
    go_wp2_with fail
    refine FI.out.mono ?_
    rintro e3 w3 ⟨rfl, rfl⟩
    go_wp2_with fail
    refine IN.out.mono ?_
    rintro e4 w4 ⟨x4, rfl, hx4, hs12, hsn, hg4⟩
    have HG4 := Lib.hid (grown_trans (grown_alloc w (.cells #[.int .i64 0, .int .i64 0, .int .i64 0, .string ⟨#[]⟩, .string ⟨#[]⟩, .slice none 0 0] 87) (some q)) hg4)
    have HX4 := Lib.hid hx4
    have HZ4 : Hid (Cel w4 w.heap.size Ex.zero.list) := HZ.out.kept hg4 (by intro e; have := Option.some.inj e; omega)
    clear hg4 hx4
    by_cases hb : x4.c = 0
    · have hbt : (x4.c == 0) = true := by simpa using hb
      rw [hbt]
      by_cases h12 : d = 12
      · exfalso
        cases hs12 h12 with
        | fine h1 _ => exact (HGd.out.fail 112).2 h1
        | bad a n d' wd c k hc he2 => exact hc hb
      have hsn := hsn h12
      have hf := HF.out
      unfold Co.deeper at hf
      rw [if_neg h12] at hf
      cases hp : part (d + 1) (Co.next s.data.toList st) with
      | none => rw [hp] at hf; cases hf
      | some r =>
        obtain ⟨e1, st1⟩ := r
        rw [hp] at hf
        obtain rfl : st1 = st' := by cases hf; rfl
        cases hsn with
        | bad a n d' wd c k hc he => exact absurd hb hc
        | fine he4 hk4 =>
          have HX4 : Hid (Cel w4 q (Dq.list s (Dq.good s (Co.next s.data.toList st) (d + 1)))) := HX4
          obtain ⟨st4, hst4⟩ : ∃ st4, st4 = Co.next s.data.toList st := ⟨_, rfl⟩
          have GN := Lib.hid HGd.out.next.1
          rw [← hst4] at he4 hk4 HX4 hp GN
          obtain ⟨⟨_, k1, _, k3, _, _, _, _⟩, _⟩ := Dq.facts HX4.out
          unfold Dq.good at k1 k3
          dsimp only at k1 k3
          have HHP := Lib.hid hp
          have HE4 := Lib.hid he4
          have HK4 := Lib.hid hk4
          have HBW := Lib.hid (Co.behind_word GN.out he4 hk4)
          clear hp he4 hk4 hs12 hb hbt hf hst4
          have BAD : Hid (st4.kind = 3 ∨ st4.kind = 4 → Hid (Co.Gd s.data.toList st1 ∧ ∀ a n wd d', Says s st1 d ⟨a, n, wd, 111, true, st4.frm, d'⟩)) := fun hk => by
            have hp := HHP.out
            rw [hpart] at hp
            have hp : p6 (d + 1) (if st4.kind = 3 ∨ st4.kind = 4 then Co.fail 111 st4 else st4) = some (e1, st1) := hp
            rw [if_pos hk] at hp
            have hef : Co.eff (Co.fail 111 st4) = some (111, st4.frm) := by unfold Co.fail; rw [HE4.out]; rfl
            have h1 := hk6 h12 _ _ _ _ hp hef
            obtain ⟨e2, st2, t1, t2, _⟩ := ht6 h12 _ (GN.out.fail 111).1
            rw [hp] at t1
            obtain ⟨rfl, rfl⟩ : e1 = e2 ∧ st1 = st2 := by cases t1; exact ⟨rfl, rfl⟩
            exact ⟨t2, fun a n wd d' => .bad _ _ _ _ _ _ (by decide) h1⟩
          have GO : Hid (¬ (st4.kind = 3 ∨ st4.kind = 4) → Calls _ _ _ w4 _) := fun hk => by
            have hp := HHP.out
            rw [hpart] at hp
            have hp : p6 (d + 1) (if st4.kind = 3 ∨ st4.kind = 4 then Co.fail 111 st4 else st4) = some (e1, st1) := hp
            rw [if_neg hk] at hp
            exact HPP.out h12 _ e1 st1 hp w4 ⟨GN.out, _, HX4.out, .fine HE4.out HK4.out⟩
          clear HPP HK HT hk6 ht6 HHP HF hpart
          by_cases hT : Co.text s.data.toList st4 = [116, 114, 117, 101]
          · rw [hT] at k3
            have HB : Co.text s.data.toList st4 = [116, 114, 117, 101] ∨ Co.text s.data.toList st4 = [102, 97, 108, 115, 101] ∨ (Co.text s.data.toList st4 ≠ [] ∧ (Co.text s.data.toList st4)[0]! = 34) := .inl hT
            have AMI := Lib.hid (damiss_any HX4.out rfl 111 (st4.frm : Int) (by decide))
            obtain ⟨gd1, sa1⟩ := (BAD.out (HBW.out.2 HB)).out
            go_wp2_with (go_at_call 62; refine (AMI.out).mono ?_; rintro e w5 ⟨rfl, h5, hg5⟩; have HZ5 : Hid (Cel w5 w.heap.size Ex.zero.list) := (HZ4.out.kept hg5 (by intro e; have := Option.some.inj e; omega)); have HG5 := Lib.hid (grown_trans HG4.out hg5); have H5 := Lib.hid h5; clear h5 hg5; obtain ⟨⟨z0, z1, z2, z3, z4, z5⟩, g0, g1, g2, g3, g4, g5⟩ := HZ5.out.six_of)
            have hfin := HZ5.out.six Ex.zero
            have hx6 := H5.out.kept (set6_grown w5 w.heap.size Ex.zero) (by intro e; have := Option.some.inj e; omega)
            have hg3 := grown_past HG5.out (set6_grown w5 w.heap.size Ex.zero) (Nat.le_refl _)
            show bodyPost _ _ _ _ _ (set6 w5 w.heap.size Ex.zero)
            generalize set6 w5 w.heap.size Ex.zero = wf at *
            obtain ⟨⟨k0, k1, k2, k3, k4, k5⟩, _⟩ := hfin.six_of
            exact bodyPost_ret (v := Ex.zero.val) (by simp [results, Tryz.results85, go_sem, k0, k1, k2, k3, k4, k5, Ex.val]) rfl ⟨⟨_, rfl⟩, ⟨gd1, _, hx6, sa1 _ _ _ _⟩, hg3⟩
          by_cases hF : Co.text s.data.toList st4 = [102, 97, 108, 115, 101]
          · rw [hF] at k3
            have HB : Co.text s.data.toList st4 = [116, 114, 117, 101] ∨ Co.text s.data.toList st4 = [102, 97, 108, 115, 101] ∨ (Co.text s.data.toList st4 ≠ [] ∧ (Co.text s.data.toList st4)[0]! = 34) := .inr (.inl hF)
            have AMI := Lib.hid (damiss_any HX4.out rfl 111 (st4.frm : Int) (by decide))
            obtain ⟨gd1, sa1⟩ := (BAD.out (HBW.out.2 HB)).out
            go_wp2_with (go_at_call 62; refine (AMI.out).mono ?_; rintro e w5 ⟨rfl, h5, hg5⟩; have HZ5 : Hid (Cel w5 w.heap.size Ex.zero.list) := (HZ4.out.kept hg5 (by intro e; have := Option.some.inj e; omega)); have HG5 := Lib.hid (grown_trans HG4.out hg5); have H5 := Lib.hid h5; clear h5 hg5; obtain ⟨⟨z0, z1, z2, z3, z4, z5⟩, g0, g1, g2, g3, g4, g5⟩ := HZ5.out.six_of)
            have hfin := HZ5.out.six Ex.zero
            have hx6 := H5.out.kept (set6_grown w5 w.heap.size Ex.zero) (by intro e; have := Option.some.inj e; omega)
            have hg3 := grown_past HG5.out (set6_grown w5 w.heap.size Ex.zero) (Nat.le_refl _)
            show bodyPost _ _ _ _ _ (set6 w5 w.heap.size Ex.zero)
            generalize set6 w5 w.heap.size Ex.zero = wf at *
            obtain ⟨⟨k0, k1, k2, k3, k4, k5⟩, _⟩ := hfin.six_of
            exact bodyPost_ret (v := Ex.zero.val) (by simp [results, Tryz.results85, go_sem, k0, k1, k2, k3, k4, k5, Ex.val]) rfl ⟨⟨_, rfl⟩, ⟨gd1, _, hx6, sa1 _ _ _ _⟩, hg3⟩
          obtain ⟨wd, hwd⟩ : ∃ wd : ByteArray, wd = ⟨(Co.text s.data.toList st4).toArray⟩ := ⟨_, rfl⟩
          rw [← hwd] at k3
          have hwT : (wd.toList == [116, 114, 117, 101]) = false := by rw [Co.eq_lit, hwd]; exact decide_eq_false hT
          have hwF : (wd.toList == [102, 97, 108, 115, 101]) = false := by rw [Co.eq_lit, hwd]; exact decide_eq_false hF
          have hsz4 : wd.size = (Co.text s.data.toList st4).length := by rw [hwd]; simp [ByteArray.size]
          by_cases h0 : wd.size = 0
          · have hnil : Co.text s.data.toList st4 = [] := List.length_eq_zero_iff.1 (by omega)
            have HB : ¬ (Co.text s.data.toList st4 = [116, 114, 117, 101] ∨ Co.text s.data.toList st4 = [102, 97, 108, 115, 101] ∨ (Co.text s.data.toList st4 ≠ [] ∧ (Co.text s.data.toList st4)[0]! = 34)) := fun h => h.elim hT (fun a => a.elim hF (fun a => a.1 hnil))
            have h0I : (wd.size : Int) = 0 := by omega
            clear hT hF hwd hsz4 hnil h0
            have HC := Lib.hid (GO.out (fun h => HB (HBW.out.1 h)))
            go_wp2_with fail
            refine HC.out.mono ?_
            rintro e5 w5 ⟨⟨y, rfl⟩, h5, hg5⟩
            have HZ5 : Hid (Cel w5 w.heap.size Ex.zero.list) := HZ4.out.kept hg5 (by intro e; have := Option.some.inj e; omega)
            have H5 := Lib.hid h5
            have HG5 := Lib.hid (grown_trans HG4.out hg5)
            have hz5 : w.heap.size < w5.heap.size := HZ5.out.lt
            clear h5 hg5
            unfold Ex.val
            go_upto_region 11 with (fail)
            have H7 := Lib.hid ((H5.out.alloc (.cells #[.int .i64 y.op, .int .i64 y.kind, .int .i64 y.num, .string y.txt, .string y.name, .slice y.A y.n y.c] 87)).alloc (.cells #[.int .i64 17, .int .i64 0, .int .i64 0, .string ⟨#[]⟩, .string ⟨#[]⟩, .slice (some ⟨w5.heap.size, 0, none⟩) 1 1] 87))
            have HZ7 := Lib.hid ((HZ5.out.alloc (.cells #[.int .i64 y.op, .int .i64 y.kind, .int .i64 y.num, .string y.txt, .string y.name, .slice y.A y.n y.c] 87)).alloc (.cells #[.int .i64 17, .int .i64 0, .int .i64 0, .string ⟨#[]⟩, .string ⟨#[]⟩, .slice (some ⟨w5.heap.size, 0, none⟩) 1 1] 87))
            have HE7 : Hid (Cel ((w5.alloc (.cells #[.int .i64 y.op, .int .i64 y.kind, .int .i64 y.num, .string y.txt, .string y.name, .slice y.A y.n y.c] 87)).alloc (.cells #[.int .i64 17, .int .i64 0, .int .i64 0, .string ⟨#[]⟩, .string ⟨#[]⟩, .slice (some ⟨w5.heap.size, 0, none⟩) 1 1] 87)) (w5.heap.size + 1) (Ex.list ⟨17, 0, 0, ⟨#[]⟩, ⟨#[]⟩, some ⟨w5.heap.size, 0, none⟩, 1, 1⟩)) := cel_at (Cel.lit (w5.alloc (.cells #[.int .i64 y.op, .int .i64 y.kind, .int .i64 y.num, .string y.txt, .string y.name, .slice y.A y.n y.c] 87)) _ _) (by simp)
            have HG7 := Lib.hid (grown_trans (grown_trans HG5.out (grown_alloc w5 (.cells #[.int .i64 y.op, .int .i64 y.kind, .int .i64 y.num, .string y.txt, .string y.name, .slice y.A y.n y.c] 87) _)) (grown_alloc _ (.cells #[.int .i64 17, .int .i64 0, .int .i64 0, .string ⟨#[]⟩, .string ⟨#[]⟩, .slice (some ⟨w5.heap.size, 0, none⟩) 1 1] 87) _))
            generalize (w5.alloc _).alloc _ = w7 at *
            obtain ⟨x7, hx7, hs7⟩ := H7.out.ex
            have HU := Lib.hid (DpC.up H7.out.gd hx7 hs7 hd)
            obtain ⟨⟨_, _, _, _, _, _, _, k7⟩, _, _, _, _, _, _, f7⟩ := Dq.facts hx7
            obtain ⟨v, hv⟩ : ∃ v : Int, v = wrap64 (x7.d - 1) := ⟨_, rfl⟩
            rw [← hv] at HU
            have HG8 := Lib.hid (set_grown HG7.out 7 (.int .i64 v))
            have HZ8 : Hid (Cel (w7.setCell ⟨q, 7, none⟩ (.int .i64 v)) w.heap.size Ex.zero.list) := HZ7.out.kept (set_grown (World.grownBy.refl w7 (some q)) 7 (.int .i64 v)) (by intro e; have := Option.some.inj e; omega)
            have HE8 : Hid (Cel (w7.setCell ⟨q, 7, none⟩ (.int .i64 v)) (w5.heap.size + 1) (Ex.list ⟨17, 0, 0, ⟨#[]⟩, ⟨#[]⟩, some ⟨w5.heap.size, 0, none⟩, 1, 1⟩)) := HE7.out.kept (set_grown (World.grownBy.refl w7 (some q)) 7 (.int .i64 v)) (by intro e; have := Option.some.inj e; omega)
            clear hx7 hs7 H7 HZ7 HE7 HG7 H5 HZ5 HG5 HZ4 HG4 HX4
            go_upto_region 12 with (fail)
            rw [show wrap64 (x7.d - 1) = v from hv.symm]
            generalize w7.setCell _ _ = w8 at *
            obtain ⟨⟨z0, z1, z2, z3, z4, z5⟩, g0, g1, g2, g3, g4, g5⟩ := HZ8.out.six_of
            obtain ⟨⟨y0, y1, y2, y3, y4, y5⟩, _⟩ := HE8.out.six_of
            go_wp2
            obtain ⟨u, hu⟩ : ∃ u : Ex, u = ⟨17, 0, 0, ⟨#[]⟩, ⟨#[]⟩, some ⟨w5.heap.size, 0, none⟩, 1, 1⟩ := ⟨_, rfl⟩
            have hfin := HZ8.out.six u
            have h3 := HU.out.other (set6_grown w8 w.heap.size u) (by intro e; have := Option.some.inj e; omega)
            have hg3 := grown_past HG8.out (set6_grown w8 w.heap.size u) (by simp)
            show bodyPost _ _ _ _ _ (set6 w8 w.heap.size ⟨17, 0, 0, ⟨#[]⟩, ⟨#[]⟩, some ⟨w5.heap.size, 0, none⟩, 1, 1⟩)
            rw [← hu]
            generalize set6 w8 w.heap.size u = wf at *
            obtain ⟨⟨k0, k1, k2, k3, k4, k5⟩, _⟩ := hfin.six_of
            exact bodyPost_ret (v := u.val) (by simp [results, Tryz.results85, go_sem, k0, k1, k2, k3, k4, k5, Ex.val]) rfl ⟨⟨u, rfl⟩, h3, hg3⟩
          · have h0I : (0 : Int) < (wd.size : Int) := by omega
            have h0n : 0 < wd.size := by omega
            have hat : (Co.text s.data.toList st4)[0]! = wd[0] := by
              have hlen : 0 < (Co.text s.data.toList st4).length := by omega
              subst hwd
              rw [getElem!_pos (Co.text s.data.toList st4) 0 hlen]
              rfl
            have hne : Co.text s.data.toList st4 ≠ [] := fun e => h0 (by rw [hsz4, e]; rfl)
            by_cases h34 : (wd[0].toNat : Int) = 34
            · have HB : Co.text s.data.toList st4 = [116, 114, 117, 101] ∨ Co.text s.data.toList st4 = [102, 97, 108, 115, 101] ∨ (Co.text s.data.toList st4 ≠ [] ∧ (Co.text s.data.toList st4)[0]! = 34) := .inr (.inr ⟨hne, by rw [hat]; exact Co.u8_of (by show _ = 34; omega)⟩)
              have HBH := Lib.hid HB
              clear hT hF hwd hsz4 h0 hat hne HB
              have HB := HBH.out
              have AMI := Lib.hid (damiss_any HX4.out rfl 111 (st4.frm : Int) (by decide))
              obtain ⟨gd1, sa1⟩ := (BAD.out (HBW.out.2 HB)).out
              go_wp2_with (go_at_call 62; refine (AMI.out).mono ?_; rintro e w5 ⟨rfl, h5, hg5⟩; have HZ5 : Hid (Cel w5 w.heap.size Ex.zero.list) := (HZ4.out.kept hg5 (by intro e; have := Option.some.inj e; omega)); have HG5 := Lib.hid (grown_trans HG4.out hg5); have H5 := Lib.hid h5; clear h5 hg5; obtain ⟨⟨z0, z1, z2, z3, z4, z5⟩, g0, g1, g2, g3, g4, g5⟩ := HZ5.out.six_of)
              have hfin := HZ5.out.six Ex.zero
              have hx6 := H5.out.kept (set6_grown w5 w.heap.size Ex.zero) (by intro e; have := Option.some.inj e; omega)
              have hg3 := grown_past HG5.out (set6_grown w5 w.heap.size Ex.zero) (Nat.le_refl _)
              show bodyPost _ _ _ _ _ (set6 w5 w.heap.size Ex.zero)
              generalize set6 w5 w.heap.size Ex.zero = wf at *
              obtain ⟨⟨k0, k1, k2, k3, k4, k5⟩, _⟩ := hfin.six_of
              exact bodyPost_ret (v := Ex.zero.val) (by simp [results, Tryz.results85, go_sem, k0, k1, k2, k3, k4, k5, Ex.val]) rfl ⟨⟨_, rfl⟩, ⟨gd1, _, hx6, sa1 _ _ _ _⟩, hg3⟩
            · have HB : ¬ (Co.text s.data.toList st4 = [116, 114, 117, 101] ∨ Co.text s.data.toList st4 = [102, 97, 108, 115, 101] ∨ (Co.text s.data.toList st4 ≠ [] ∧ (Co.text s.data.toList st4)[0]! = 34)) := fun h => h.elim hT (fun a => a.elim hF (fun a => h34 (by rw [← hat, a.2]; rfl)))
              have h34b : ((wd[0].toNat : Int) == 34) = false := by rw [beq_eq_false_iff_ne]; exact h34
              clear hT hF hwd hsz4 h0 hat hne
              have HC := Lib.hid (GO.out (fun h => HB (HBW.out.1 h)))
              go_wp2_with fail
              refine HC.out.mono ?_
              rintro e5 w5 ⟨⟨y, rfl⟩, h5, hg5⟩
              have HZ5 : Hid (Cel w5 w.heap.size Ex.zero.list) := HZ4.out.kept hg5 (by intro e; have := Option.some.inj e; omega)
              have H5 := Lib.hid h5
              have HG5 := Lib.hid (grown_trans HG4.out hg5)
              have hz5 : w.heap.size < w5.heap.size := HZ5.out.lt
              clear h5 hg5
              unfold Ex.val
              go_upto_region 11 with (fail)
              have H7 := Lib.hid ((H5.out.alloc (.cells #[.int .i64 y.op, .int .i64 y.kind, .int .i64 y.num, .string y.txt, .string y.name, .slice y.A y.n y.c] 87)).alloc (.cells #[.int .i64 17, .int .i64 0, .int .i64 0, .string ⟨#[]⟩, .string ⟨#[]⟩, .slice (some ⟨w5.heap.size, 0, none⟩) 1 1] 87))
              have HZ7 := Lib.hid ((HZ5.out.alloc (.cells #[.int .i64 y.op, .int .i64 y.kind, .int .i64 y.num, .string y.txt, .string y.name, .slice y.A y.n y.c] 87)).alloc (.cells #[.int .i64 17, .int .i64 0, .int .i64 0, .string ⟨#[]⟩, .string ⟨#[]⟩, .slice (some ⟨w5.heap.size, 0, none⟩) 1 1] 87))
              have HE7 : Hid (Cel ((w5.alloc (.cells #[.int .i64 y.op, .int .i64 y.kind, .int .i64 y.num, .string y.txt, .string y.name, .slice y.A y.n y.c] 87)).alloc (.cells #[.int .i64 17, .int .i64 0, .int .i64 0, .string ⟨#[]⟩, .string ⟨#[]⟩, .slice (some ⟨w5.heap.size, 0, none⟩) 1 1] 87)) (w5.heap.size + 1) (Ex.list ⟨17, 0, 0, ⟨#[]⟩, ⟨#[]⟩, some ⟨w5.heap.size, 0, none⟩, 1, 1⟩)) := cel_at (Cel.lit (w5.alloc (.cells #[.int .i64 y.op, .int .i64 y.kind, .int .i64 y.num, .string y.txt, .string y.name, .slice y.A y.n y.c] 87)) _ _) (by simp)
              have HG7 := Lib.hid (grown_trans (grown_trans HG5.out (grown_alloc w5 (.cells #[.int .i64 y.op, .int .i64 y.kind, .int .i64 y.num, .string y.txt, .string y.name, .slice y.A y.n y.c] 87) _)) (grown_alloc _ (.cells #[.int .i64 17, .int .i64 0, .int .i64 0, .string ⟨#[]⟩, .string ⟨#[]⟩, .slice (some ⟨w5.heap.size, 0, none⟩) 1 1] 87) _))
              generalize (w5.alloc _).alloc _ = w7 at *
              obtain ⟨x7, hx7, hs7⟩ := H7.out.ex
              have HU := Lib.hid (DpC.up H7.out.gd hx7 hs7 hd)
              obtain ⟨⟨_, _, _, _, _, _, _, k7⟩, _, _, _, _, _, _, f7⟩ := Dq.facts hx7
              obtain ⟨v, hv⟩ : ∃ v : Int, v = wrap64 (x7.d - 1) := ⟨_, rfl⟩
              rw [← hv] at HU
              have HG8 := Lib.hid (set_grown HG7.out 7 (.int .i64 v))
              have HZ8 : Hid (Cel (w7.setCell ⟨q, 7, none⟩ (.int .i64 v)) w.heap.size Ex.zero.list) := HZ7.out.kept (set_grown (World.grownBy.refl w7 (some q)) 7 (.int .i64 v)) (by intro e; have := Option.some.inj e; omega)
              have HE8 : Hid (Cel (w7.setCell ⟨q, 7, none⟩ (.int .i64 v)) (w5.heap.size + 1) (Ex.list ⟨17, 0, 0, ⟨#[]⟩, ⟨#[]⟩, some ⟨w5.heap.size, 0, none⟩, 1, 1⟩)) := HE7.out.kept (set_grown (World.grownBy.refl w7 (some q)) 7 (.int .i64 v)) (by intro e; have := Option.some.inj e; omega)
              clear hx7 hs7 H7 HZ7 HE7 HG7 H5 HZ5 HG5 HZ4 HG4 HX4
              go_upto_region 12 with (fail)
              rw [show wrap64 (x7.d - 1) = v from hv.symm]
              generalize w7.setCell _ _ = w8 at *
              obtain ⟨⟨z0, z1, z2, z3, z4, z5⟩, g0, g1, g2, g3, g4, g5⟩ := HZ8.out.six_of
              obtain ⟨⟨y0, y1, y2, y3, y4, y5⟩, _⟩ := HE8.out.six_of
              go_wp2
              obtain ⟨u, hu⟩ : ∃ u : Ex, u = ⟨17, 0, 0, ⟨#[]⟩, ⟨#[]⟩, some ⟨w5.heap.size, 0, none⟩, 1, 1⟩ := ⟨_, rfl⟩
              have hfin := HZ8.out.six u
              have h3 := HU.out.other (set6_grown w8 w.heap.size u) (by intro e; have := Option.some.inj e; omega)
              have hg3 := grown_past HG8.out (set6_grown w8 w.heap.size u) (by simp)
              show bodyPost _ _ _ _ _ (set6 w8 w.heap.size ⟨17, 0, 0, ⟨#[]⟩, ⟨#[]⟩, some ⟨w5.heap.size, 0, none⟩, 1, 1⟩)
              rw [← hu]
              generalize set6 w8 w.heap.size u = wf at *
              obtain ⟨⟨k0, k1, k2, k3, k4, k5⟩, _⟩ := hfin.six_of
              exact bodyPost_ret (v := u.val) (by simp [results, Tryz.results85, go_sem, k0, k1, k2, k3, k4, k5, Ex.val]) rfl ⟨⟨u, rfl⟩, h3, hg3⟩
    · have hbf : (x4.c == 0) = false := by simpa using hb
      rw [hbf]
      obtain ⟨⟨z0, z1, z2, z3, z4, z5⟩, g0, g1, g2, g3, g4, g5⟩ := HZ4.out.six_of
      go_wp2
      have hfin := HZ4.out.six Ex.zero
      have hg3 : w.grownBy (set6 w4 w.heap.size Ex.zero) (some q) := grown_past HG4.out (set6_grown w4 w.heap.size Ex.zero) (Nat.le_refl _)
      have hx5 := HX4.out.kept (set6_grown w4 w.heap.size Ex.zero) (by intro e; have := Option.some.inj e; omega)
      show bodyPost _ _ _ _ _ (set6 w4 w.heap.size Ex.zero)
      generalize set6 w4 w.heap.size Ex.zero = wf at *
      obtain ⟨⟨k0, k1, k2, k3, k4, k5⟩, _⟩ := hfin.six_of
      refine bodyPost_ret (v := Ex.zero.val) (by simp [results, Tryz.results85, go_sem, k0, k1, k2, k3, k4, k5, Ex.val]) rfl ⟨⟨_, rfl⟩, ?_, hg3⟩
      have hf := HF.out
      unfold Co.deeper at hf
      by_cases h12 : d = 12
      · rw [if_pos h12] at hf
        obtain rfl : Co.fail 112 st = st' := by cases hf; rfl
        have hs4 := hs12 h12
        exact ⟨(HGd.out.fail 112).1, x4, hx5, hs4⟩
      · rw [if_neg h12] at hf
        cases hp : part (d + 1) (Co.next s.data.toList st) with
        | none => rw [hp] at hf; cases hf
        | some r =>
          obtain ⟨e1, st1⟩ := r
          rw [hp] at hf
          obtain rfl : st1 = st' := by cases hf; rfl
          obtain ⟨h1, h2⟩ := (hsn h12).stay (d2 := d) HGd.out.next.1 hp (HK.out h12) (HT.out h12) hb
          exact ⟨h1, x4, hx5, h2⟩
end
end Go.Proofs.YtddedbpbenkdoaaGreatDoor
