/- The chapter's examples. ProcessBack: the walk. -/
import Derived.Test.YtjababmmcejgdaaGreatDoorUaY
import Derived.Test.YtjababmmcejgdaaGreatDoorGzY
import Derived.Test.YtjababmmcejgdaaGreatDoorBkY
import Derived.Test.YtjababmmcejgdaaGreatDoorBiY
import Derived.Test.YtjababmmcejgdaaGreatDoorBeY
import Derived.Test.YtjababmmcejgdaaGreatDoorSmY
import Derived.Test.YtjababmmcejgdaaGreatDoorYProcessBack4
import Derived.Test.YtjababmmcejgdaaGreatDoorYProcessBack6
namespace Go.Proofs.YtjababmmcejgdaaGreatDoor
open Go.RowKit

namespace Pr
/-- The examples' process: five bare nodes, a flow from 3 to 4. -/
def nd0 : Nd := ⟨0, no, 0, 0, 0, no, no, 0⟩
def exP : P := ⟨no, List.replicate 5 nd0, [⟨3, 4, no⟩]⟩
theorem exP3 : outsB exP 3 = [0] := by decide +kernel
theorem exP9 : outsB exP 9 = [] := by decide +kernel
set_option maxHeartbeats 1600000 in
set_option maxRecDepth 10000 in
theorem first_any (w : World) : Calls Tryz.prog 6 #[] w fun e w' => e = .returned (.bool true) ∧ Below w.heap.size w w' := by
  obtain ⟨i0, hi0, hz0, hz1, hz2⟩ := info_parts info_node
  go_enter Tryz.func6, Tryz.ntmps6
  go_upto_region 2 with (at_make; refine wpList_make_full _ rfl _ _ 27 rfl w.heap.size 36 i0 _ 8 Tryz.underlying27 hi0 hz0 hz1 .i64 .i64 _ _ 5 rfl rfl rfl rfl (by rw [hz2]; omega) (by unfold maxLen; omega) (Nat.le_refl _) ?_; intro w1 ho1 hg1)
  have hmk : (madeCells (Value.agg #[.int .i64 0, .string ⟨#[]⟩, .int .i64 0, .int .i64 0, .int .i64 0, .string ⟨#[]⟩, .string ⟨#[]⟩, .int .i64 0]).cells (5 * 8)).toList = exP.nodes.flatMap Nd.κ.cs := by kernel_rfl
  rw [hmk] at ho1
  have hN : OwnK Nd.κ w1 w.heap.size 36 (some ⟨w.heap.size, 0, none⟩) 5 5 exP.nodes := ⟨by decide, ho1⟩
  have hw1 : Below w.heap.size w w1 := ⟨hg1.os, hg1.tape, hg1.output, hg1.size, fun b hb => hg1.block b hb (by simp)⟩
  have hba : Below w1.heap.size w1 (w1.alloc (.cells #[.int .i64 3, .int .i64 4, .string ⟨#[]⟩] 38)) := (Below.refl _ _).alloc (Nat.le_refl _) _
  have hF : KRow Fl.κ (w1.alloc (.cells #[.int .i64 3, .int .i64 4, .string ⟨#[]⟩] 38)) (w1.heap.size + 1) (some ⟨w1.heap.size, 0, none⟩) 1 exP.flows := KRow.lit (κ := Fl.κ) w1 38 exP.flows #[.int .i64 3, .int .i64 4, .string ⟨#[]⟩] rfl
  have hC := Cel.lit (w1.alloc (.cells #[.int .i64 3, .int .i64 4, .string ⟨#[]⟩] 38)) #[.string ⟨#[]⟩, .slice (some ⟨w.heap.size, 0, none⟩) 5 5, .slice (some ⟨w1.heap.size, 0, none⟩) 1 1] 30
  have hbc : Below (w1.heap.size + 1) (w1.alloc (.cells #[.int .i64 3, .int .i64 4, .string ⟨#[]⟩] 38)) ((w1.alloc (.cells #[.int .i64 3, .int .i64 4, .string ⟨#[]⟩] 38)).alloc (.cells #[.string ⟨#[]⟩, .slice (some ⟨w.heap.size, 0, none⟩) 5 5, .slice (some ⟨w1.heap.size, 0, none⟩) 1 1] 30)) := (Below.refl _ _).alloc (by simp) _
  have HF := Lib.hid (hF.below hbc (Nat.le_refl _))
  have HN := Lib.hid ((hN.below hba (Nat.le_refl _)).below hbc (by simp))
  have HC := Lib.hid hC
  have HB := Lib.hid (hw1.trans ((hba.trans (hbc.mono (by simp))).mono hw1.size))
  have hsz : w1.heap.size + 1 < ((w1.alloc (.cells #[.int .i64 3, .int .i64 4, .string ⟨#[]⟩] 38)).alloc (.cells #[.string ⟨#[]⟩, .slice (some ⟨w.heap.size, 0, none⟩) 5 5, .slice (some ⟨w1.heap.size, 0, none⟩) 1 1] 30)).heap.size := by simp
  rw [size_alloc] at HC
  clear hN hw1 hba hF hC hbc ho1 hg1
  generalize (w1.alloc _).alloc _ = w2 at *
  obtain ⟨⟨z0, z1, z2⟩, _⟩ := tri_facts HC.out
  have hn5 : exP.nodes.length = 5 := rfl
  go_wp2_with fail
  refine (outs_any (some ⟨w.heap.size, 0, none⟩) 5 5 (some ⟨w1.heap.size, 0, none⟩) 1 1 exP 3 w2 HN.out.row (HF.out.mono (by omega)) (by decide) (by decide)).mono ?_
  rintro e w3 ⟨⟨X, k, cc, rfl, ho⟩, hb3⟩
  rw [exP3] at ho
  obtain rfl : 1 = k := ho.len
  obtain ⟨b, off, rfl, _, _⟩ := ho.row.2 (by decide)
  have HB3 := Lib.hid (HB.out.trans (hb3.mono HB.out.size))
  have HC3 := Lib.hid (HC.out.below hb3 (Nat.le_refl _))
  have HN3 := Lib.hid (HN.out.below hb3 (Nat.le_refl _))
  have HF3 := Lib.hid (HF.out.below hb3 (by omega))
  have HO := Lib.hid ho
  have hs3 := hb3.size
  clear z0 z1 z2 ho hb3
  obtain ⟨⟨z0, z1, z2⟩, _⟩ := tri_facts HC3.out
  go_wp2_with fail
  refine (outs_any (some ⟨w.heap.size, 0, none⟩) 5 5 (some ⟨w1.heap.size, 0, none⟩) 1 1 exP 9 w3 HN3.out.row (HF3.out.mono (by omega)) (by decide) (by decide)).mono ?_
  rintro e w4 ⟨⟨X, k, cc', rfl, ho4⟩, hb4⟩
  rw [exP9] at ho4
  obtain rfl : 0 = k := ho4.len
  have HB4 := Lib.hid (HB3.out.trans (hb4.mono HB3.out.size))
  have hc0 := iκ_cells (HO.out.below hb4 (Nat.le_refl _)).row (j := 0) (by decide)
  have hc0 : w4.cell? ⟨b, off + 0, none⟩ = some (.int .i64 0) := hc0
  rw [Nat.add_zero] at hc0
  clear z0 z1 z2 ho4 hb4
  go_wp2
  go_ret
  exact ⟨rfl, HB4.out⟩
end Pr
end Go.Proofs.YtjababmmcejgdaaGreatDoor
namespace Go.Proofs.YtjababmmcejgdaaGreatDoor
open Go.RowKit
open Pr
/-- The sentinels that a process's bytes and their reader speak of. -/
abbrev sents8 : List Nat := [5, 3, 1, 4, 0, 2, 6, 12]
def pos8 (c : Int) : Nat := if c = 101 then 0 else if c = 102 then 1 else if c = 104 then 2 else if c = 105 then 3 else if c = 106 then 4 else if c = 107 then 5 else if c = 111 then 6 else if c = 112 then 7 else 100
theorem prErrs8 {W : World} {ads : List Addr} (hE : Errs W 213 sents8 ads) : PrErrs W (errMap pos8 ads) where
  e102 := errIn_of hE 102 1 _ rfl rfl
  e104 := errIn_of hE 104 2 _ rfl rfl
  e106 := errIn_of hE 106 4 _ rfl rfl
  e107 := errIn_of hE 107 5 _ rfl rfl
theorem coErrs8 {W : World} {ads : List Addr} (hE : Errs W 213 sents8 ads) (hW : CoWords W) : CoErrs W (errMap pos8 ads) where
  e105 := errIn_of hE 105 3 _ rfl rfl
  e111 := errIn_of hE 111 6 _ rfl rfl
  e112 := errIn_of hE 112 7 _ rfl rfl
  words := hW
theorem rdErrs8 {W : World} {ads : List Addr} (hE : Errs W 213 sents8 ads) : RdErrs W (errMap pos8 ads) where
  e101 := errIn_of hE 101 0 _ rfl rfl
  e102 := errIn_of hE 102 1 _ rfl rfl
  e105 := errIn_of hE 105 3 _ rfl rfl
  e107 := errIn_of hE 107 5 _ rfl rfl
theorem lite_tiny {p : P} (h : Tiny p) : Lite p where
  name := by have := h.name; omega
  nodes i hi := by
    have hi' : i < p.nodes.length := hi
    have hm := h.nd p.nodes[i]! (by rw [getElem!_pos p.nodes i hi']; exact List.getElem_mem hi')
    exact ⟨by have := hm.topic; omega, by have := hm.code; omega, by have := hm.caught; omega⟩
  flows i hi := by
    have hi' : i < p.flows.length := hi
    have hm := h.fl p.flows[i]! (by rw [getElem!_pos p.flows i hi']; exact List.getElem_mem hi')
    have := hm.cond
    omega
theorem cond_tiny {p : P} (h : Tiny p) : ∀ j, j < p.m → (p.flows[j]!).cond.size ≤ 80 := by
  intro i hi
  have hi' : i < p.flows.length := hi
  exact (h.fl p.flows[i]! (by rw [getElem!_pos p.flows i hi']; exact List.getElem_mem hi')).cond
theorem seenF_nil' {E : Int → Option Addr} {w : World} {v : Value} (h : SeenF E w v 0 none) : v = .nilIface := by
  generalize hc0 : (0 : Int) = c at h
  generalize hp0 : (none : Option Nat) = p at h
  cases h with
  | nil => rfl
  | bare c a h hc => exact absurd hc0.symm hc
  | at_ => cases hp0
theorem prB_len {p : P} (h : Tiny p) : (prB p).length ≤ 20000 := by
  have h1 := textsOf_len 24 (by decide) [p.name] (by intro s hs; obtain rfl := List.mem_singleton.1 hs; exact h.name)
  have hn := h.n
  have hm := h.m
  have h2 := encs_len [(p.n : Int)] (by intro s hs; obtain rfl := List.mem_singleton.1 hs; omega)
  have h3 := encs_len [(p.m : Int)] (by intro s hs; obtain rfl := List.mem_singleton.1 hs; omega)
  have h4 : (p.nodes.flatMap ndB).length ≤ 200 * p.n := flat_len p.nodes ndB fun x hx => ndB_len (h.nd x hx)
  have h5 : (p.flows.flatMap flB).length ≤ 200 * p.m := flat_len p.flows flB fun x hx => flB_len (h.fl x hx)
  unfold prB
  simp only [List.length_append]
  simp only [List.length_cons, List.length_nil] at h1 h2 h3
  omega
set_option maxHeartbeats 6400000 in
set_option maxRecDepth 10000 in
theorem processBack_walk (s : SeedV) (rings : Bool) (T : Option Addr) (tn tc : Nat) (tl : List UInt8) (ads : List Addr) (w : World) (hs : InSeed w s) (ht : InBytes w T tn tc tl)
    (hE0 : Errs w 213 sents8 ads) (hW : CoWords w) (hT : ErrTy w) :
    Calls Tryz.prog 4 #[s.val, .bool rings, .slice T tn tc] w fun e w' => e = .returned (.bool true) ∧ Below w.heap.size w w' := by
  have HCE := Lib.hid (coErrs8 hE0 hW)
  have HPE := Lib.hid (prErrs8 hE0)
  have HRE := Lib.hid (rdErrs8 hE0)
  have HT := Lib.hid hT
  have HS := Lib.hid hs
  have HTL := Lib.hid ht
  have HP := Lib.hid (Cel.lit w #[.string s.name, .slice s.KA s.kn s.kc, .slice s.EA s.en s.ec, .slice s.MA s.mn s.mc] 24)
  have HB := Lib.hid ((Below.refl w.heap.size w).alloc (Nat.le_refl _) (.cells #[.string s.name, .slice s.KA s.kn s.kc, .slice s.EA s.en s.ec, .slice s.MA s.mn s.mc] 24))
  have HL := Lib.hid (fun W => mlight_any s W)
  unfold SeedV.val at HL ⊢
  clear hs ht hE0 hW hT
  go_enter Tryz.func4, Tryz.ntmps4
  go_upto_region 1 with (fail)
  generalize w.alloc _ = wb at *
  go_wp2_with fail
  refine (first_any wb).mono ?_
  rintro e w1 ⟨rfl, hb1⟩
  have HP1 := Lib.hid (HP.out.below hb1 (Nat.le_refl _))
  have HB1 := Lib.hid (HB.out.trans (hb1.mono HB.out.size))
  clear hb1
  obtain ⟨z0, z1, z2, z3⟩ := quad_facts HP1.out
  go_wp2_with fail
  refine (HL.out w1).mono ?_
  rintro e w2 ⟨rfl, hb2⟩
  have HP2 := Lib.hid (HP1.out.below hb2 (Nat.le_refl _))
  have HB2 := Lib.hid (HB1.out.trans (hb2.mono HB1.out.size))
  clear hb2 z0 z1 z2 z3 HL HP HP1 HB HB1
  by_cases hl : light s = true
  · have hkn : s.kn ≤ 28 := by
      unfold light at hl
      simp only [Bool.and_eq_true, decide_eq_true_eq] at hl
      exact hl.2.1
    rw [hl]
    clear hl
    by_cases h40 : 40 < tn
    · have h40I : (tn : Int) > 40 := by omega
      go_wp2
      go_ret
      exact ⟨rfl, HB2.out⟩
    have h40I : ¬ (tn : Int) > 40 := by omega
    obtain ⟨z0, z1, z2, z3⟩ := quad_facts HP2.out
    have hk2 := (HS.out.k.row.below HB2.out (Nat.le_refl _)).mono HB2.out.size
    have hm2 := (HS.out.m.row.below HB2.out (Nat.le_refl _)).mono HB2.out.size
    have HG := Lib.hid (mgood_any (w := w2) s.name s.KA s.kn s.kc s.EA s.en s.ec s.MA s.mn s.mc s.ks s.ms rings hk2 hm2 HS.out.kb HS.out.mb (by omega))
    clear hk2 hm2
    go_wp2_with fail
    refine HG.out.mono ?_
    rintro e w3 ⟨⟨A, n, c, F, m, d, rfl, hN, hF⟩, hb3⟩
    have HN := Lib.hid hN
    have HF := Lib.hid hF
    have HB3 := Lib.hid (HB2.out.trans (hb3.mono HB2.out.size))
    clear hN hF hb3 HG z0 z1 z2 z3 HP2 HB2
    have hchk := check_good s.ks s.ms rings
    have htiny := good_tiny s.ks s.ms rings
    obtain ⟨_, _, _, _, hname⟩ := good_inv s.ks s.ms rings
    generalize good s.ks s.ms rings = p at *
    rw [← hname]
    have HPC := Lib.hid (Cel.lit w3 #[.string p.name, .slice A n c, .slice F m d] 30)
    have hba : Below w3.heap.size w3 (w3.alloc (.cells #[.string p.name, .slice A n c, .slice F m d] 30)) := (Below.refl _ _).alloc (Nat.le_refl _) _
    have HN4 := Lib.hid (HN.out.below hba (Nat.le_refl _))
    have HF4 := Lib.hid (HF.out.below hba (Nat.le_refl _))
    have HB4 := Lib.hid (HB3.out.trans (hba.mono HB3.out.size))
    obtain rfl : p.n = n := HN.out.len
    obtain rfl : p.m = m := HF.out.len
    have HTI := Lib.hid htiny
    have HCK := Lib.hid hchk
    have hn30 := htiny.n
    have hm60 := htiny.m
    clear hba HN HF HB3 hname htiny hchk
    go_upto_region 7 with (fail)
    generalize w3.alloc _ = w4 at *
    obtain ⟨⟨z0, z1, z2⟩, _⟩ := tri_facts HPC.out
    obtain ⟨i0, hi0, hz0, hz1, hz2⟩ := info_parts info_u8
    go_wp2_with fail
    refine (pput_any A p.n c F p.m d p w4 HN4.out.row HF4.out.row HTI.out).mono ?_
    rintro e w5 ⟨X, xn, xc, rfl, hx, hb5⟩
    have hxl : (prB p).length = xn := hx.len
    have hpl := prB_len HTI.out
    have HX := Lib.hid hx
    have HB5 := Lib.hid (HB4.out.trans (hb5.mono HB4.out.size))
    have HN5 := Lib.hid (HN4.out.below hb5 (Nat.le_refl _))
    have HF5 := Lib.hid (HF4.out.below hb5 (Nat.le_refl _))
    have HP5 := Lib.hid (HPC.out.below hb5 (Nat.le_refl _))
    have HT5 := Lib.hid (HTL.out.bytes.below HB5.out (Nat.le_refl _))
    have hs5 : w4.heap.size ≤ w5.heap.size := hb5.size
    have hp5 : w3.heap.size < w4.heap.size := HPC.out.lt
    have HN5B := Lib.hid (fun a ha => (HN4.out.block (a := a) ha).2)
    have HF5B := Lib.hid (fun a ha => (HF4.out.block (a := a) ha).2)
    clear hx hb5 z0 z1 z2 HN4 HF4 HPC
    go_upto_region 8 with (first
      | (at_builtin; refine append_by rfl (.tmp 27) (.tmp 28) 44 5 i0 _ Tryz.underlying44 hi0 hz0 hz1 hz2 rfl rfl _ w4.heap.size _ X xn xc _ T tn tc tl rfl HX.out rfl HT5.out HTL.out.nn (by omega) hs5 ?_; intro A' c' w' ho' hg'; have HOX := Lib.hid ho'; have hrow : ∀ b, b < w4.heap.size → (Value.slice X xn xc).ownBlock ≠ some b := (fun b hb he => by
          cases h : X with
          | none => rw [h] at he; cases he
          | some a =>
            rw [h] at he
            have := Option.some.inj he
            have := (World.ownsRow.lt HX.out a.block (by rw [h]; rfl)).1
            omega); have HB6 := Lib.hid (HB5.out.trans ((HX.out |> fun h => hg'.below h hs5).mono HB4.out.size)); have HN6 := Lib.hid (HN5.out.kept hg'.grown (fun a ha e => hrow a.block (by have := HN5B.out a ha; omega) e)); have HF6 := Lib.hid (HF5.out.kept hg'.grown (fun a ha e => hrow a.block (by have := HF5B.out a ha; omega) e)); have HP6 := Lib.hid (HP5.out.kept hg'.grown (hrow _ hp5)); clear hg' ho')
      | fail)
    refine (read_any (E := errMap pos8 ads) A' (xn + tn) c' HOX.out.bytes HOX.out.nn (by omega)).mono ?_
    rintro e w7 ⟨q, rfl, hq, hr, hb7⟩
    have HR7 := Lib.hid hr
    have HB7 := Lib.hid (HB6.out.trans (hb7.mono HB6.out.size))
    have HN7 := Lib.hid (HN6.out.below hb7 (Nat.le_refl _))
    have HF7 := Lib.hid (HF6.out.below hb7 (Nat.le_refl _))
    have HP7 := Lib.hid (HP6.out.below hb7 (Nat.le_refl _))
    have hp6 : w3.heap.size < w'.heap.size := HP6.out.lt
    have h6 := HB6.out.size
    have HNB := Lib.hid (fun a ha => (HN6.out.block (a := a) ha).2)
    have HFB := Lib.hid (fun a ha => (HF6.out.block (a := a) ha).2)
    clear hr hb7 HN6 HF6 HP6 HN5 HF5 HP5 HB5 HX HT5 HOX HB6 HB4
    have hwq : w.heap.size ≤ q := Nat.le_trans h6 hq
    have HTK := Lib.hid (ptake_any HRE.out HB7.out hwq p HTI.out HR7.out)
    go_wp2_with fail
    refine HTK.out.mono ?_
    rintro e w8 ⟨⟨Y, yc, G, gd, rfl, hny, hfg⟩, hr8, hg8⟩
    have HY8 := Lib.hid hny
    have HG8 := Lib.hid hfg
    have HR8 := Lib.hid hr8
    have HB8 := Lib.hid (HB7.out.grown hg8 HB7.out.size (fun k hk => by cases hk; exact hwq))
    have HN8 := Lib.hid (HN7.out.kept hg8 (fun a ha e => by have := HNB.out a ha; have := Option.some.inj e; omega))
    have HF8 := Lib.hid (HF7.out.kept hg8 (fun a ha e => by have := HFB.out a ha; have := Option.some.inj e; omega))
    have HP8 := Lib.hid (HP7.out.kept hg8 (fun e => by have := Option.some.inj e; omega))
    clear hny hfg hr8 hg8 HN7 HF7 HP7 HB7 HR7 HTK
    have HQ := Lib.hid (Cel.lit w8 #[.string p.name, .slice Y p.n yc, .slice G p.m gd] 30)
    have hba : Below w8.heap.size w8 (w8.alloc (.cells #[.string p.name, .slice Y p.n yc, .slice G p.m gd] 30)) := (Below.refl _ _).alloc (Nat.le_refl _) _
    have HY9 := Lib.hid (HY8.out.below hba (Nat.le_refl _))
    have HG9 := Lib.hid (HG8.out.below hba (Nat.le_refl _))
    have HR9 := Lib.hid (HR8.out.below hba)
    have HB9 := Lib.hid (HB8.out.trans (hba.mono HB8.out.size))
    have HN9 := Lib.hid (HN8.out.below hba (Nat.le_refl _))
    have HF9 := Lib.hid (HF8.out.below hba (Nat.le_refl _))
    have HP9 := Lib.hid (HP8.out.below hba (Nat.le_refl _))
    clear hba HY8 HG8 HR8 HB8 HN8 HF8 HP8
    go_upto_region 11 with (fail)
    generalize w8.alloc _ = w9 at *
    obtain ⟨⟨z0, z1, z2⟩, _⟩ := tri_facts HP9.out
    have HCH := Lib.hid (check_any HPE.out HCE.out HT.out A p.n c F p.m d p w9 HB9.out HN9.out.row HF9.out.row (by omega) (by omega) (lite_tiny HTI.out) (cond_tiny HTI.out))
    rw [HCK.out] at HCH
    go_wp2_with fail
    refine HCH.out.mono ?_
    rintro e wa ⟨⟨ev, rfl, hev⟩, hba⟩
    obtain rfl := seenF_nil' hev
    have HBa := Lib.hid (HB9.out.trans (hba.mono HB9.out.size))
    have HPa := Lib.hid (HP9.out.below hba (Nat.le_refl _))
    have HQa := Lib.hid (HQ.out.below hba (Nat.le_refl _))
    have HNa := Lib.hid (HN9.out.below hba (Nat.le_refl _))
    have HFa := Lib.hid (HF9.out.below hba (Nat.le_refl _))
    have HYa := Lib.hid (HY9.out.below hba (Nat.le_refl _))
    have HGa := Lib.hid (HG9.out.below hba (Nat.le_refl _))
    have HRa := Lib.hid (HR9.out.below hba)
    clear hba hev z0 z1 z2 HCH HP9 HQ HN9 HF9 HY9 HG9 HR9 HB9
    obtain ⟨⟨z0, z1, z2⟩, _⟩ := tri_facts HPa.out
    obtain ⟨⟨y0, y1, y2⟩, _⟩ := tri_facts HQa.out
    go_wp2_with fail
    refine (refsameprocess_any A p.n c Y yc F p.m d G gd p wa HNa.out.row HYa.out.row HFa.out.row HGa.out.row (by omega) (by omega)).mono ?_
    rintro e wc ⟨rfl, hbc⟩
    have HBc := Lib.hid (HBa.out.trans (hbc.mono HBa.out.size))
    have HRc := Lib.hid (HRa.out.below hbc)
    clear hbc z0 z1 z2 y0 y1 y2 HPa HQa HNa HFa HYa HGa HRa HBa
    go_wp2_with fail
    refine (err_any HRc.out).mono ?_
    rintro e wd ⟨⟨ev, rfl, hev⟩, rfl⟩
    obtain rfl := seen_nil hev
    have htl : tl.length = tn := HTL.out.bytes.len
    clear hev
    go_wp2_with fail
    refine (left_any HRc.out).mono ?_
    rintro e wd ⟨rfl, rfl⟩
    rw [htl]
    go_wp2
    go_ret
    exact ⟨rfl, HBc.out⟩
  · rw [Bool.eq_false_iff.2 hl]
    go_wp2
    go_ret
    exact ⟨rfl, HB2.out⟩
end Go.Proofs.YtjababmmcejgdaaGreatDoor
