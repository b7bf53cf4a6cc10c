/- The document's Set of variables. -/
import Derived.Test.YthkgjdhbibialaaDoorSd
import Derived.Test.YthkgjdhbibialaaDoorSe
import Derived.Test.YthkgjdhbibialaaDoorVs
import Derived.Test.YthkgjdhbibialaaDoorVo
import Derived.Deep.DeepCutAuto
import Derived.Deep.RegionWith
import Derived.Deep.RegionLaw
namespace Go.Proofs.YthkgjdhbibialaaDoor
open Go.RowKit

set_option maxRecDepth 10000 in
set_option maxHeartbeats 8000000 in
theorem refset_any {w : World} (A : Option Addr) (n c : Nat) (l : List Vr.V) (C : Option Addr) (m cc : Nat) (more : List Vr.V) (hr : VRow w w.heap.size A n l) (hn : n ≤ 1000) (hm : VRow w w.heap.size C m more) (hmm : m ≤ 1000) (hv : ∀ v ∈ l, Vr.InV v) (hu : ∀ v ∈ more, Vr.InV v) :
    Calls Tryd.prog 13 #[.slice A n c, .slice C m cc] w fun e w' => ∃ A' n' c', e = .returned (.tuple #[.slice A' n' c', faultP (Vr.setV l more).2.1 (Vr.setV l more).2.2]) ∧ OwnVars w' w.heap.size 45 A' n' c' (Vr.setV l more).1 ∧ Below w.heap.size w w' := by
  have HL := Lib.hid hr.len
  have HM := Lib.hid hm.len
  have HV := Lib.hid hv
  have HU := Lib.hid hu
  clear hv hu
  obtain ⟨Z, hZ⟩ : ∃ Z, Z = w.alloc (.cells #[.int .i64 0, .bool false, .int .i64 0] 34) := ⟨_, rfl⟩
  have hb1 : Below w.heap.size w Z := by rw [hZ]; exact (Below.refl _ _).alloc (Nat.le_refl _) _
  have hzs : Z.heap.size = w.heap.size + 1 := by rw [hZ, World.size_alloc]
  have HD : Hid (∀ W', Below Z.heap.size Z W' → W'.cell? ⟨w.heap.size, 0, none⟩ = some (.int .i64 0) ∧ W'.cell? ⟨w.heap.size, 1, none⟩ = some (.bool false) ∧ W'.cell? ⟨w.heap.size, 2, none⟩ = some (.int .i64 0) ∧ W'.frozen? ⟨w.heap.size, 0, none⟩ = false ∧ W'.frozen? ⟨w.heap.size, 1, none⟩ = false ∧ W'.frozen? ⟨w.heap.size, 2, none⟩ = false) := fun W' h => by
    have hh := heap_alloc_new w (.cells #[.int .i64 0, .bool false, .int .i64 0] 34)
    rw [← hZ] at hh
    have hf : ∀ o, W'.frozen? ⟨w.heap.size, o, none⟩ = false := fun o => (h.frozen (p := ⟨w.heap.size, o, none⟩) (by show w.heap.size < _; omega)).trans (by unfold World.frozen?; rw [hh]; rfl)
    exact ⟨below_cells h (cell_of_row _ w.heap.size 0 _ _ (0, 0) hh), below_cells h (cell_of_row _ w.heap.size 1 _ _ (0, 0) hh), below_cells h (cell_of_row _ w.heap.size 2 _ _ (0, 0) hh), hf 0, hf 1, hf 2⟩
  have HZ := Lib.hid hZ
  clear hZ
  have HZS := Lib.hid hzs
  clear hzs
  have hrZ := hr.below hb1 (Nat.le_refl _)
  have hmZ := hm.below hb1 (Nat.le_refl _)
  obtain ⟨R, hR⟩ : ∃ R, R = Vr.setV l more := ⟨_, rfl⟩
  rw [← hR]
  have HR0 := Lib.hid hR
  clear hR
  have hC := refvars_any (w := Z) A n c l (hrZ.mono hb1.size) (by omega)
  go_enter Tryd.func13, Tryd.ntmps13
  go_wp2_with fail
  rw [← HZ.out]
  refine hC.mono ?_
  rintro e w1 ⟨A1, c1, rfl, ho1, hbZ1⟩
  clear hC
  go_wp2_with fail
  go_loopw [6, 7] (fun o i wr => ∃ k : Nat, k ≤ m ∧ i = .int .i64 k ∧ ∃ A2 n2 c2, o = .slice A2 n2 c2 ∧ OwnVars wr Z.heap.size 45 A2 n2 c2 (Vr.sets l (more.take k)) ∧ n2 ≤ n + k ∧ Below Z.heap.size Z wr ∧ Hid (∀ v ∈ Vr.sets l (more.take k), Vr.InV v)) (fun _ i _ => m - (intOf i).toNat)
  case atStart => exact ⟨0, Nat.zero_le _, rfl, A1, n, c1, rfl, by simpa [Vr.sets] using ho1, by omega, hbZ1, (show ∀ v ∈ Vr.sets l (more.take 0), Vr.InV v by simpa [Vr.sets] using HV.out)⟩
  case round =>
    obtain ⟨k, hk, rfl, A2, n2, c2, rfl, ho2, hn2, hbw, hall⟩ := hrel
    by_cases hkm : k < m
    · have hkl : k < more.length := by rw [HM.out]; exact hkm
      have hmr := hmZ.below hbw hb1.size
      obtain ⟨b, off, rfl, hbb, d0, d1, d2, d3⟩ := hmr.at_ hkm
      have HT := Lib.hid (show Vr.sets l (more.take (k + 1)) = Vr.setOne (Vr.sets l (more.take k)) more[k]! by rw [getElem!_pos more k hkl]; exact Vr.sets_take hkl)
      have HI := Lib.hid (show Vr.InV more[k]! by rw [getElem!_pos more k hkl]; exact HU.out _ (List.getElem_mem hkl))
      generalize more[k]! = v at *
      obtain ⟨O, hO⟩ : ∃ O, O = Vr.sets l (more.take k) := ⟨_, rfl⟩
      rw [← hO] at ho2 HT hall
      clear hO hmr
      have HOL := Lib.hid ho2.len
      have hk0 : (0 : Int) ≤ (k : Int) := by omega
      have hkI : (k : Int) < (m : Int) := by omega
      go_wp2_with fail
      go_loopw [8, 9] (fun a q wx => ∃ t : Nat, t ≤ n2 ∧ q = .int .i64 t ∧ ∃ x : Int, a = .int .i64 x ∧ -1 ≤ x ∧ Hid ((x = -1 ∧ ∀ j, j < t → Vr.named v.name O[j]! = false) ∨ (0 ≤ x ∧ Vr.idx (Vr.named v.name) O = x)) ∧ Below wr.heap.size wr wx) (fun _ q _ => n2 - (intOf q).toNat)
      case atStart => exact ⟨0, Nat.zero_le _, rfl, -1, rfl, by omega, .inl ⟨rfl, fun j h => absurd h (Nat.not_lt_zero j)⟩, Below.refl _ _⟩
      case round =>
        obtain ⟨t, ht, rfl, x, rfl, hx1, hor, hbx⟩ := hrel
        by_cases hx : 0 ≤ x
        · have hix : Vr.idx (Vr.named v.name) O = x := by
            rcases hor.out with ⟨h, _⟩ | ⟨_, h⟩
            · omega
            · exact h
          rcases Vr.idx_cases (Vr.named v.name) O with ⟨hi, _⟩ | ⟨p, hi, hp, _⟩
          · omega
          · obtain rfl : x = (p : Int) := by omega
            have HS := Lib.hid (HT.out.trans (Vr.setOne_named hi))
            have hpn : p < n2 := by rw [← HOL.out]; exact hp
            have hxx : ¬ ((p : Int) < 0) := by omega
            have hxd : decide ((p : Int) < 0) = false := decide_eq_false hxx
            have ho3 := ho2.below hbx (Nat.le_refl _)
            have hbw3 := hbw.trans (hbx.mono hbw.size)
            obtain ⟨g, cur, rfl, hbg, hh, hnc, hcm, hcs, hct⟩ := own_block ho3 (by omega)
            obtain ⟨c0, c1', c2', c3⟩ := ho3.row.of hpn
            rw [Nat.zero_add] at c0 c1' c2' c3
            have f0 := ownv_frozen ho3 (p * 4)
            have f1 := ownv_frozen ho3 (p * 4 + 1)
            have f2 := ownv_frozen ho3 (p * 4 + 2)
            have f3 := ownv_frozen ho3 (p * 4 + 3)
            have d0 := below_cells hbx d0
            have d1 := below_cells hbx d1
            have d2 := below_cells hbx d2
            have d3 := below_cells hbx d3
            have hset := Lib.hid (ownv_set ho3 (k := p) hp v)
            have hgb : b ≠ g := by have := hbx.size; have := hb1.size; omega
            have HA2 : Hid (∀ u ∈ Vr.sets l (more.take (k + 1)), Vr.InV u) := by show ∀ u ∈ _, _; rw [HT.out]; exact Vr.setOne_all hall.out HI.out
            have hp0 : (0 : Int) ≤ (p : Int) := by omega
            have hpI : (p : Int) < (n2 : Int) := by omega
            have HBX := Lib.hid hbw3
            clear hh hnc hcm hcs hct hor hix hi hx1 hx hbx hbw ho2 ho3 HT hbw3
            by_cases htn : t < n2
            · have htI : (t : Int) < (n2 : Int) := by omega
              go_wp2_with fail
              go_roundw
              case measure => simp [intOf]; omega
              case rel => exact ⟨k + 1, by omega, by go_num, _, _, _, rfl, by rw [HS.out]; exact hset.out, by omega, (((HBX.out.setCell hbg _).setCell hbg _).setCell hbg _).setCell hbg _, HA2⟩
            · obtain rfl : t = n2 := by omega
              go_wp2_with fail
              go_roundw
              case measure => simp [intOf]; omega
              case rel => exact ⟨k + 1, by omega, by go_num, _, _, _, rfl, by rw [HS.out]; exact hset.out, by omega, (((HBX.out.setCell hbg _).setCell hbg _).setCell hbg _).setCell hbg _, HA2⟩
        · obtain rfl : x = -1 := by omega
          have hno : Hid (∀ j, j < t → Vr.named v.name O[j]! = false) := by
            rcases hor.out with ⟨_, h⟩ | ⟨h, _⟩
            · exact h
            · omega
          clear hor hx hx1
          by_cases htn : t < n2
          · obtain ⟨g, og, rfl, hbg, e0, e1, e2, e3⟩ := (ho2.below hbx (Nat.le_refl _)).row.at_ htn
            have d0x := below_cells hbx d0
            have hq := Vr.eq_of O[t]!.name v.name
            have HH := Lib.hid (fun h => Vr.idx_hit (p := Vr.named v.name) (show t < O.length by rw [HOL.out]; exact htn) h hno.out)
            have HN : Hid (Vr.named v.name O[t]! = false → ∀ j, j < t + 1 → Vr.named v.name O[j]! = false) := fun h j hj => by
              by_cases e : j = t
              · subst e; exact h
              · exact hno.out j (by omega)
            have HE : Hid (Vr.named v.name O[t]! = decide (O[t]!.name = v.name)) := rfl
            generalize O[t]!.name = s at *
            clear e1 e2 e3 d1 d2 d3
            have ht0 : (0 : Int) ≤ (t : Int) := by omega
            have htI : (t : Int) < (n2 : Int) := by omega
            by_cases he : s = v.name
            · rw [decide_eq_true he] at hq
              have hh := HH.out (HE.out.trans (decide_eq_true he))
              have HHH := Lib.hid hh
              clear hh HH HN HE hno he
              go_wp2_with fail
              go_quiet (fail)
              go_wp2
              go_roundw
              case measure => simp [intOf]; omega
              case rel => exact ⟨t + 1, by omega, by go_num, t, rfl, by omega, .inr ⟨by omega, HHH.out⟩, below_drewN hbx _⟩
            · rw [decide_eq_false he] at hq
              have hh := HN.out (HE.out.trans (decide_eq_false he))
              have HHH := Lib.hid hh
              clear hh HH HN HE hno he
              go_wp2_with fail
              go_quiet (fail)
              go_wp2
              go_roundw
              case measure => simp [intOf]; omega
              case rel => exact ⟨t + 1, by omega, by go_num, -1, rfl, by omega, .inl ⟨rfl, HHH.out⟩, below_drewN hbx _⟩
          · obtain rfl : t = n2 := by omega
            have hi : Vr.idx (Vr.named v.name) O = -1 := Vr.idx_miss fun j hj => hno.out j (by rw [← HOL.out]; exact hj)
            have HS := Lib.hid (HT.out.trans (Vr.setOne_not hi))
            have HA2 : Hid (∀ u ∈ Vr.sets l (more.take (k + 1)), Vr.InV u) := by show ∀ u ∈ _, _; rw [HT.out]; exact Vr.setOne_all hall.out HI.out
            have ho3 := ho2.below hbx (Nat.le_refl _)
            have hbw3 := hbw.trans (hbx.mono hbw.size)
            have d0 := below_cells hbx d0
            have d1 := below_cells hbx d1
            have d2 := below_cells hbx d2
            have d3 := below_cells hbx d3
            have hbb' : b < wr.heap.size := by have := hbx.size; have := hbw.size; have := hb1.size; omega
            clear hno hi HT hbx hbw ho2 hall HI hbb
            go_wp2_with fail
            go_loopw [10] (fun q wy => ∃ s : Nat, s ≤ t ∧ q = .int .i64 s ∧ Hid (∀ j, j < s → Vr.behind v.name O[j]! = false) ∧ Below wr.heap.size wr wy) (fun q _ => t - (intOf q).toNat)
            case atStart => exact ⟨0, Nat.zero_le _, rfl, fun j h => absurd h (Nat.not_lt_zero j), Below.refl _ _⟩
            case round =>
              obtain ⟨s, hs, rfl, hnb, hby⟩ := hrel
              have hs0 : (0 : Int) ≤ (s : Int) := by omega
              by_cases hgo : s < t ∧ Vr.behind v.name O[s]! = false
              · obtain ⟨hst, hbh⟩ := hgo
                obtain ⟨g, og, rfl, hbg, e0, e1, e2, e3⟩ := (ho3.below hby (Nat.le_refl _)).row.at_ hst
                have d0x := below_cells hby d0
                have hl : Vr.lss v.name O[s]!.name = false := hbh
                have hlq := Vr.leq_of O[s]!.name v.name
                rw [hl] at hlq
                have hlq : (Op.bytesLess O[s]!.name.toList v.name.toList || O[s]!.name.toList == v.name.toList) = true := hlq
                have HN : Hid (∀ j, j < s + 1 → Vr.behind v.name O[j]! = false) := fun j hj => by
                  by_cases e : j = s
                  · subst e; exact hbh
                  · exact hnb.out j (by omega)
                have hsI : (s : Int) < (t : Int) := by omega
                clear hl hbh e1 e2 e3 d1 d2 d3 hnb
                generalize O[s]!.name = nm at *
                go_upto_region 14 with (fail)
                go_quiet (fail)
                go_wp2
                go_roundw
                case measure => simp [intOf]; omega
                case rel => exact ⟨s + 1, by omega, by go_num, HN, below_drewN hby _⟩
              · have hbh : s < t → Vr.lss v.name O[s]!.name = true := fun h => by
                  cases hq : Vr.lss v.name O[s]!.name with
                  | true => rfl
                  | false => exact absurd ⟨h, hq⟩ hgo
                have hpl : Vr.place O v.name = s := by
                  unfold Vr.place
                  by_cases hst : s < t
                  · rw [Vr.idx_hit (p := Vr.behind v.name) (show s < O.length by rw [HOL.out]; exact hst) (hbh hst) hnb.out, if_neg (by omega)]
                    simp
                  · obtain rfl : s = t := by omega
                    rw [Vr.idx_miss (p := Vr.behind v.name) (fun j hj => hnb.out j (by rw [← HOL.out]; exact hj)), if_pos (by omega)]
                    exact HOL.out
                have HPL := Lib.hid hpl
                have ho4 := ho3.below hby (Nat.le_refl _)
                have hbw4 := hbw3.trans (hby.mono hbw3.size)
                have d0 := below_cells hby d0
                have d1 := below_cells hby d1
                have d2 := below_cells hby d2
                have d3 := below_cells hby d3
                have hbb2 : b < wr.heap.size := by have := hby.size; omega
                clear hgo hnb hpl hby hbw3 ho3 hbb'
                go_upto_region 14 with (fail)
                go_cut [68] from 52 to 70 (fun s68 wz => s68 = .bool false ∧ Below wr.heap.size wr wz)
                case first =>
                  by_cases hst : s < t
                  · obtain ⟨g, og, rfl, hbg, e0, e1, e2, e3⟩ := ho4.row.at_ hst
                    have hl := hbh hst
                    have hlq := Vr.leq_of O[s]!.name v.name
                    rw [hl] at hlq
                    have hlq : (Op.bytesLess O[s]!.name.toList v.name.toList || O[s]!.name.toList == v.name.toList) = false := hlq
                    have hsI : (s : Int) < (t : Int) := by omega
                    clear hl hbh e1 e2 e3 d1 d2 d3
                    generalize O[s]!.name = nm at *
                    go_quiet (fail)
                    go_wp2_with fail
                    go_meet
                    exact ⟨rfl, below_drewN (Below.refl _ _) _⟩
                  · obtain rfl : s = t := by omega
                    clear hbh
                    go_quiet (fail)
                    go_wp2_with fail
                    go_meet
                    exact ⟨rfl, below_drewN (Below.refl _ _) _⟩
                case rest =>
                  obtain ⟨rfl, hbz⟩ := hcut
                  generalize wc = wz at *
                  have ho5 := ho4.below hbz (Nat.le_refl _)
                  have hbw5 := hbw4.trans (hbz.mono hbw4.size)
                  have d0 := below_cells hbz d0
                  have d1 := below_cells hbz d1
                  have d2 := below_cells hbz d2
                  have d3 := below_cells hbz d3
                  have hbb3 : b < wz.heap.size := by have := hbz.size; omega
                  have hcap := ho5.cap
                  have hmost := ho5.most
                  unfold maxLen at hmost
                  clear hbz ho4 hbw4 hbb2 hbh
                  have HV5 := Lib.hid (fun W (hW : Below wz.heap.size wz W) => refvars_any (w := W) A2 s c2 (O.take s) (((ho5.row.take hs).below hW (Nat.le_refl _)).mono hW.size) (by omega))
                  go_upto_region 16 with (fail)
                  go_cut [11] from 71 to 85 (fun s11 wq => ∃ A4 c4, s11 = .slice A4 (s + 1) c4 ∧ OwnVars wq wz.heap.size 45 A4 (s + 1) c4 (O.take s ++ [v]) ∧ Below wz.heap.size wz wq)
                  case first =>
                    have hsc : (s : Int) ≤ (c2 : Int) := by omega
                    go_region_law (first
                      | (go_simp; go_at_call 22; refine (HV5.out _ (by first | exact (Below.refl _ _).drew | exact ((Below.refl _ _).alloc (Nat.le_refl _) _).drew | exact (Below.refl _ _).drew.alloc (Nat.le_refl _) _)).mono ?_; rintro e wq ⟨A3, c3, rfl, ho3, hbq⟩; have hB : Below wz.heap.size wz wq := (by first | exact (Below.refl _ _).drew.trans (hbq.mono (by simp)) | exact ((Below.refl _ _).alloc (Nat.le_refl _) _).drew.trans (hbq.mono (by simp)) | exact ((Below.refl _ _).drew.alloc (Nat.le_refl _) _).trans (hbq.mono (by simp))); have o3 := ho3.lower (base' := wz.heap.size) (by simp); have d0 := below_cells hB d0; have d1 := below_cells hB d1; have d2 := below_cells hB d2; have d3 := below_cells hB d3; first | (have hrw : VRow wq (wz.heap.size + 1) (some ⟨wz.heap.size, 0, none⟩) 1 [v] := (by first | exact (varRow_lit wz v).drew.below hbq (by simp) | exact (varRow_lit wz.drew v).below hbq (by simp))) | skip)
                      | (refine step_append_var rfl (.tmp 74) (.tmp 79) rfl _ wz.heap.size (wz.heap.size + 1) A3 s c3 (O.take s) ⟨wz.heap.size, 0, none⟩ v rfl o3 rfl hrw (by omega) hB.size ?_; intro A4 c4 w8 ho8 hb8; have hb9 := hB.trans hb8)
                      | (refine step_append_var rfl (.tmp 74) (.tmp 79) rfl _ wz.heap.size (wq.heap.size + 1) A3 s c3 (O.take s) ⟨wq.heap.size, 0, none⟩ v rfl (o3.below ((Below.refl _ _).alloc (Nat.le_refl _) _) (Nat.le_refl _)) rfl (varRow_lit wq v) (by omega) (Nat.le_trans hB.size (by simp)) ?_; intro A4 c4 w8 ho8 hb8; have hb9 := (hB.alloc hB.size (.cells #[.string v.name, .int .i64 v.kind, .int .i64 v.num, .string v.text] 45)).trans hb8))
                    all_goals
                      go_wp2_with fail
                      go_meet
                      exact ⟨A4, c4, rfl, ho8, hb9⟩
                  case rest =>
                    obtain ⟨A4, c4, rfl, ho6, hb6⟩ := hcut
                    generalize wc = w6 at *
                    have ho7 := ho5.below hb6 (Nat.le_refl _)
                    have hbw6 := hbw5.trans (hb6.mono hbw5.size)
                    have ho6 := ho6.lower hbw5.size
                    have hform : (A2 = none ∧ t = 0 ∧ c2 = 0) ∨ ∃ g, A2 = some ⟨g, 0, none⟩ := by
                      rcases ho7.2 with ⟨hv, _⟩ | ⟨g, cap, cur, hv, _⟩
                      · injection hv with h1 h2 h3
                        exact .inl ⟨h1, h2, h3⟩
                      · injection hv with h1
                        exact .inr ⟨g, h1⟩
                    have hdr := ho7.row
                    clear hb6 ho5 hbw5 HV5 d0 d1 d2 d3 ho7
                    rcases hform with ⟨rfl, rfl, rfl⟩ | ⟨g, rfl⟩
                    · obtain rfl : s = 0 := by omega
                      have hO : O = [] := List.eq_nil_of_length_eq_zero HOL.out
                      go_wp2_with (at_builtin; refine append_vars rfl (.tmp 81) (.tmp 84) rfl _ Z.heap.size w6.heap.size A4 _ c4 (O.take 0 ++ [v]) _ _ _ (O.drop 0) rfl ho6 rfl (fun _ => ⟨rfl, rfl⟩) ?hr ?h1 ?h2 hbw6.size ?_)
                      case h1 => omega
                      case h2 => omega
                      case hr => rw [hO]; exact VRow.nil _ _ _
                      intro A5 c5 w7 ho8 hg
                      have hL : Vr.sets l (more.take (k + 1)) = [v] := by rw [HS.out, HPL.out, hO]; rfl
                      rw [← hL] at ho8
                      have hfin := ho8
                      have hbw7 := below_grew hbw6 hg ho6 (Nat.le_refl _)
                      clear ho8 hg HS HPL hL
                      go_wp2
                      go_roundw
                      case measure => simp [intOf]; omega
                      case rel => exact ⟨k + 1, by omega, by go_num, _, _, _, rfl, hfin, by omega, hbw7, HA2⟩
                    · by_cases hcs : c2 = s
                      · obtain rfl : t = s := by omega
                        subst hcs
                        have hO : O.drop c2 = [] := List.eq_nil_of_length_eq_zero (by rw [List.length_drop, HOL.out]; omega)
                        go_wp2_with (at_builtin; refine append_vars rfl (.tmp 81) (.tmp 84) rfl _ Z.heap.size w6.heap.size A4 (c2 + 1) c4 (O.take c2 ++ [v]) _ _ _ (O.drop c2) rfl ho6 rfl (fun h => by cases h) ?hr (by omega) ?hm hbw6.size ?_)
                        case hm => omega
                        case hr => rw [hO]; simpa using VRow.nil _ _ _
                        intro A5 c5 w7 ho8 hg
                        have hL : Vr.sets l (more.take (k + 1)) = O.take c2 ++ [v] := by rw [HS.out, HPL.out, hO]
                        rw [← hL] at ho8
                        have hfin := ho8
                        have hbw7 := below_grew hbw6 hg ho6 (Nat.le_refl _)
                        clear ho8 hg HS HPL hL
                        go_wp2
                        go_roundw
                        case measure => simp [intOf]; omega
                        case rel => exact ⟨k + 1, by omega, by go_num, _, _, _, rfl, hfin, by omega, hbw7, HA2⟩
                      · have hdr := hdr.drop hs
                        go_wp2_with (at_builtin; refine append_vars rfl (.tmp 81) (.tmp 84) rfl _ Z.heap.size w6.heap.size A4 (s + 1) c4 (O.take s ++ [v]) _ _ _ (O.drop s) rfl ho6 rfl (fun h => by cases h) ?hr (by omega) ?hm hbw6.size ?_)
                        case hm => omega
                        case hr => simpa using hdr
                        intro A5 c5 w7 ho8 hg
                        have hL : Vr.sets l (more.take (k + 1)) = O.take s ++ v :: O.drop s := by rw [HS.out, HPL.out]
                        rw [← hL] at ho8
                        have hfin := ho8
                        have hbw7 := below_grew hbw6 hg ho6 (Nat.le_refl _)
                        clear ho8 hg HS HPL hL
                        go_wp2
                        go_roundw
                        case measure => simp [intOf]; omega
                        case rel => exact ⟨k + 1, by omega, by go_num, _, _, _, rfl, hfin, by omega, hbw7, HA2⟩
    · obtain rfl : k = m := by omega
      have HR := Lib.hid (show more.take k = more from List.take_of_length_le (by rw [HM.out]; omega))
      rw [HR.out] at ho2 hall
      clear HR
      have hK := refcheck_any A2 n2 c2 (Vr.sets l more) ho2.row (by omega) hall.out
      have hb := hb1.trans (hbw.mono hb1.size)
      have HS := Lib.hid (show (if (Vr.check (Vr.sets l more)).1 = 0 then (Vr.sets l more, 0, none) else ([], Vr.check (Vr.sets l more))) = R from HR0.out.symm)
      have hcp := @Vr.check_pos (Vr.sets l more)
      generalize Vr.sets l more = S at *
      clear HR0 hall
      by_cases h0 : (Vr.check S).1 = 0
      · have HS := HS.out
        rw [if_pos h0] at HS
        subst HS
        rw [h0, hcp h0, faultP_none] at hK
        clear hcp h0
        unfold faultV at hK
        go_wp2_with fail
        refine hK.mono ?_
        rintro e w5 ⟨rfl, hb5⟩
        have hbw5 := hbw.trans (hb5.mono hbw.size)
        have ho5 := ho2.below hb5 (Nat.le_refl _)
        have hbW5 := hb.trans (hb5.mono hb.size)
        clear hK hb5 ho2 hbw hb
        have hal : Below w5.heap.size w5 (w5.alloc (.cells #[.int .i64 0, .bool false, .int .i64 0] 34)) := (Below.refl _ _).alloc (Nat.le_refl _) _
        have hh := heap_alloc_new w5 (.cells #[.int .i64 0, .bool false, .int .i64 0] 34)
        have q0 := cell_of_row _ w5.heap.size 0 _ _ (0, 0) hh
        have q1 := cell_of_row _ w5.heap.size 1 _ _ (0, 0) hh
        have q2 := cell_of_row _ w5.heap.size 2 _ _ (0, 0) hh
        have q0 : World.cell? _ _ = some (.int .i64 0) := q0
        have q1 : World.cell? _ _ = some (.bool false) := q1
        have q2 : World.cell? _ _ = some (.int .i64 0) := q2
        obtain ⟨y0, y1, y2, z0, z1, z2⟩ := HD.out _ (hbw5.trans (hal.mono hbw5.size))
        have ho6 := ho5.below hal (Nat.le_refl _)
        have hbW6 := hbW5.trans (hal.mono hbW5.size)
        go_upto_if 90 with (fail)
        generalize w5.alloc (.cells #[.int .i64 0, .bool false, .int .i64 0] 34) = w6 at *
        have hne : w5.heap.size ≠ w.heap.size := by have := hbw5.size; have := HZS.out; omega
        clear hh hal hbw5 ho5 hbW5
        have HW6 := Lib.hid hbW6
        have HO6 := Lib.hid ho6
        clear hbW6 ho6
        go_wp2_with fail
        go_region
        go_wp2
        refine bodyPost_ret (v := .tuple #[.slice A2 n2 c2, .agg #[.int .i64 0, .bool false, .int .i64 0]]) (by simp [results, Tryd.results13, go_sem, y0, y1, y2]) rfl ⟨_, _, _, rfl, ?_, ?_⟩
        · exact (((HO6.out.other (by rw [HZS.out]; exact Nat.lt_succ_self _) _).other (by rw [HZS.out]; exact Nat.lt_succ_self _) _).other (by rw [HZS.out]; exact Nat.lt_succ_self _) _).lower (by rw [HZS.out]; exact Nat.le_succ _)
        · exact ((HW6.out.drew.setCell (Nat.le_refl _) _).setCell (Nat.le_refl _) _).setCell (Nat.le_refl _) _
      · have HS := HS.out
        rw [if_neg h0] at HS
        subst HS
        clear hcp
        obtain ⟨x, o, hck⟩ : ∃ x o, Vr.check S = (x, o) := ⟨_, _, rfl⟩
        have HCK := Lib.hid hck
        rw [hck] at h0 hK
        clear hck
        dsimp only at h0 hK
        unfold faultP at hK
        have hx : (x == 0) = false := by simpa using h0
        obtain ⟨pl, hpl⟩ : ∃ pl, pl = o.isSome := ⟨_, rfl⟩
        obtain ⟨ps, hps⟩ : ∃ ps : Int, ps = ((o.getD 0 : Nat) : Int) := ⟨_, rfl⟩
        rw [← hpl, ← hps] at hK
        have HPL := Lib.hid hpl
        have HPS := Lib.hid hps
        unfold faultV at hK
        clear h0 hpl hps
        go_wp2_with fail
        refine hK.mono ?_
        rintro e w5 ⟨rfl, hb5⟩
        have hbw5 := hbw.trans (hb5.mono hbw.size)
        have ho5 := ho2.below hb5 (Nat.le_refl _)
        have hbW5 := hb.trans (hb5.mono hb.size)
        clear hK hb5 ho2 hbw hb
        have hal : Below w5.heap.size w5 (w5.alloc (.cells #[.int .i64 x, .bool pl, .int .i64 ps] 34)) := (Below.refl _ _).alloc (Nat.le_refl _) _
        have hh := heap_alloc_new w5 (.cells #[.int .i64 x, .bool pl, .int .i64 ps] 34)
        have q0 := cell_of_row _ w5.heap.size 0 _ _ (0, 0) hh
        have q1 := cell_of_row _ w5.heap.size 1 _ _ (0, 0) hh
        have q2 := cell_of_row _ w5.heap.size 2 _ _ (0, 0) hh
        have q0 : World.cell? _ _ = some (.int .i64 x) := q0
        have q1 : World.cell? _ _ = some (.bool pl) := q1
        have q2 : World.cell? _ _ = some (.int .i64 ps) := q2
        obtain ⟨y0, y1, y2, z0, z1, z2⟩ := HD.out _ (hbw5.trans (hal.mono hbw5.size))
        have ho6 := ho5.below hal (Nat.le_refl _)
        have hbW6 := hbW5.trans (hal.mono hbW5.size)
        go_upto_if 90 with (fail)
        generalize w5.alloc (.cells #[.int .i64 x, .bool pl, .int .i64 ps] 34) = w6 at *
        have hne : w5.heap.size ≠ w.heap.size := by have := hbw5.size; have := HZS.out; omega
        clear hh hal hbw5 ho5 hbW5
        have HW6 := Lib.hid hbW6
        have HO6 := Lib.hid ho6
        clear hbW6 ho6
        go_wp2_with fail
        go_region
        go_wp2
        refine bodyPost_ret (v := .tuple #[.slice none 0 0, .agg #[.int .i64 x, .bool pl, .int .i64 ps]]) (by simp [results, Tryd.results13, go_sem, y0, y1, y2]) rfl ⟨_, _, _, by rw [HPL.out, HPS.out, HCK.out]; rfl, ?_, ?_⟩
        · exact World.ownsRow_nil _ _ _ _
        · exact ((HW6.out.drew.setCell (Nat.le_refl _) _).setCell (Nat.le_refl _) _).setCell (Nat.le_refl _) _
end Go.Proofs.YthkgjdhbibialaaDoor
