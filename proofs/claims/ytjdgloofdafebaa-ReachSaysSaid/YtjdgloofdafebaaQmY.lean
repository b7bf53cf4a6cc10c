/- Package reach: ordered. -/
import Derived.Test.YtjdgloofdafebaaQlY
namespace Go.Proofs.Ytjdgloofdafebaa
open Go.RowKit

namespace Pr
theorem info_places : (Try.prog.info? 67).map (fun i => (i.zero, i.size, i.bytes)) = some (some (.agg #[.slice none 0 0]), 1, 24) := by kernel_rfl
def OrdOut (n : Nat) (L : Nat → List Nat) (w : World) (e : Ending) (w' : World) : Prop :=
  ((Rc.ord n L).length = n ∧ (∃ (X : Option Addr) (cc : Nat), e = .returned (.tuple #[.slice X n cc, .bool true]) ∧ OwnK iκ w' w.heap.size 3 X n cc ((Rc.ord n L).map Int.ofNat)) ∨
    (Rc.ord n L).length < n ∧ e = .returned (.tuple #[.slice none 0 0, .bool false])) ∧ Below w.heap.size w w'
set_option maxHeartbeats 6400000 in
set_option maxRecDepth 10000 in
theorem ordered_any (nb B B' n : Nat) (L : Nat → List Nat) (w : World) (hN : NX w nb B B' n L) (hB : B' ≤ w.heap.size) (hn : n ≤ 100000) (hlen : ∀ u, (L u).length ≤ 100000) (hL : ∀ u v, v ∈ L u → v < n) :
    Calls Try.prog 30 #[.slice (some ⟨nb, 0, none⟩) n n] w (OrdOut n L w) := by
  obtain ⟨i0, hi0, hz0, hz1, hz2⟩ := info_parts info_int
  have HN := Lib.hid hN
  have hnbl : nb < w.heap.size := by obtain ⟨X, c, hc, _⟩ := hN.ex; exact hc.lt
  clear hN
  go_enter Try.func30, Try.ntmps30
  go_upto_region 2 with (at_make; refine wpList_make_full _ rfl (.tmp 17) (.tmp 17) 26 rfl w.heap.size 3 i0 _ 1 Try.underlying26 hi0 hz0 hz1 .i64 .i64 _ _ n rfl rfl rfl rfl (by rw [hz2]; omega) (by unfold maxLen; omega) (Nat.le_refl _) ?_; intro w1 ho1 hg1)
  have hY := own_cel ho1
  rw [made_one _ rfl] at hY
  have hKO : Hid (∃ R rc, KO w w1 nb w.heap.size B n L R rc (Rc.cntN L 0)) := by
    obtain ⟨R, rc, hr⟩ := (HN.out.kept hg1 (by simp) (fun g hg => by cases hg)).nr
    exact ⟨R, rc, ⟨⟨hr.low, hr.cel, fun i hi => ⟨(hr.own i hi).1, fun a ha => by have := (hr.own i hi).2 a ha; omega⟩⟩, hY, (Below.refl w.heap.size w).grown hg1 (Nat.le_refl _) (fun k hk => by cases hk), hnbl, Nat.le_refl _⟩⟩
  obtain ⟨R, rc, hk⟩ := hKO.out
  have HK := Lib.hid hk
  have HLT := Lib.hid hL
  have HLE := Lib.hid hlen
  clear hKO hk hg1 hY ho1 HN hL hlen
  go_wp2_with fail
  go_loopw [21] (fun k wr => ∃ j : Nat, j ≤ n ∧ k = .int .i64 j ∧ KO w wr nb w.heap.size B n L R rc (Rc.cntN L j)) (fun k _ => n - (intOf k).toNat)
  case atStart => exact ⟨0, Nat.zero_le _, rfl, HK.out⟩
  case round =>
    obtain ⟨j, hj, rfl, hk⟩ := hrel
    have hj0 : (0 : Int) ≤ (j : Int) := by omega
    have HKr := Lib.hid hk
    clear hk HK
    by_cases hlt : j < n
    · have hI : (j : Int) < (n : Int) := by omega
      have r1 := HKr.out.rows.cel.cell j (.slice (R j) (L j).length (rc j)) (by rw [List.getElem?_map, List.getElem?_range hlt]; rfl)
      have hlL := HLE.out j
      go_wp2_with fail
      clear r1
      generalize hRu : R j = Ru at *
      have HRU := Lib.hid hRu
      clear hRu
      generalize rc j = ru at *
      go_loopw [27] (fun i wr' => ∃ t : Nat, t ≤ (L j).length ∧ i = .int .i64 t ∧ KO w wr' nb w.heap.size B n L R rc (fun v => Rc.cntN L j v + ((L j).take t).count v)) (fun i _ => (L j).length - (intOf i).toNat)
      case atStart => exact ⟨0, Nat.zero_le _, rfl, by simpa using HKr.out⟩
      case round =>
        obtain ⟨t, htl, rfl, hk⟩ := hrel
        have ht0 : (0 : Int) ≤ (t : Int) := by omega
        have HKs := Lib.hid hk
        clear hk HKr
        by_cases htt : t < (L j).length
        · have hIt : (t : Int) < ((L j).length : Int) := by omega
          have hrow := (HKs.out.rows.own j hlt).1.row
          rw [HRU.out] at hrow
          obtain ⟨b2, off2, rfl, _, _⟩ := hrow.2 (by omega)
          have g1 := iκ_cells hrow htt
          have hgt : ((L j).map Int.ofNat)[t]! = ((L j)[t] : Int) := by
            rw [getElem!_pos ((L j).map Int.ofNat) t (by simpa using htt)]; simp
          rw [hgt] at g1
          have hvn := HLT.out j _ (List.getElem_mem htt)
          have hvt : (L j)[t]? = some (L j)[t] := List.getElem?_eq_getElem htt
          have hcb : Rc.cntN L j (L j)[t] ≤ j * 100000 := Rc.cntN_le 100000 HLE.out j _
          have hcb2 : ((L j).take t).count (L j)[t] ≤ t := Nat.le_trans List.count_le_length (by rw [List.length_take]; omega)
          generalize (L j)[t] = v at *
          have hv0 : (0 : Int) ≤ (v : Int) := by omega
          have hvI : (v : Int) < (n : Int) := by omega
          have y1 := HKs.out.ways.cell v _ (wv_at _ hvn)
          have y2 := HKs.out.ways.froz v (by unfold wv; simpa using hvn)
          obtain ⟨z, hz⟩ : ∃ z : Nat, Rc.cntN L j v + ((L j).take t).count v = z := ⟨_, rfl⟩
          have HS := Lib.hid (HKs.out.set hvn (z + 1))
          have hzb : z ≤ 20000000000 := by
            have := Nat.mul_le_mul_right 100000 (show j ≤ 100000 by omega)
            omega
          rw [hz] at y1
          have HFN : Hid ((fun i => if i = v then z + 1 else Rc.cntN L j i + ((L j).take t).count i) = fun i => Rc.cntN L j i + ((L j).take (t + 1)).count i) := by
            show _ = _
            funext i
            rw [Rc.cnt_take hvt]
            by_cases e : i = v
            · subst e; simp; omega
            · simp [e]
          have hw : IntKind.i64.wrap ((z : Int) + 1) = (z : Int) + 1 := by rw [IntKind.wrap_i64]; omega
          have hsp : ((z + 1 : Nat) : Int) = (z : Int) + 1 := by omega
          rw [hsp] at HS
          have hz0 : (0 : Int) ≤ (z : Int) := by omega
          have hz9 : (z : Int) ≤ 20000000000 := by omega
          clear hgt hrow hvt hcb hcb2 hz hsp hzb
          go_wp2_with fail
          go_roundw
          case measure => simp [intOf]; omega
          case rel => exact ⟨t + 1, by omega, by go_num, by rw [← HFN.out]; exact HS.out⟩
        · obtain rfl : t = (L j).length := by omega
          have hIt : ¬ (((L j).length : Nat) : Int) < ((L j).length : Int) := by omega
          have HFN : Hid ((fun v => Rc.cntN L j v + ((L j).take (L j).length).count v) = Rc.cntN L (j + 1)) := by
            show _ = _
            funext v
            rw [Rc.cntN_succ, List.take_length]
          go_wp2_with fail
          go_roundw
          case measure => simp [intOf]; omega
          case rel => exact ⟨j + 1, by omega, by go_num, by rw [← HFN.out]; exact HKs.out⟩
    · obtain rfl : j = n := by omega
      have hI : ¬ ((j : Nat) : Int) < (j : Int) := by omega
      have hPN := Rc.pend_nil j L
      have HKn := Lib.hid HKr.out
      rw [← hPN] at HKn
      clear hPN HKr
      go_upto_region 12 with (fail)
      have hyl := HKn.out.ways.lt
      have hba : Below wr.heap.size wr (wr.alloc (.cells #[.slice none 0 0] 67)) := (Below.refl _ _).alloc (Nat.le_refl _) _
      have hcq := Cel.lit wr #[.slice none 0 0] 67
      obtain ⟨hq, hhq⟩ : ∃ hq, hq = wr.heap.size := ⟨_, rfl⟩
      have hKP : KP w (wr.alloc (.cells #[.slice none 0 0] 67)) nb w.heap.size hq B j L R rc (Rc.pend j L []) none 0 0 [] none 0 [] := by
        subst hhq
        exact ⟨HKn.out.below hba, ⟨hcq, ⟨by decide, World.ownsRow_nil _ _ _ _⟩, fun a ha => by cases ha⟩, ⟨by decide, World.ownsRow_nil _ _ _ _⟩, (fun a b ha => by cases ha), hyl⟩
      rw [← hhq]
      have HKP := Lib.hid hKP
      clear hba hcq hKP HKn hyl hhq
      generalize wr.alloc _ = wq at *
      go_wp2_with fail
      go_loopw [41] (fun k wx => ∃ (jj : Nat) (A : Option Addr) (m c : Nat) (C : List Nat), jj ≤ j ∧ k = .int .i64 jj ∧ KP w wx nb w.heap.size hq B j L R rc (Rc.pend j L []) A m c C none 0 [] ∧ Rc.Hp C ∧ C.Perm ((List.range jj).filter fun v => Rc.pend j L [] v == 0)) (fun k _ => j - (intOf k).toNat)
      case atStart => exact ⟨0, none, 0, 0, [], Nat.zero_le _, rfl, HKP.out, (fun k _ h => by simp at h), .refl _⟩
      case round =>
        obtain ⟨jj, A, m, c, C, hjj, rfl, hkp, hhp, hpm⟩ := hrel
        have hjj0 : (0 : Int) ≤ (jj : Int) := by omega
        have hlC : m ≤ jj := by
          have h1 := hpm.length_eq
          have h2 := List.length_filter_le (fun v => Rc.pend j L [] v == 0) (List.range jj)
          rw [List.length_range] at h2
          have h3 := hkp.pl.len
          omega
        have HKr := Lib.hid hkp
        have HHP := Lib.hid hhp
        have HPM := Lib.hid hpm
        clear hkp hhp hpm HKP
        by_cases hlt2 : jj < j
        · have hI2 : (jj : Int) < (j : Int) := by omega
          have y1 := HKr.out.ko.ways.cell jj _ (wv_at _ hlt2)
          have hfl : (List.range (jj + 1)).filter (fun v => Rc.pend j L [] v == 0) = (List.range jj).filter (fun v => Rc.pend j L [] v == 0) ++ (if Rc.pend j L [] jj = 0 then [jj] else []) := by
            rw [List.range_succ, List.filter_append, List.filter_cons]
            by_cases hx : Rc.pend j L [] jj = 0
            · rw [if_pos hx, if_pos (by rw [hx]; rfl)]; rfl
            · rw [if_neg hx, if_neg (by rw [beq_eq_false_iff_ne.2 hx]; decide)]; rfl
          have HFL := Lib.hid hfl
          clear hfl
          by_cases hx : Rc.pend j L [] jj = 0
          · rw [hx] at y1
            rw [if_pos hx] at HFL
            have HPU := Lib.hid (hpush_any HKr.out.pl HHP.out HKr.out.pl.cel.lt (by omega) jj)
            have y1 : wr.cell? ⟨w.heap.size, jj, none⟩ = some (.int .i64 0) := y1
            clear hx
            go_wp2_with fail
            refine HPU.out.mono ?_
            rintro e w5 ⟨rfl, A', c', l', hp5, hh5, hpm5, hm5⟩
            have HK5 := Lib.hid (HKr.out.mv hm5 hp5)
            have HH5 := Lib.hid hh5
            have HP5 : Hid (l'.Perm ((List.range (jj + 1)).filter fun v => Rc.pend j L [] v == 0)) := by
              rw [HFL.out]
              exact (hpm5.trans ((List.Perm.cons jj HPM.out))).trans (List.perm_append_comm (l₁ := [jj]))
            clear hp5 hh5 hpm5 hm5 y1 HPU
            go_wp2_with fail
            go_roundw
            case measure => simp [intOf]; omega
            case rel => exact ⟨jj + 1, A', m + 1, c', l', by omega, by go_num, HK5.out, HH5.out, HP5.out⟩
          · have hxB : ((Rc.pend j L [] jj : Int) == 0) = false := by rw [beq_eq_false_iff_ne]; omega
            rw [if_neg hx, List.append_nil] at HFL
            obtain ⟨z, hz⟩ : ∃ z : Int, (Rc.pend j L [] jj : Int) = z := ⟨_, rfl⟩
            rw [hz] at hxB y1
            clear hx hz
            go_wp2_with fail
            go_roundw
            case measure => simp [intOf]; omega
            case rel => exact ⟨jj + 1, A, m, c, C, by omega, by go_num, HKr.out, HHP.out, by rw [HFL.out]; exact HPM.out⟩
        · obtain rfl : jj = j := by omega
          have hI2 : ¬ ((jj : Nat) : Int) < (jj : Int) := by omega
          have HOD := Lib.hid ((Rc.Od.start jj L).perm HPM.out)
          have HTOP := Lib.hid (Rc.Top.nil jj L)
          clear HPM
          go_wp2_with fail
          go_loopw [12] (fun s wx => ∃ (X : Option Addr) (out : List Nat) (cc : Nat) (A : Option Addr) (m c : Nat) (C : List Nat) (W : Nat → Nat), s = .slice X out.length cc ∧ KP w wx nb w.heap.size hq B jj L R rc W A m c C X cc out ∧ Rc.Od jj L out C W [] ∧ Rc.Hp C ∧ Rc.Top jj L out ∧ Rc.ord jj L = Rc.ordF jj L (jj - out.length) out) (fun s _ => jj - lenOf s)
          case atStart => exact ⟨none, [], 0, A, m, c, C, _, rfl, HKr.out, HOD.out, HHP.out, HTOP.out, rfl⟩
          case round =>
            clear HKr HOD HHP HTOP
            obtain ⟨X, out, cc, A, m, c, C, W, rfl, hkp, hod, hhp, htop, hord⟩ := hrel
            have HKr := Lib.hid hkp
            have HOD := Lib.hid hod
            have HHP := Lib.hid hhp
            have HTOP := Lib.hid htop
            have HORD := Lib.hid hord
            have hol := htop.len
            have HML := Lib.hid hkp.pl.len
            clear hkp hod hhp htop hord hlC
            have k1 := HKr.out.pl.cel.cell 0 _ rfl
            cases m with
            | zero =>
              have hC : C = [] := List.length_eq_zero_iff.1 HML.out
              subst hC
              have hno := HOD.out.none
              have hoo : Rc.ord jj L = out := by rw [HORD.out]; exact Rc.ordF_none hno _
              have HOO := Lib.hid hoo
              clear hno hoo
              have z0 : ((0 : Nat) : Int) = 0 := rfl
              have HLN := Lib.hid (len_any A 0 c wr)
              rw [z0] at HLN
              clear z0
              go_wp2_with fail
              refine HLN.out.mono ?_
              rintro e w5 ⟨rfl, rfl⟩
              by_cases hfl : out.length < jj
              · have hflI : (out.length : Int) < (jj : Int) := by omega
                have HF : Hid (OrdOut jj L w (.returned (.tuple #[.slice none 0 0, .bool false])) wr) := ⟨.inr ⟨by rw [HOO.out]; exact hfl, rfl⟩, HKr.out.ko.bel⟩
                go_wp2
                go_ret2
                exact HF.out
              · have hflI : ¬ (out.length : Int) < (jj : Int) := by omega
                have hle : out.length = jj := by omega
                have HF : Hid (OrdOut jj L w (.returned (.tuple #[.slice X out.length cc, .bool true])) wr) := by
                  refine ⟨.inl ⟨by rw [HOO.out]; exact hle, X, cc, by rw [hle], ?_⟩, HKr.out.ko.bel⟩
                  rw [HOO.out]
                  have h1 := HKr.out.ord.lower (base' := w.heap.size) (by have := HKr.out.o3; omega)
                  rw [hle] at h1
                  exact h1
                clear hle hfl
                go_wp2
                go_ret2
                exact HF.out
            | succ m =>
              have hmn : m + 1 ≤ jj := by
                have := Rc.sub_length C (List.range jj) HOD.out.cn (fun v hv => List.mem_range.2 ((HOD.out.mem v).1 hv).1)
                rw [List.length_range] at this
                have := HML.out
                omega
              have HLN := Lib.hid (len_any A (m + 1) c wr)
              have hms : ((m + 1 : Nat) : Int) = (m : Int) + 1 := by omega
              rw [hms] at HLN
              have hpos : (0 : Int) < (m : Int) + 1 := by omega
              have HPO := Lib.hid (hpop_any HKr.out.pl HHP.out (by omega))
              clear hms
              go_wp2_with fail
              refine HLN.out.mono ?_
              rintro e w5 ⟨rfl, rfl⟩
              go_wp2_with fail
              refine HPO.out.mono ?_
              rintro e w6 ⟨rfl, C6, hp6, hh6, hpm6, hm6⟩
              obtain ⟨u, hu⟩ : ∃ u, C[0]! = u := ⟨_, rfl⟩
              have hleast : ∀ v ∈ C, u ≤ v := fun v hv => by
                obtain ⟨k, hk, rfl⟩ := List.getElem_of_mem hv
                rw [← hu, ← getElem!_pos C k hk]
                exact HHP.out.least k hk
              rw [hu] at hpm6 ⊢
              have huC : u ∈ C := hpm6.mem_iff.2 List.mem_cons_self
              have hun := ((HOD.out.mem u).1 huC).1
              have hnx := HOD.out.some huC hleast
              have HOP := Lib.hid (HOD.out.pick hpm6)
              have hfree := (HOD.out.free hun).2 huC
              have htop2 := HTOP.out.snoc hun hfree
              have HTOP2 := Lib.hid htop2
              have hol2 := htop2.len
              rw [List.length_append, List.length_singleton] at hol2
              have HORD2 : Hid (Rc.ord jj L = Rc.ordF jj L (jj - (out ++ [u]).length) (out ++ [u])) := by
                show _ = _
                rw [HORD.out, List.length_append, List.length_singleton, show jj - out.length = (jj - (out.length + 1)) + 1 from by omega]
                exact Rc.ordF_some hnx
              have HK6 := Lib.hid (HKr.out.mv hm6 hp6)
              have HH6 := Lib.hid hh6
              clear hu hleast huC hnx hfree htop2 hp6 hh6 hpm6 hm6 k1 HPO HOD HORD HTOP HKr HHP
              have hta := ta_int (u : Int)
              have hba : Below w6.heap.size w6 (w6.alloc (.cells #[.int .i64 (u : Int)] 3)) := (Below.refl _ _).alloc (Nat.le_refl _) _
              have HKa := Lib.hid (HK6.out.below hba)
              have HR : Hid (KRow iκ (w6.alloc (.cells #[.int .i64 (u : Int)] 3)) (w6.heap.size + 1) (some ⟨w6.heap.size, 0, none⟩) 1 [(u : Int)]) := Lib.hid (KRow.lit (κ := iκ) w6 3 [(u : Int)] #[.int .i64 u] rfl)
              have hbase : hq + 1 ≤ (w6.alloc (.cells #[.int .i64 (u : Int)] 3)).heap.size := HKa.out.pl.cel.lt
              have hu0 : (0 : Int) ≤ (u : Int) := by omega
              have huI : (u : Int) < (jj : Int) := by omega
              clear hba HK6
              go_upto_region 22 with (at_builtin; refine append_k (κ := iκ) rfl (.tmp 60) (.tmp 62) 26 3 i0 _ 8 Try.underlying26 hi0 hz0 hz1 hz2 rfl rfl _ (hq + 1) _ X out.length cc _ ⟨w6.heap.size, 0, none⟩ (u : Int) rfl HKa.out.ord rfl HR.out (by omega) (by decide) hbase ?_; intro X' cc' w' ho' hg')
              have HK7 := Lib.hid (HKa.out.app hg' ho')
              clear ho' hg' hta hbase HKa HR
              have r1 := HK7.out.ko.rows.cel.cell u (.slice (R u) (L u).length (rc u)) (by rw [List.getElem?_map, List.getElem?_range hun]; rfl)
              have hlL := HLE.out u
              go_wp2_with fail
              clear r1
              generalize hRu : R u = Ru at *
              have HRU := Lib.hid hRu
              clear hRu
              generalize rc u = ru at *
              go_loopw [69] (fun i wx => ∃ (t : Nat) (A : Option Addr) (m c : Nat) (C : List Nat) (W : Nat → Nat), t ≤ (L u).length ∧ i = .int .i64 t ∧ KP w wx nb w.heap.size hq B jj L R rc W A m c C X' cc' (out ++ [u]) ∧ Rc.Od jj L (out ++ [u]) C W ((L u).drop t) ∧ Rc.Hp C) (fun i _ => (L u).length - (intOf i).toNat)
              case atStart => exact ⟨0, A, m, c, C6, W, Nat.zero_le _, rfl, HK7.out, HOP.out, HH6.out⟩
              case round =>
                clear HK7 HOP HH6
                obtain ⟨t, A, m, c, C, W, htl, rfl, hkp, hod, hhp⟩ := hrel
                have ht0 : (0 : Int) ≤ (t : Int) := by omega
                have HKs := Lib.hid hkp
                have HOs := Lib.hid hod
                have HHs := Lib.hid hhp
                have hmj : m ≤ jj := by
                  have := Rc.sub_length C (List.range jj) hod.cn (fun v hv => List.mem_range.2 ((hod.mem v).1 hv).1)
                  rw [List.length_range] at this
                  have := hkp.pl.len
                  omega
                clear hkp hod hhp
                by_cases htt : t < (L u).length
                · have hIt : (t : Int) < ((L u).length : Int) := by omega
                  have hrow := (HKs.out.ko.rows.own u hun).1.row
                  rw [HRU.out] at hrow
                  obtain ⟨b2, off2, rfl, _, _⟩ := hrow.2 (by omega)
                  have g1 := iκ_cells hrow htt
                  have hgt : ((L u).map Int.ofNat)[t]! = ((L u)[t] : Int) := by
                    rw [getElem!_pos ((L u).map Int.ofNat) t (by simpa using htt)]; simp
                  rw [hgt] at g1
                  have hvn := HLT.out u _ (List.getElem_mem htt)
                  have hdr : (L u).drop t = (L u)[t] :: (L u).drop (t + 1) := List.drop_eq_getElem_cons htt
                  have hod := HOs.out
                  rw [hdr] at hod
                  have hwp := hod.pos hvn
                  have hwl := hod.le 100000 HLE.out hvn
                  rw [List.length_cons, List.length_drop] at hwl
                  generalize (L u)[t] = v at *
                  have hv0 : (0 : Int) ≤ (v : Int) := by omega
                  have hvI : (v : Int) < (jj : Int) := by omega
                  have y1 := HKs.out.ko.ways.cell v _ (wv_at _ hvn)
                  have y2 := HKs.out.ko.ways.froz v (by unfold wv; simpa using hvn)
                  obtain ⟨z, hz⟩ : ∃ z, W v = z + 1 := ⟨W v - 1, by omega⟩
                  have HS := Lib.hid (HKs.out.set hvn z)
                  have hfn : (fun i => if i = v then z else W i) = Rc.low W v := by
                    funext i
                    unfold Rc.low
                    rw [hz]; rfl
                  have hWl : Rc.low W v v = z := by rw [Rc.low_at, hz]; rfl
                  rw [hfn] at HS
                  have HWL := Lib.hid hWl
                  have HKE := Lib.hid (fun h => hod.keep hvn h)
                  have HAD := Lib.hid (fun h => hod.add hvn h)
                  have hzb : z ≤ 20000000000 := by
                    have := Nat.mul_le_mul_right 100000 (show jj ≤ 100000 by omega)
                    omega
                  replace y1 : wr.cell? ⟨w.heap.size, v, none⟩ = some (.int .i64 ((z : Int) + 1)) := by
                    rw [hz] at y1
                    exact y1
                  have hw : IntKind.i64.wrap ((z : Int) + 1 - 1) = (z : Int) := by rw [IntKind.wrap_i64]; omega
                  have hz0 : (0 : Int) ≤ (z : Int) := by omega
                  have hz9 : (z : Int) ≤ 20000000000 := by omega
                  rw [hz, Nat.add_sub_cancel] at HKE HAD
                  clear hgt hrow hdr hod hwp hwl hz hfn hWl hzb
                  go_upto_region 26 with (fail)
                  clear y1 y2 g1 hw
                  generalize wr.setCell _ _ = ws at *
                  have y1 := HS.out.ko.ways.cell v _ (wv_at _ hvn)
                  rw [HWL.out] at y1
                  by_cases hzz : z = 0
                  · have HA := Lib.hid (HAD.out hzz)
                    subst hzz
                    replace y1 : ws.cell? ⟨w.heap.size, v, none⟩ = some (.int .i64 0) := y1
                    have HPU := Lib.hid (hpush_any HS.out.pl HHs.out HS.out.pl.cel.lt (by omega) v)
                    clear HAD HKE
                    go_wp2_with fail
                    refine HPU.out.mono ?_
                    rintro e w8 ⟨rfl, A', c', l', hp8, hh8, hpm8, hm8⟩
                    have HK8 := Lib.hid (HS.out.mv hm8 hp8)
                    have HH8 := Lib.hid hh8
                    have HO8 := Lib.hid (HA.out.perm hpm8)
                    clear hp8 hh8 hpm8 hm8 y1 HPU
                    go_wp2_with fail
                    go_roundw
                    case measure => simp [intOf]; omega
                    case rel => exact ⟨t + 1, A', m + 1, c', l', _, by omega, by go_num, HK8.out, HO8.out, HH8.out⟩
                  · have hzB : ((z : Int) == 0) = false := by rw [beq_eq_false_iff_ne]; omega
                    have HA := Lib.hid (HKE.out hzz)
                    clear HAD HKE hzz
                    go_wp2_with fail
                    go_roundw
                    case measure => simp [intOf]; omega
                    case rel => exact ⟨t + 1, A, m, c, C, _, by omega, by go_num, HS.out, HA.out, HHs.out⟩
                · obtain rfl : t = (L u).length := by omega
                  have hIt : ¬ (((L u).length : Nat) : Int) < ((L u).length : Int) := by omega
                  have hod := HOs.out
                  rw [List.drop_length] at hod
                  have HOe := Lib.hid hod
                  clear hod HOs
                  go_wp2_with fail
                  go_roundw
                  case measure => simp [lenOf]; omega
                  case rel => exact ⟨X', out ++ [u], cc', A, m, c, C, W, by rw [List.length_append]; rfl, HKs.out, HOe.out, HHs.out, HTOP2.out, HORD2.out⟩
end Pr
end Go.Proofs.Ytjdgloofdafebaa
