/- ProcessFlows: the walk. -/
import Derived.Test.YtjababmmcejgdaaUe
import Derived.Test.YtjababmmcejgdaaUg
import Derived.Test.YtjababmmcejgdaaUh
import Derived.Test.YtjababmmcejgdaaLm
namespace Go.Proofs.Ytjababmmcejgdaa
open Go.RowKit

namespace Pr
/-- A sum over the first n. -/
def cum (f : Nat → Nat) : Nat → Nat
  | 0 => 0
  | n + 1 => cum f n + f n
theorem cum_le (f : Nat → Nat) {n m : Nat} (h : n ≤ m) : cum f n ≤ cum f m := by
  induction m with
  | zero => obtain rfl : n = 0 := by omega
            exact Nat.le_refl _
  | succ m ih =>
    by_cases e : n = m + 1
    · subst e; exact Nat.le_refl _
    · have := ih (by omega)
      show cum f n ≤ cum f m + f m
      omega
theorem cum_count (l : List Fl) (g : Fl → Int) (n : Nat) (h : ∀ f ∈ l, ∃ a : Nat, g f = a ∧ a < n) : cum (fun i => l.countP fun f => g f == (i : Int)) n = l.length := by
  have one : ∀ (a n : Nat), cum (fun i => if a = i then 1 else 0) n = if a < n then 1 else 0 := by
    intro a n
    induction n with
    | zero => rfl
    | succ n ih =>
      show cum _ n + (if a = n then 1 else 0) = _
      rw [ih]
      repeat' split
      all_goals omega
  have add : ∀ (f g : Nat → Nat) (n : Nat), cum (fun i => f i + g i) n = cum f n + cum g n := by
    intro f g n
    induction n with
    | zero => rfl
    | succ n ih => show cum _ n + (f n + g n) = (cum _ n + f n) + (cum _ n + g n); rw [ih]; omega
  have zero : ∀ n, cum (fun _ => 0) n = 0 := by
    intro n
    induction n with
    | zero => rfl
    | succ n ih => show cum _ n + 0 = 0; rw [ih]
  induction l with
  | nil => simpa using zero n
  | cons f l ih =>
    obtain ⟨a, ha, han⟩ := h f (by simp)
    have e : (fun i : Nat => (f :: l).countP fun f => g f == (i : Int)) = fun i : Nat => (l.countP fun f => g f == (i : Int)) + if a = i then 1 else 0 := by
      funext i
      rw [List.countP_cons, ha]
      congr 1
      by_cases h : a = i
      · subst h; simp
      · have : ((a : Int) == (i : Int)) = false := by rw [beq_eq_false_iff_ne]; omega
        simp [h, this]
    rw [e, add, ih fun f hf => h f (by simp [hf]), one, if_pos han]
    rfl
theorem outs_at (p : P) {i : Int} {k : Nat} (h : k < (outsB p i).length) : (outsB p i)[k] < p.m ∧ (p.flows[(outsB p i)[k]]!).frm = i := by
  have hm : (outsB p i)[k] ∈ outsB p i := List.getElem_mem h
  generalize (outsB p i)[k] = j at *
  unfold outsB at hm
  rw [List.mem_filter, List.mem_range] at hm
  refine ⟨hm.1, ?_⟩
  simp only [Bool.and_eq_true, beq_iff_eq] at hm
  exact hm.2.2.2
theorem ins_at (p : P) {i : Int} {k : Nat} (h : k < (insB p i).length) : (insB p i)[k] < p.m ∧ (p.flows[(insB p i)[k]]!).til = i := by
  have hm : (insB p i)[k] ∈ insB p i := List.getElem_mem h
  generalize (insB p i)[k] = j at *
  unfold insB at hm
  rw [List.mem_filter, List.mem_range] at hm
  refine ⟨hm.1, ?_⟩
  simp only [Bool.and_eq_true, beq_iff_eq] at hm
  exact hm.2.2.2
theorem outs_sum (p : P) (h : ∀ f ∈ p.flows, FlowOk p f) : cum (fun i => (outsB p i).length) p.n = p.m := by
  show _ = p.flows.length
  rw [← cum_count p.flows Fl.frm p.n fun f hf => by
    obtain ⟨a, b, h1, h2, h3, h4, h5⟩ := (h f hf).ends
    exact ⟨a, h1, h3⟩]
  have : ∀ n, n ≤ p.n → cum (fun i => (outsB p i).length) n = cum (fun i => p.flows.countP fun f => f.frm == (i : Int)) n := by
    intro n hn
    induction n with
    | zero => rfl
    | succ n ih =>
      show cum _ n + (outsB p n).length = cum _ n + _
      rw [ih (by omega), outsB_in p (show n < p.n by omega), outs_len]
      rfl
  exact this p.n (Nat.le_refl _)
theorem ins_sum (p : P) (h : ∀ f ∈ p.flows, FlowOk p f) : cum (fun i => (insB p i).length) p.n = p.m := by
  show _ = p.flows.length
  rw [← cum_count p.flows Fl.til p.n fun f hf => by
    obtain ⟨a, b, h1, h2, h3, h4, h5⟩ := (h f hf).ends
    exact ⟨b, h2, h4⟩]
  have : ∀ n, n ≤ p.n → cum (fun i => (insB p i).length) n = cum (fun i => p.flows.countP fun f => f.til == (i : Int)) n := by
    intro n hn
    induction n with
    | zero => rfl
    | succ n ih =>
      show cum _ n + (insB p n).length = cum _ n + _
      rw [ih (by omega), insB_in p (show n < p.n by omega), ins_len]
      rfl
  exact this p.n (Nat.le_refl _)
theorem OwnK.cap_le {α : Type} {κ : Cs α} {w : World} {base n c : Nat} {e : TypeId} {A : Option Addr} {l : List α} (h : OwnK κ w base e A n c l) : n ≤ c := by
  rcases h.2.2 with ⟨hv, h0⟩ | ⟨g, cap, cur, hv, _, _, hc, _⟩
  · injection hv with _ _ h3; omega
  · injection hv with _ _ h3; omega
theorem KRow.front {w : World} {B n c : Nat} {A : Option Addr} {l : List ByteArray} (h : KRow sκ w B A n l) (hc : c ≤ n) : KRow sκ w B A c (l.take c) := by
  have hl := h.len (by decide)
  have h1 : ((l.take c).flatMap sκ.cs).length = c * 1 := by rw [Cs.flat_len]; rw [List.length_take]; show min c l.length * 1 = c * 1; omega
  refine ⟨h1, fun h0 => ?_⟩
  obtain ⟨b, off, rfl, hb, hc'⟩ := h.2 (by omega)
  refine ⟨b, off, rfl, hb, fun k v hv => hc' k v ?_⟩
  have hk := (List.getElem?_eq_some_iff.1 hv).1
  rw [← List.take_append_drop c l, List.flatMap_append, List.getElem?_append_left hk]
  exact hv
theorem tps_apart (p : P) {j t : Nat} (ht : t < (tpsN p p.n).length) (hj : j < t) : (((tpsN p p.n).take t)[j]!).data.toList ≠ ((tpsN p p.n)[t]!).data.toList := by
  have h := List.pairwise_iff_getElem.1 (tpsN_nodup p p.n (Nat.le_refl _)) j t (by simpa using Nat.lt_trans hj ht) (by simpa using ht) hj
  rw [getElem!_pos _ t ht, getElem!_pos _ j (by rw [List.length_take]; omega), List.getElem_take]
  simpa using h
end Pr
open Pr
set_option maxHeartbeats 6400000 in
set_option maxRecDepth 10000 in
theorem processFlows_walk (s : SeedV) (w : World) (hs : InSeed w s) : Calls Try.prog 3 #[s.val] w fun e w' => e = .returned (.bool true) ∧ Below w.heap.size w w' := by
  have HS := Lib.hid hs
  have HP := Lib.hid (Cel.lit w #[.string s.name, .slice s.KA s.kn s.kc, .slice s.EA s.en s.ec, .slice s.MA s.mn s.mc] 24)
  have HB := Lib.hid ((Below.refl w.heap.size w).alloc (Nat.le_refl _) (.cells #[.string s.name, .slice s.KA s.kn s.kc, .slice s.EA s.en s.ec, .slice s.MA s.mn s.mc] 24))
  have HL := Lib.hid (fun W => mlight_any s W)
  unfold SeedV.val at HL ⊢
  clear hs
  go_enter Try.func3, Try.ntmps3
  go_upto_region 1 with (fail)
  generalize w.alloc _ = wb at *
  go_wp2_with fail
  refine (first_any wb).mono ?_
  rintro e w1 ⟨rfl, hb1⟩
  have HP1 := Lib.hid (HP.out.below hb1 (Nat.le_refl _))
  have HB1 := Lib.hid (HB.out.trans (hb1.mono HB.out.size))
  clear hb1
  obtain ⟨z0, z1, z2, z3⟩ := quad_facts HP1.out
  go_wp2_with fail
  refine (HL.out w1).mono ?_
  rintro e w2 ⟨rfl, hb2⟩
  have HP2 := Lib.hid (HP1.out.below hb2 (Nat.le_refl _))
  have HB2 := Lib.hid (HB1.out.trans (hb2.mono HB1.out.size))
  clear hb2 z0 z1 z2 z3
  by_cases hl : light s = true
  · have hkn : s.kn ≤ 28 := by
      unfold light at hl
      simp only [Bool.and_eq_true, decide_eq_true_eq] at hl
      exact hl.2.1
    rw [hl]
    clear hl
    obtain ⟨z0, z1, z2, z3⟩ := quad_facts HP2.out
    have hk2 := (HS.out.k.row.below HB2.out (Nat.le_refl _)).mono HB2.out.size
    have hm2 := (HS.out.m.row.below HB2.out (Nat.le_refl _)).mono HB2.out.size
    have HG := Lib.hid (mgood_any (w := w2) s.name s.KA s.kn s.kc s.EA s.en s.ec s.MA s.mn s.mc s.ks s.ms false hk2 hm2 HS.out.kb HS.out.mb (by omega))
    clear hk2 hm2
    go_wp2_with fail
    refine HG.out.mono ?_
    rintro e w3 ⟨⟨A, n, c, F, m, d, rfl, hN, hF⟩, hb3⟩
    have HN := Lib.hid hN
    have HF := Lib.hid hF
    have HB3 := Lib.hid (HB2.out.trans (hb3.mono HB2.out.size))
    clear hN hF hb3 HG z0 z1 z2 z3 HP HP1 HP2 HB HB1 HB2 HL
    obtain ⟨hinv, h2n, hn27, hm52, hname⟩ := good_inv s.ks s.ms false
    obtain ⟨r, hrk⟩ := good_rk s.ks s.ms
    have hfew := good_few s.ks s.ms false
    have htp := tp_size (good_tp s.ks s.ms false)
    generalize good s.ks s.ms false = p at *
    rw [← hname]
    have HPC := Lib.hid (Cel.lit w3 #[.string p.name, .slice A n c, .slice F m d] 30)
    have hba : Below w3.heap.size w3 (w3.alloc (.cells #[.string p.name, .slice A n c, .slice F m d] 30)) := (Below.refl _ _).alloc (Nat.le_refl _) _
    have HN4 := Lib.hid (HN.out.below hba (Nat.le_refl _))
    have HF4 := Lib.hid (HF.out.below hba (Nat.le_refl _))
    have HB4 := Lib.hid (HB3.out.trans (hba.mono HB3.out.size))
    obtain rfl : p.n = n := HN.out.len
    obtain rfl : p.m = m := HF.out.len
    have HINV := Lib.hid hinv
    have HRK := Lib.hid hrk
    have HTP := Lib.hid htp
    have hso := outs_sum p hinv.flow
    have hsi := ins_sum p hinv.flow
    clear hba HN HF HB3 hinv hrk htp hname
    go_wp2_with fail
    generalize w3.alloc _ = w4 at *
    go_loopw [5, 6, 7] (fun a b i wr => ∃ j : Nat, j ≤ p.n ∧ a = .int .i64 (cum (fun i => (outsB p i).length) j) ∧ b = .int .i64 (cum (fun i => (insB p i).length) j) ∧ i = .int .i64 j ∧ Below w4.heap.size w4 wr) (fun _ _ i _ => p.n - (intOf i).toNat)
    case atStart => exact ⟨0, Nat.zero_le _, rfl, rfl, rfl, Below.refl _ _⟩
    case round =>
      obtain ⟨j, hj, rfl, rfl, rfl, hbr⟩ := hrel
      have HBR := Lib.hid hbr
      have hj0 : (0 : Int) ≤ (j : Int) := by omega
      have hsoj := cum_le (fun i : Nat => (outsB p i).length) hj
      have hsij := cum_le (fun i : Nat => (insB p i).length) hj
      have HPr := Lib.hid (HPC.out.below hbr (Nat.le_refl _))
      have HNr := Lib.hid (HN4.out.row.below hbr (Nat.le_refl _))
      have HFr := Lib.hid (HF4.out.row.below hbr (Nat.le_refl _))
      have hsr := hbr.size
      clear hbr
      obtain ⟨⟨z0, z1, z2⟩, _⟩ := tri_facts HPr.out
      by_cases hlt : j < p.n
      · have hI : (j : Int) < (p.n : Int) := by omega
        have hso1 : cum (fun i : Nat => (outsB p i).length) (j + 1) = cum (fun i : Nat => (outsB p i).length) j + (outsB p j).length := rfl
        have hsi1 : cum (fun i : Nat => (insB p i).length) (j + 1) = cum (fun i : Nat => (insB p i).length) j + (insB p j).length := rfl
        have hso2 := cum_le (fun i : Nat => (outsB p i).length) (show j + 1 ≤ p.n from hlt)
        have hsi2 := cum_le (fun i : Nat => (insB p i).length) (show j + 1 ≤ p.n from hlt)
        rw [hso] at hso2 hsoj
        rw [hsi] at hsi2 hsij
        rw [hso1] at hso2
        rw [hsi1] at hsi2
        have HS1 := Lib.hid hso1
        have HS2 := Lib.hid hsi1
        clear hso hsi hso1 hsi1
        generalize cum (fun i : Nat => (outsB p i).length) j = na at *
        generalize cum (fun i : Nat => (insB p i).length) j = nb at *
        go_wp2_with fail
        refine (outs_any A p.n c F p.m d p j wr (HNr.out.mono hsr) (HFr.out.mono hsr) (by omega) (by omega)).mono ?_
        rintro e w5 ⟨⟨X, k, cc, rfl, ho⟩, hb5⟩
        have HO := Lib.hid ho
        have HP5 := Lib.hid (HPr.out.below hb5 (by have := HPr.out.lt; omega))
        have HN5 := Lib.hid (HNr.out.below hb5 hsr)
        have HF5 := Lib.hid (HFr.out.below hb5 hsr)
        have HB5 := Lib.hid (HBR.out.trans (hb5.mono hsr))
        have hs5 := hb5.size
        obtain rfl : (outsB p j).length = k := by simpa using ho.len
        clear z0 z1 z2 ho hb5
        obtain ⟨⟨z0, z1, z2⟩, _⟩ := tri_facts HP5.out
        go_wp2_with fail
        refine (ins_any A p.n c F p.m d p j w5 (HN5.out.mono (by omega)) (HF5.out.mono (by omega)) (by omega) (by omega)).mono ?_
        rintro e w6 ⟨⟨Y, k, cy, rfl, hoy⟩, hb6⟩
        obtain rfl : (insB p j).length = k := by simpa using hoy.len
        have HOY := Lib.hid hoy
        have HO6 := Lib.hid (HO.out.below hb6 (Nat.le_refl _))
        have HP6 := Lib.hid (HP5.out.below hb6 (by have := HP5.out.lt; omega))
        have HF6 := Lib.hid (HF5.out.below hb6 (by omega))
        have HB6 := Lib.hid (HB5.out.trans (hb6.mono (by omega)))
        have hs6 := hb6.size
        clear z0 z1 z2 hoy hb6 HP5 HF5 HN5 HB5 HO HPr HNr HFr HBR
        go_wp2_with fail
        go_loopw [10] (fun k wr => ∃ t : Nat, t ≤ (outsB p j).length ∧ k = .int .i64 t ∧ Below w6.heap.size w6 wr) (fun k _ => (outsB p j).length - (intOf k).toNat)
        case atStart => exact ⟨0, Nat.zero_le _, rfl, Below.refl _ _⟩
        case round =>
          obtain ⟨t, ht, rfl, hbt⟩ := hrel
          have ht0 : (0 : Int) ≤ (t : Int) := by omega
          have HBT := Lib.hid hbt
          by_cases htt : t < (outsB p j).length
          · have hIt : (t : Int) < ((outsB p j).length : Int) := by omega
            have hrow := (HO6.out.row.below hbt (Nat.le_refl _))
            obtain ⟨bx, ox, rfl, _, _⟩ := hrow.2 (by omega)
            have g1 := iκ_cells hrow htt
            obtain ⟨hjm, hjf⟩ := outs_at p htt
            have hgt : ((outsB p j).map Int.ofNat)[t]! = ((outsB p j)[t] : Int) := by
              rw [getElem!_pos ((outsB p j).map Int.ofNat) t (by simpa using htt)]; simp
            rw [hgt] at g1
            generalize (outsB p j)[t] = q at *
            have hFr := HF6.out.below hbt (by omega)
            obtain ⟨bf, of, rfl, _, _⟩ := hFr.2 (by omega)
            obtain ⟨f0, f1, f2⟩ := fl_at hFr hjm
            rw [hjf] at f0
            obtain ⟨⟨z0, z1, z2⟩, _⟩ := tri_facts (HP6.out.below hbt (Nat.le_refl _))
            have hq0 : (0 : Int) ≤ (q : Int) := by omega
            have hqn : ¬ (q : Int) < 0 := by omega
            have hqI : (q : Int) < (p.m : Int) := by omega
            have hqg : ¬ (q : Int) ≥ (p.m : Int) := by omega
            clear hrow hgt hjf hFr hbt
            generalize wr = wv at *
            go_wp2_with fail
            go_quiet (fail)
            go_wp2_with fail
            go_roundw
            case measure => simp [intOf]; omega
            case rel => exact ⟨t + 1, by omega, by go_num, below_drewN HBT.out _⟩
          · obtain rfl : t = (outsB p j).length := by omega
            have hIt : ¬ ((outsB p j).length : Int) < ((outsB p j).length : Int) := by omega
            clear hbt
            have HW := HBT
            go_wp2_with fail
            go_loopw [11] (fun k wr => ∃ t : Nat, t ≤ (insB p j).length ∧ k = .int .i64 t ∧ Below w6.heap.size w6 wr) (fun k _ => (insB p j).length - (intOf k).toNat)
            case atStart => exact ⟨0, Nat.zero_le _, rfl, HW.out⟩
            case round =>
              obtain ⟨t, ht, rfl, hbt⟩ := hrel
              have ht0 : (0 : Int) ≤ (t : Int) := by omega
              have HBT := Lib.hid hbt
              by_cases htt : t < (insB p j).length
              · have hIt : (t : Int) < ((insB p j).length : Int) := by omega
                have hrow := (HOY.out.row.below hbt (Nat.le_refl _))
                obtain ⟨bx, ox, rfl, _, _⟩ := hrow.2 (by omega)
                have g1 := iκ_cells hrow htt
                obtain ⟨hjm, hjf⟩ := ins_at p htt
                have hgt : ((insB p j).map Int.ofNat)[t]! = ((insB p j)[t] : Int) := by
                  rw [getElem!_pos ((insB p j).map Int.ofNat) t (by simpa using htt)]; simp
                rw [hgt] at g1
                generalize (insB p j)[t] = q at *
                have hFr := HF6.out.below hbt (by omega)
                obtain ⟨bf, of, rfl, _, _⟩ := hFr.2 (by omega)
                obtain ⟨f0, f1, f2⟩ := fl_at hFr hjm
                rw [hjf] at f1
                obtain ⟨⟨z0, z1, z2⟩, _⟩ := tri_facts (HP6.out.below hbt (Nat.le_refl _))
                have hq0 : (0 : Int) ≤ (q : Int) := by omega
                have hqn : ¬ (q : Int) < 0 := by omega
                have hqI : (q : Int) < (p.m : Int) := by omega
                have hqg : ¬ (q : Int) ≥ (p.m : Int) := by omega
                clear hrow hgt hjf hFr hbt
                generalize wr = wv at *
                go_wp2_with fail
                go_quiet (fail)
                go_wp2_with fail
                go_roundw
                case measure => simp [intOf]; omega
                case rel => exact ⟨t + 1, by omega, by go_num, below_drewN HBT.out _⟩
              · obtain rfl : t = (insB p j).length := by omega
                have hIt : ¬ ((insB p j).length : Int) < ((insB p j).length : Int) := by omega
                clear hbt
                have hwn : IntKind.i64.wrap ((na : Int) + ((outsB p j).length : Int)) = (na : Int) + ((outsB p j).length : Int) := by rw [IntKind.wrap_i64]; omega
                have hwm : IntKind.i64.wrap ((nb : Int) + ((insB p j).length : Int)) = (nb : Int) + ((insB p j).length : Int) := by rw [IntKind.wrap_i64]; omega
                go_wp2_with fail
                go_roundw
                case measure => simp [intOf]; omega
                case rel => exact ⟨j + 1, by omega, by rw [HS1.out]; go_num, by rw [HS2.out]; go_num, by go_num, HB6.out.trans (HBT.out.mono HB6.out.size)⟩
      · obtain rfl : j = p.n := by omega
        have hI : ¬ (p.n : Int) < (p.n : Int) := by omega
        have hnI : ((cum (fun i : Nat => (outsB p i).length) p.n : Nat) : Int) = (p.m : Int) := by rw [hso]
        have hmI : ((cum (fun i : Nat => (insB p i).length) p.n : Nat) : Int) = (p.m : Int) := by rw [hsi]
        rw [hnI, hmI]
        clear hnI hmI hso hsi hsoj hsij
        go_wp2_with fail
        refine (topics_any A p.n c F p.m d p wr (HNr.out.mono hsr) (by omega) HTP.out).mono ?_
        rintro e w5 ⟨⟨X, k, cc, rfl, ho⟩, hb5⟩
        obtain rfl : (tpsN p p.n).length = k := ho.len
        have HO := Lib.hid ho
        have HP5 := Lib.hid (HPr.out.below hb5 (by have := HPr.out.lt; omega))
        have HN5 := Lib.hid (HNr.out.below hb5 hsr)
        have HF5 := Lib.hid (HFr.out.below hb5 hsr)
        have HB5 := Lib.hid (HBR.out.trans (hb5.mono hsr))
        have hs5 := hb5.size
        have HTA := Lib.hid (fun t (ht : t < (tpsN p p.n).length) j (hj : j < t) => tps_apart p ht hj)
        clear z0 z1 z2 ho hb5 HPr HNr HFr HBR
        generalize tpsN p p.n = l at *
        go_wp2_with fail
        go_loopw [13] (fun k wr => ∃ t : Nat, t ≤ l.length ∧ k = .int .i64 t ∧ Below w5.heap.size w5 wr) (fun k _ => l.length - (intOf k).toNat)
        case atStart => exact ⟨0, Nat.zero_le _, rfl, Below.refl _ _⟩
        case round =>
          obtain ⟨t, ht, rfl, hbt⟩ := hrel
          have ht0 : (0 : Int) ≤ (t : Int) := by omega
          have HBT := Lib.hid hbt
          have hst := hbt.size
          by_cases htt : t < l.length
          · have hIt : (t : Int) < (l.length : Int) := by omega
            have htle : (t : Int) ≤ (l.length : Int) := by omega
            have hcap := OwnK.cap_le HO.out
            have hcapI : (l.length : Int) ≤ (cc : Int) := by omega
            have htcI : (t : Int) ≤ (cc : Int) := by omega
            have hrow := HO.out.row.below hbt (Nat.le_refl _)
            obtain ⟨bx, ox, rfl, _, _⟩ := hrow.2 (by omega)
            have g1 := sκ_cells hrow htt
            have g1' : wr.drew.cell? ⟨bx, ox + t, none⟩ = _ := g1
            have HT := Lib.hid (hastext_not (some ⟨bx, ox, none⟩) t cc (l.take t) w5.heap.size l[t]! wr.drew (KRow.front (hrow.below (Below.refl _ _).drew (Nat.le_refl _)) ht) (by omega) (HTA.out t htt))
            generalize l[t]! = y at *
            clear hrow hbt
            go_upto_region 30 with (fail)
            go_region_law (go_simp; go_at_call 10; refine HT.out.mono ?_; rintro e w7 ⟨rfl, rfl⟩)
            all_goals
              go_wp2_with fail
              go_roundw
              case measure => simp [intOf]; omega
              case rel => exact ⟨t + 1, by omega, by go_num, HBT.out.drew⟩
          · obtain rfl : t = l.length := by omega
            have hIt : ¬ (l.length : Int) < (l.length : Int) := by omega
            have hl3 : (l.length : Int) ≤ 3 := by omega
            have HPe := Lib.hid (HP5.out.below hbt (Nat.le_refl _))
            have HBe := Lib.hid (HB5.out.trans (hbt.mono (by omega)))
            have HRI := Lib.hid (ring_any A p.n c F p.m d p HRK.out wr ((HN5.out.below hbt (by omega)).mono (by omega)) ((HF5.out.below hbt (by omega)).mono (by omega)) (by omega) (by omega))
            clear hbt
            obtain ⟨⟨z0, z1, z2⟩, _⟩ := tri_facts HPe.out
            go_wp2_with fail
            refine HRI.out.mono ?_
            rintro e w8 ⟨rfl, hb8⟩
            have HBf := Lib.hid (HB4.out.trans ((HBe.out.trans (hb8.mono HBe.out.size)).mono HB4.out.size))
            clear hb8
            go_wp2
            go_ret
            exact ⟨rfl, HBf.out⟩
  · rw [Bool.eq_false_iff.2 hl]
    go_wp2
    go_ret
    exact ⟨rfl, HB2.out⟩
end Go.Proofs.Ytjababmmcejgdaa
