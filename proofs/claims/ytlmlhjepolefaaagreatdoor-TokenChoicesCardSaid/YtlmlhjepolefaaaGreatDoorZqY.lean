/- TokenMany: the walk. -/
import Derived.Test.YtlmlhjepolefaaaGreatDoorYTokenChoices6
import Derived.Test.YtlmlhjepolefaaaGreatDoorYTokenChoices7
namespace Go.Proofs.YtlmlhjepolefaaaGreatDoor
open Go.RowKit

namespace Pr
/-- A row of one's own that was just laid. -/
theorem own_lit_k {α : Type} {κ : Cs α} (w : World) (t : TypeId) (l : List α) (cs : Array Value) (hk : 0 < κ.k) (hc : cs.toList = l.flatMap κ.cs) (hl : l.length ≤ maxLen) : OwnK κ (w.alloc (.cells cs t)) w.heap.size t (some ⟨w.heap.size, 0, none⟩) l.length l.length l := by
  refine ⟨hk, ?_⟩
  have hsz : cs.size = l.length * κ.k := by rw [← Array.length_toList, hc, Cs.flat_len]
  have h := World.ownsRow_lit (e := t) (size := κ.k) (base := w.heap.size) w cs l.length (Nat.le_refl _) hl hsz
  rw [hc] at h
  exact h
theorem measM {n j : Nat} (h : j + 1 < n) : n - (intOf (.int .i64 ((j : Int) + 1 + 1))).toNat < n - (intOf (.int .i64 ((j : Int) + 1))).toNat := by
  show n - ((j : Int) + 1 + 1).toNat < n - ((j : Int) + 1).toNat
  omega
set_option maxHeartbeats 6400000 in
set_option maxRecDepth 10000 in
theorem tokenMany_core (E : Int → Option Addr) (h ws : Int) (w : World) (hh1 : -9223372036854775808 ≤ h) (hh2 : h ≤ 9223372036854775807) (hw1 : -9223372036854775808 ≤ ws) (hw2 : ws ≤ 9223372036854775807) (hE : ErrIn w E 116 2) (hE2 : ErrIn w E 104 1) :
    Calls Tryz.prog 6 #[.int .i64 h, .int .i64 ws] w fun e w' => e = .returned (.bool true) ∧ Below w.heap.size w w' := by
  obtain ⟨i1, hi1, hy0, hy1, hy2⟩ := info_parts info_flow
  obtain ⟨kh, hke, hkl⟩ := nmb_nat h 41 (by omega)
  obtain ⟨kv, hve, hvl⟩ := nmb_nat ws 9 (by omega)
  have N0 := Lib.hid (fun w => mnumber_any h 41 w (by omega) hh1 hh2 (by omega))
  have N1 := Lib.hid (fun w => mnumber_any ws 9 w (by omega) hw1 hw2 (by omega))
  rw [hke] at N0
  rw [hve] at N1
  obtain ⟨v, hv⟩ : ∃ v : Nat, v = kv + 1 := ⟨_, rfl⟩
  have HSUM : Hid (IntKind.i64.wrap ((kv : Int) + 1) = (v : Int)) := by
    refine Lib.hid ?_
    have h : IntKind.i64.wrap ((kv : Int) + 1) = (kv : Int) + 1 := by rw [IntKind.wrap_i64]; omega
    omega
  have HV := Lib.hid (show v < 10 by omega)
  have HV1 := Lib.hid (show 1 ≤ v by omega)
  have HK := Lib.hid (show kh ≤ 40 by omega)
  have HE := Lib.hid hE
  have HE2 := Lib.hid hE2
  clear hke hve hh1 hh2 hw1 hw2 hkl hvl hv hE hE2
  go_enter Tryz.func6, Tryz.ntmps6
  go_wp2_with fail
  refine (tfirst_any w).mono ?_
  rintro e w1 ⟨rfl, hb1⟩
  have HB1 := Lib.hid hb1
  clear hb1
  go_wp2_with fail
  refine (N0.out _).mono ?_
  rintro e wy ⟨rfl, rfl⟩
  go_wp2_with fail
  refine (N1.out _).mono ?_
  rintro e wy ⟨rfl, rfl⟩
  have hs := HSUM.out
  go_upto_region 6 with (fail)
  try rw [hs]
  clear hs N0 N1
  go_upto_region 7 with (fail)
  have hON := own_lit_k (κ := Nd.κ) w1 26 nodesM #[.int .i64 1, .string ⟨#[]⟩, .int .i64 0, .int .i64 0, .int .i64 (-1), .string ⟨#[]⟩, .string ⟨#[]⟩, .int .i64 (-1), .int .i64 6, .string ⟨#[]⟩, .int .i64 0, .int .i64 0, .int .i64 (-1), .string ⟨#[]⟩, .string ⟨#[]⟩, .int .i64 (-1), .int .i64 4, .string ⟨#[116]⟩, .int .i64 0, .int .i64 1, .int .i64 (-1), .string ⟨#[]⟩, .string ⟨#[]⟩, .int .i64 (-1), .int .i64 2, .string ⟨#[]⟩, .int .i64 0, .int .i64 0, .int .i64 (-1), .string ⟨#[]⟩, .string ⟨#[]⟩, .int .i64 (-1)] (by decide) rfl (by decide)
  have hbn : Below w1.heap.size w1 (w1.alloc (.cells #[.int .i64 1, .string ⟨#[]⟩, .int .i64 0, .int .i64 0, .int .i64 (-1), .string ⟨#[]⟩, .string ⟨#[]⟩, .int .i64 (-1), .int .i64 6, .string ⟨#[]⟩, .int .i64 0, .int .i64 0, .int .i64 (-1), .string ⟨#[]⟩, .string ⟨#[]⟩, .int .i64 (-1), .int .i64 4, .string ⟨#[116]⟩, .int .i64 0, .int .i64 1, .int .i64 (-1), .string ⟨#[]⟩, .string ⟨#[]⟩, .int .i64 (-1), .int .i64 2, .string ⟨#[]⟩, .int .i64 0, .int .i64 0, .int .i64 (-1), .string ⟨#[]⟩, .string ⟨#[]⟩, .int .i64 (-1)] 26)) := (Below.refl _ _).alloc (Nat.le_refl _) _
  have hsn : (w1.alloc (.cells #[.int .i64 1, .string ⟨#[]⟩, .int .i64 0, .int .i64 0, .int .i64 (-1), .string ⟨#[]⟩, .string ⟨#[]⟩, .int .i64 (-1), .int .i64 6, .string ⟨#[]⟩, .int .i64 0, .int .i64 0, .int .i64 (-1), .string ⟨#[]⟩, .string ⟨#[]⟩, .int .i64 (-1), .int .i64 4, .string ⟨#[116]⟩, .int .i64 0, .int .i64 1, .int .i64 (-1), .string ⟨#[]⟩, .string ⟨#[]⟩, .int .i64 (-1), .int .i64 2, .string ⟨#[]⟩, .int .i64 0, .int .i64 0, .int .i64 (-1), .string ⟨#[]⟩, .string ⟨#[]⟩, .int .i64 (-1)] 26)).heap.size = w1.heap.size + 1 := by simp
  generalize w1.alloc (.cells #[.int .i64 1, .string ⟨#[]⟩, .int .i64 0, .int .i64 0, .int .i64 (-1), .string ⟨#[]⟩, .string ⟨#[]⟩, .int .i64 (-1), .int .i64 6, .string ⟨#[]⟩, .int .i64 0, .int .i64 0, .int .i64 (-1), .string ⟨#[]⟩, .string ⟨#[]⟩, .int .i64 (-1), .int .i64 4, .string ⟨#[116]⟩, .int .i64 0, .int .i64 1, .int .i64 (-1), .string ⟨#[]⟩, .string ⟨#[]⟩, .int .i64 (-1), .int .i64 2, .string ⟨#[]⟩, .int .i64 0, .int .i64 0, .int .i64 (-1), .string ⟨#[]⟩, .string ⟨#[]⟩, .int .i64 (-1)] 26) = wn at *
  have hOF := own_lit_k (κ := Fl.κ) wn 29 (flowsM 0) #[.int .i64 0, .int .i64 1, .string ⟨#[]⟩, .int .i64 2, .int .i64 3, .string ⟨#[]⟩] (by decide) rfl (by decide)
  have hbf : Below wn.heap.size wn (wn.alloc (.cells #[.int .i64 0, .int .i64 1, .string ⟨#[]⟩, .int .i64 2, .int .i64 3, .string ⟨#[]⟩] 29)) := (Below.refl _ _).alloc (Nat.le_refl _) _
  have hsf : (wn.alloc (.cells #[.int .i64 0, .int .i64 1, .string ⟨#[]⟩, .int .i64 2, .int .i64 3, .string ⟨#[]⟩] 29)).heap.size = w1.heap.size + 2 := by simp; omega
  generalize wn.alloc (.cells #[.int .i64 0, .int .i64 1, .string ⟨#[]⟩, .int .i64 2, .int .i64 3, .string ⟨#[]⟩] 29) = wf at *
  have hOP := Cel.lit wf #[.string ⟨#[112]⟩, .slice (some ⟨w1.heap.size, 0, none⟩) 4 4, .slice (some ⟨w1.heap.size + 1, 0, none⟩) 2 2] 32
  have hbp : Below wf.heap.size wf (wf.alloc (.cells #[.string ⟨#[112]⟩, .slice (some ⟨w1.heap.size, 0, none⟩) 4 4, .slice (some ⟨w1.heap.size + 1, 0, none⟩) 2 2] 32)) := (Below.refl _ _).alloc (Nat.le_refl _) _
  have hsp : (wf.alloc (.cells #[.string ⟨#[112]⟩, .slice (some ⟨w1.heap.size, 0, none⟩) 4 4, .slice (some ⟨w1.heap.size + 1, 0, none⟩) 2 2] 32)).heap.size = w1.heap.size + 3 := by simp; omega
  generalize wf.alloc (.cells #[.string ⟨#[112]⟩, .slice (some ⟨w1.heap.size, 0, none⟩) 4 4, .slice (some ⟨w1.heap.size + 1, 0, none⟩) 2 2] 32) = wp at *
  rw [hsf] at hOP
  rw [hsn] at hOF
  have HON := Lib.hid ((hON.below hbf (by omega)).below hbp (by omega))
  have HOF := Lib.hid (hOF.below hbp (Nat.le_refl _))
  have HOP : Hid (Cel _ (w1.heap.size + 1 + 1) _) := Lib.hid hOP
  have HBP := Lib.hid (HB1.out.trans ((hbn.trans ((hbf.trans (hbp.mono hbf.size)).mono hbn.size)).mono HB1.out.size))
  have HSZ := Lib.hid hsp
  have HQL := Lib.hid HB1.out.size
  clear hON hOF hOP hbn hbf hbp hsn hsf hsp HB1
  generalize w1.heap.size = nb at *
  go_wp2_with fail
  go_loopw [7] (fun i wr => ∃ (j : Nat) (Fa : Option Addr) (d : Nat), j ≤ v ∧ i = .int .i64 j ∧ Cel wr (nb + 1 + 1) [.string ⟨#[112]⟩, .slice (some ⟨nb, 0, none⟩) 4 4, .slice Fa (j + 2) d] ∧ OwnK Fl.κ wr (nb + 1) 29 Fa (j + 2) d (flowsM j) ∧ OwnK Nd.κ wr nb 26 (some ⟨nb, 0, none⟩) 4 4 nodesM ∧ (∀ a, Fa = some a → a.block ≠ nb + 1 + 1) ∧ Below w.heap.size w wr ∧ nb + 3 ≤ wr.heap.size) (fun i _ => v - (intOf i).toNat)
  case atStart => exact ⟨0, _, 2, Nat.zero_le _, rfl, HOP.out, HOF.out, HON.out, (fun a ha e => by obtain rfl := Option.some.inj ha; have e : nb + 1 = nb + 1 + 1 := e; omega), HBP.out, by have := HSZ.out; omega⟩
  case round =>
    obtain ⟨j, Fa, d, hj, rfl, hc, hf, hn, hne, hbr, hsr⟩ := hrel
    have hj0 : (0 : Int) ≤ (j : Int) := by omega
    by_cases hlt : j < v
    · have hI : (j : Int) < (v : Int) := by omega
      have hba : Below wr.heap.size wr (wr.alloc (.cells #[.int .i64 1, .int .i64 2, .string ⟨#[]⟩] 29)) := (Below.refl _ _).alloc (Nat.le_refl _) _
      have HCa := Lib.hid (hc.below hba (Nat.le_refl _))
      have HFa := Lib.hid (hf.below hba (Nat.le_refl _))
      have HNa := Lib.hid (hn.below hba (Nat.le_refl _))
      have HBa := Lib.hid (hbr.trans (hba.mono hbr.size))
      have HNE := Lib.hid hne
      have HR : Hid (KRow Fl.κ (wr.alloc (.cells #[.int .i64 1, .int .i64 2, .string ⟨#[]⟩] 29)) (wr.heap.size + 1) (some ⟨wr.heap.size, 0, none⟩) 1 [⟨1, 2, no⟩]) := Lib.hid (KRow.lit (κ := Fl.κ) wr 29 [⟨1, 2, no⟩] #[.int .i64 1, .int .i64 2, .string ⟨#[]⟩] rfl)
      have hbase : nb + 1 ≤ (wr.alloc (.cells #[.int .i64 1, .int .i64 2, .string ⟨#[]⟩] 29)).heap.size := by have := hba.size; omega
      have hsa : nb + 3 ≤ (wr.alloc (.cells #[.int .i64 1, .int .i64 2, .string ⟨#[]⟩] 29)).heap.size := by have := hba.size; omega
      obtain ⟨⟨c0, c1, c2⟩, f0, f1, f2⟩ := tri_facts hc
      have hql := hc.lt
      have hjl : j + 2 ≤ 1000000 := by have := HV.out; omega
      clear hc hf hn hne hbr hba
      go_wp2_with (at_builtin; refine append_k (κ := Fl.κ) rfl (.tmp 37) (.tmp 39) 30 29 i1 _ 32 Tryz.underlying30 hi1 hy0 hy1 hy2 rfl rfl _ (nb + 1) _ Fa (j + 2) d (flowsM j) ⟨wr.heap.size, 0, none⟩ ⟨1, 2, no⟩ rfl HFa.out rfl HR.out hjl (by decide) hbase ?_; intro F' d' w' ho hg; have hcw := HCa.out.kept hg.grown (fun e => by obtain ⟨a', h1, h2⟩ := blk_of e; exact HNE.out a' h1 h2); obtain ⟨⟨m0, m1, m2⟩, n0, n1, n2⟩ := tri_facts hcw; have HX1 := Lib.hid ho; have HX2 := Lib.hid hg; have HX3 := Lib.hid hcw; clear ho hg hcw)
      have hneF : ∀ a, F' = some a → a.block ≠ nb + 1 + 1 := fun a ha => by
        rcases grew_block HX2.out HX1.out ha with ⟨a0, h1, h2⟩ | h1
        · rw [← h2]; exact HNE.out a0 h1
        · omega
      have hs1 : w'.grownBy (w'.setCell ⟨nb + 1 + 1, 2, none⟩ (.slice F' (j + 2 + 1) d')) (some (nb + 1 + 1)) := grown_setCell w' ⟨nb + 1 + 1, 2, none⟩ _
      have HC2 := Lib.hid (HX3.out.set (i := 2) (by simp) (.slice F' (j + 2 + 1) d'))
      have HF2 := Lib.hid (HX1.out.kept hs1 (fun a ha e => hneF a ha (Option.some.inj e).symm))
      have HN2 := Lib.hid ((HNa.out.kept HX2.out.grown (fun a ha e => by obtain ⟨a', h1, h2⟩ := blk_of e; exact HNa.out.apart HFa.out (by decide) ha h1 h2.symm)).kept hs1 (fun a ha e => by have h3 : nb + 1 + 1 = a.block := Option.some.inj e; have h4 : nb = a.block := (by rw [← Option.some.inj ha]); omega))
      have HB2 := Lib.hid ((HBa.out.trans ((HX2.out.below HFa.out.2 hbase).mono (by have := HQL.out; omega))).setCell (p := ⟨nb + 1 + 1, 2, none⟩) (by show w.heap.size ≤ nb + 1 + 1; have := HQL.out; omega) (.slice F' (j + 2 + 1) d'))
      have HS2 := Lib.hid (show nb + 3 ≤ (w'.setCell ⟨nb + 1 + 1, 2, none⟩ (.slice F' (j + 2 + 1) d')).heap.size by have := HX2.out.size; simp at this ⊢; omega)
      have HNF := Lib.hid hneF
      have HFS := Lib.hid (flowsM_snoc j)
      clear hneF hs1 m0 m1 m2 n0 n1 n2 c0 c1 c2 f0 f1 f2
      go_wp2_with fail
      go_roundw
      case measure => simp [intOf]; omega
      case rel => exact ⟨j + 1, F', d', by omega, by go_num, by rw [show j + 1 + 2 = j + 2 + 1 by omega]; exact HC2.out, by rw [show j + 1 + 2 = j + 2 + 1 by omega, HFS.out]; exact HF2.out, HN2.out, HNF.out, HB2.out, HS2.out⟩
    · obtain rfl : j = v := by omega
      have hI : ¬ ((j : Int) < (j : Int)) := by omega
      have hvl := HV.out
      have hm2 : (pM j).m ≤ 100000 := by rw [pM_m]; omega
      have HPC := Lib.hid hc
      have HFr := Lib.hid hf
      have HNr := Lib.hid hn
      have HBr := Lib.hid hbr
      obtain ⟨⟨c0, c1, c2⟩, _⟩ := tri_facts hc
      have hba : Below wr.heap.size wr (wr.alloc (.cells #[.string ⟨#[112]⟩, .slice (some ⟨nb, 0, none⟩) 4 4, .slice Fa (j + 2) d, .slice none 0 0, .slice none 0 0, .int .i64 1] 38)) := (Below.refl _ _).alloc (Nat.le_refl _) _
      have HQC := Lib.hid (Cel.lit wr #[.string ⟨#[112]⟩, .slice (some ⟨nb, 0, none⟩) 4 4, .slice Fa (j + 2) d, .slice none 0 0, .slice none 0 0, .int .i64 1] 38)
      have HIN : Hid (BdIn wr wr.heap.size ⟨⟨#[112]⟩, some ⟨nb, 0, none⟩, 4, 4, Fa, j + 2, d, none, 0, 0, none, 0, 0, 1⟩ ⟨pM j, [], [], 1⟩) := Lib.hid ⟨rfl, rfl, hn.row, hf.row, KRow.nil _ _ _, KRow.nil _ _ _, hn.nn, hf.nn, fun _ => ⟨rfl, rfl⟩, fun _ => ⟨rfl, rfl⟩⟩
      have HFEW : Hid (Bd.Few ⟨pM j, [], [], 1⟩) := Lib.hid ⟨by show (pM j).n ≤ 100000; rw [pM_n]; omega, hm2, Nat.zero_le _, Nat.zero_le _, by show (-1000000000 : Int) ≤ 1; omega, by show (1 : Int) ≤ 1000000000; omega⟩
      have HBA := Lib.hid (hbr.trans (hba.mono hbr.size))
      have HW0 : Hid (w.heap.size ≤ wr.heap.size) := Lib.hid hbr.size
      have HINa := Lib.hid (HIN.out.on hba)
      clear hc hf hn hne hbr hba hm2
      go_upto_region 12 with (fail)
      generalize wr.alloc (.cells #[.string ⟨#[112]⟩, .slice (some ⟨nb, 0, none⟩) 4 4, .slice Fa (j + 2) d, .slice none 0 0, .slice none 0 0, .int .i64 1] 38) = wb at *
      generalize wr.heap.size = qb at *
      clear c0 c1 c2
      have hbt : Below wb.heap.size wb (wb.alloc (.cells #[.int .i64 0, .int .i64 1, .int .i64 0, .bool false] 34)) := (Below.refl _ _).alloc (Nat.le_refl _) _
      have HR0 := Lib.hid (KRow.lit (κ := Tk.κ) wb 34 [⟨0, 1, 0, false⟩] #[.int .i64 0, .int .i64 1, .int .i64 0, .bool false] rfl)
      have HPU := Lib.hid (put_any _ _ (some ⟨wb.heap.size, 0, none⟩) 1 1 [⟨0, 1, 0, false⟩] _ (HINa.out.on hbt) HFEW.out (HR0.out.mono (by simp)) (by decide))
      have hb0 : (⟨pM j, [], [], 1⟩ : Bd).put [⟨0, 1, 0, false⟩] = bM j 0 := rfl
      rw [hb0] at HPU
      unfold BdV.val at HPU
      dsimp only at HPU
      have HBT := Lib.hid (HBA.out.trans (hbt.mono HBA.out.size))
      have HQT := Lib.hid (HQC.out.below hbt (Nat.le_refl _))
      obtain ⟨⟨o0, o1, o2, o3, o4, o5⟩, _⟩ := six_facts HQC.out
      clear hbt hb0
      go_upto_region 13 with (go_at_call 12; refine HPU.out.mono ?_; rintro e w5 ⟨⟨y, rfl, hO⟩, hb5⟩; have HQ5 := Lib.hid (HQT.out.below hb5 (Nat.le_refl _)); have hql5 := HQ5.out.lt; have HO5 := Lib.hid hO; have HB5 := Lib.hid (HBT.out.trans (hb5.mono HBT.out.size)); obtain ⟨⟨g0, g1, g2, g3, g4, g5⟩, u0, u1, u2, u3, u4, u5⟩ := six_facts HQ5.out; clear hO hb5; dsimp only [BdV.val])
      have hqw : qb < wb.heap.size := HQC.out.lt
      have hw0 : w.heap.size ≤ qb := HW0.out
      have HC6 := Lib.hid (six_cel HQ5.out y)
      have HW6 := Lib.hid ((HO5.out.lower (B' := qb + 1) (by simp; omega)).grown (by omega) (six_grown w5 qb y))
      have HB6 := Lib.hid (six_below HB5.out (z := qb) hw0 y)
      clear o0 o1 o2 o3 o4 o5 g0 g1 g2 g3 g4 g5 u0 u1 u2 u3 u4 u5
      change Code.wp _ _ _ _ (six w5 qb y)
      generalize six w5 qb y = w6 at *
      clear HPU HR0 HBT HQT HQ5 HO5 HB5 HINa HFEW HQC HBA HIN HPC HFr HNr HBr HON HOF HOP HBP hlt hj0 hI
      go_wp2_with fail
      go_loopw [9] (fun i wr => ∃ (t : Nat) (y : BdV), i = .int .i64 ((t : Int) + 1) ∧ (t = 0 ∨ t + 1 ≤ kh) ∧ Cel wr qb y.list ∧ BdOwn wr (qb + 1) y (bM j t) ∧ Below w.heap.size w wr) (fun i _ => kh - (intOf i).toNat)
      case atStart => exact ⟨0, y, rfl, .inl rfl, HC6.out, HW6.out, HB6.out⟩
      case round =>
        obtain ⟨t, y, rfl, htk, hc, ho, hbr⟩ := hrel
        have ht0 : (0 : Int) ≤ (t : Int) + 1 := by omega
        have hk40 := HK.out
        have hv9 := HV.out
        have HBR := Lib.hid hbr
        have HOR := Lib.hid ho
        have HCR := Lib.hid hc
        have hql := hc.lt
        have hfew : (bM j t).Few := by
          rw [bM_eq]
          exact ⟨by show (pM j).n ≤ 100000; rw [pM_n]; omega, by show (pM j).m ≤ 100000; rw [pM_m]; omega, Nat.zero_le _, by show (tksM t).length ≤ 100000; rw [tksM_len]; omega, by show (-1000000000 : Int) ≤ (t : Int) + 2; omega, by show (t : Int) + 2 ≤ 1000000000; omega⟩
        have HFW := Lib.hid hfew
        clear hbr ho hfew
        by_cases hlt : t + 1 < kh
        · have hI : (t : Int) + 1 < (kh : Int) := by omega
          have hbt : Below wr.heap.size wr (wr.alloc (.cells #[.int .i64 0, .int .i64 2, .int .i64 2, .bool false] 34)) := (Below.refl _ _).alloc (Nat.le_refl _) _
          have HR0 := Lib.hid (KRow.lit (κ := Tk.κ) wr 34 [⟨0, 2, 2, false⟩] #[.int .i64 0, .int .i64 2, .int .i64 2, .bool false] rfl)
          have HPU := Lib.hid (put_any y (bM j t) (some ⟨wr.heap.size, 0, none⟩) 1 1 [⟨0, 2, 2, false⟩] _ (HOR.out.inn.on hbt) HFW.out (HR0.out.mono (by simp)) (by decide))
          have hb0 : (bM j t).put [⟨0, 2, 2, false⟩] = bM j (t + 1) := rfl
          rw [hb0] at HPU
          have HBT := Lib.hid (HBR.out.trans (hbt.mono HBR.out.size))
          have HQT := Lib.hid (HCR.out.below hbt (Nat.le_refl _))
          have hsb : qb + 1 ≤ (wr.alloc (.cells #[.int .i64 0, .int .i64 2, .int .i64 2, .bool false] 34)).heap.size := by have := hbt.size; omega
          obtain ⟨ys, yA, yn, yc, yF, ym, yd, yV, ynv, ycv, yT, ynt, yct, yk⟩ := y
          unfold BdV.val at HPU
          dsimp only at HPU
          obtain ⟨⟨o0, o1, o2, o3, o4, o5⟩, _⟩ := six_facts hc
          clear hbt hb0 hc
          go_upto_region 15 with (go_at_call 12; refine HPU.out.mono ?_; rintro e w5 ⟨⟨q, rfl, hO⟩, hb5⟩; have HQ5 := Lib.hid (HQT.out.below hb5 (Nat.le_refl _)); have hql5 := HQ5.out.lt; have HO5 := Lib.hid hO; have HB5 := Lib.hid (HBT.out.trans (hb5.mono HBT.out.size)); obtain ⟨⟨g0, g1, g2, g3, g4, g5⟩, u0, u1, u2, u3, u4, u5⟩ := six_facts HQ5.out; clear hO hb5; dsimp only [BdV.val])
          have HC6 := Lib.hid (six_cel HQ5.out q)
          have HW6 := Lib.hid ((HO5.out.lower (B' := qb + 1) hsb).grown (by omega) (six_grown w5 qb q))
          have HB6 := Lib.hid (six_below HB5.out (z := qb) hw0 q)
          clear o0 o1 o2 o3 o4 o5 g0 g1 g2 g3 g4 g5 u0 u1 u2 u3 u4 u5
          change Code.wp _ _ _ _ (six w5 qb q)
          generalize six w5 qb q = w6 at *
          go_wp2_with fail
          go_roundw
          case measure => exact measM hlt
          case rel => exact ⟨t + 1, q, congrArg (Value.int .i64) (by omega), .inr hlt, HC6.out, HW6.out, HB6.out⟩
        · have hI : ¬ ((t : Int) + 1 < (kh : Int)) := by omega
          have ht39 : t ≤ 39 := by omega
          have hasc : Asc (bM j t).toks := by rw [bM_eq]; exact tksM_asc t
          have hnt : y.nt = t + 1 := (HOR.out.inn.ht).trans (by rw [bM_eq]; exact tksM_len t)
          have hcnd : ∀ u : Nat, (bM j t).toks[(0 : Nat)]!.node = (u : Int) → ∀ f ∈ outsB (bM j t).p u, CondOk E wr y.V y.nv y.cv (bM j t).vars (bM j t).p.flows[f]!.cond := fun u _ f _ => .inl (by rw [bM_eq]; exact congrArg ByteArray.size (condM j f))
          have HST : Hid (Calls Tryz.prog 9 #[y.val, .int .i64 0] wr (StepOut (bstep (bM j t) 0) E wr)) := Lib.hid (step_any E 0 y (bM j t) wr HOR.out.inn HFW.out (by rw [bM_eq]; show (pM j).m ≤ 90000; rw [pM_m]; omega) hasc (rdyM j t HV.out) hcnd (HE.out.below HBR.out) (HE2.out.below HBR.out))
          rw [bstepM j t HV.out] at HST
          have hnx : y.k = (t : Int) + 2 := (HOR.out.inn.k).trans (by rw [bM_eq])
          obtain ⟨ys, yA, yn, yc, yF, ym, yd, yV, ynv, ycv, yT, ynt, yct, yk⟩ := y
          dsimp only at hnt hnx
          subst hnt hnx
          unfold BdV.val at HST
          dsimp only at HST
          obtain ⟨⟨o0, o1, o2, o3, o4, o5⟩, _⟩ := six_facts hc
          clear hasc hcnd hc
          by_cases hlen : 40 < t + j
          · rw [if_pos hlen] at HST
            have hlI : (t : Int) + (j : Int) > 40 := by omega
            go_upto_region 19 with (go_at_call 9; refine HST.out.mono ?_; rintro e w5 ⟨⟨⟨xs, xA, xn, xc, xF, xm, xd, xV, xnv, xcv, xT, xnt, xct, xk⟩, ev, rfl, hs, hO⟩, hb5⟩; have HQ5 := Lib.hid (HCR.out.below hb5 (Nat.le_refl _)); have HO5 := Lib.hid hO; have HB5 := Lib.hid (HBR.out.trans (hb5.mono HBR.out.size)); obtain ⟨ea, rfl, hka⟩ := seen_err hs (show (104 : Int) ≠ 0 by decide); clear hka; clear hs hO hb5; dsimp only [BdV.val])
            have hqt : xnt = t + 1 := HO5.out.inn.ht.trans (stuckM j t).1
            subst hqt
            obtain ⟨g, hg, _, hgl⟩ := HO5.out.toks.some_of (show 0 < t + 1 by omega)
            dsimp only at hg
            subst hg
            have t3 := (tk_at (j := 0) HO5.out.toks.row (show 0 < t + 1 by omega)).2.2.2
            rw [(stuckM j t).2] at t3
            have hb6 : Below w5.heap.size w5 (w5.alloc (.cells #[.string xs, .slice xA xn xc, .slice xF xm xd, .slice xV xnv xcv, .slice (some ⟨g, 0, none⟩) (t + 1) xct, .int .i64 xk] 38)) := (Below.refl _ _).alloc (Nat.le_refl _) _
            have HZ6 := Lib.hid (Cel.lit w5 #[.string xs, .slice xA xn xc, .slice xF xm xd, .slice xV xnv xcv, .slice (some ⟨g, 0, none⟩) (t + 1) xct, .int .i64 xk] 38)
            have hs6 : (w5.alloc (.cells #[.string xs, .slice xA xn xc, .slice xF xm xd, .slice xV xnv xcv, .slice (some ⟨g, 0, none⟩) (t + 1) xct, .int .i64 xk] 38)).heap.size = w5.heap.size + 1 := by simp
            have hb7 : Below (w5.alloc (.cells #[.string xs, .slice xA xn xc, .slice xF xm xd, .slice xV xnv xcv, .slice (some ⟨g, 0, none⟩) (t + 1) xct, .int .i64 xk] 38)).heap.size (w5.alloc (.cells #[.string xs, .slice xA xn xc, .slice xF xm xd, .slice xV xnv xcv, .slice (some ⟨g, 0, none⟩) (t + 1) xct, .int .i64 xk] 38)) ((w5.alloc (.cells #[.string xs, .slice xA xn xc, .slice xF xm xd, .slice xV xnv xcv, .slice (some ⟨g, 0, none⟩) (t + 1) xct, .int .i64 xk] 38)).alloc (.cells #[.bool false, .string no] 40)) := (Below.refl _ _).alloc (Nat.le_refl _) _
            have HM7 := Lib.hid (Cel.lit (w5.alloc (.cells #[.string xs, .slice xA xn xc, .slice xF xm xd, .slice xV xnv xcv, .slice (some ⟨g, 0, none⟩) (t + 1) xct, .int .i64 xk] 38)) #[.bool false, .string no] 40)
            rw [hs6] at HM7
            have HZ7 := Lib.hid (HZ6.out.below hb7 (Nat.le_refl _))
            have hb8 := hb6.trans (hb7.mono hb6.size)
            have HQ7 := Lib.hid (HQ5.out.below hb8 (Nat.le_refl _))
            have HB7 := Lib.hid (HB5.out.trans (hb8.mono HB5.out.size))
            have t4 := below_cells hb8 t3
            clear t3
            clear hb6 hs6 hb7 hb8 HZ6 HQ5 HB5 HO5 HST HCR HOR HBR HFW
            generalize (w5.alloc _).alloc _ = w7 at *
            generalize w5.heap.size = qc at *
            obtain ⟨⟨o0, o1, o2, o3, o4, o5⟩, _⟩ := six_facts HQ7.out
            obtain ⟨⟨z0, z1, z2, z3, z4, z5⟩, _⟩ := six_facts HZ7.out
            have m0 := HM7.out.cell 0 _ rfl
            unfold errV
            go_wp2
            go_ret
            exact ⟨rfl, HB7.out⟩
          · rw [if_neg hlen] at HST
            have hlI : ¬ (t : Int) + (j : Int) > 40 := by omega
            go_upto_region 19 with (go_at_call 9; refine HST.out.mono ?_; rintro e w5 ⟨⟨⟨xs, xA, xn, xc, xF, xm, xd, xV, xnv, xcv, xT, xnt, xct, xk⟩, ev, rfl, hs, hO⟩, hb5⟩; have HQ5 := Lib.hid (HCR.out.below hb5 (Nat.le_refl _)); have HO5 := Lib.hid hO; have HB5 := Lib.hid (HBR.out.trans (hb5.mono HBR.out.size)); obtain rfl := seen_nil hs; clear hs hO hb5; dsimp only [BdV.val])
            have hqt : xnt = t + j := HO5.out.inn.ht.trans (mvM_len j t HV.out)
            have hqk : xk = (t : Int) + 2 + (j : Int) := HO5.out.inn.k.trans (mvM_next j t)
            subst hqt hqk
            have hb6 : Below w5.heap.size w5 (w5.alloc (.cells #[.string xs, .slice xA xn xc, .slice xF xm xd, .slice xV xnv xcv, .slice xT (t + j) xct, .int .i64 ((t : Int) + 2 + (j : Int))] 38)) := (Below.refl _ _).alloc (Nat.le_refl _) _
            have HZ6 := Lib.hid (Cel.lit w5 #[.string xs, .slice xA xn xc, .slice xF xm xd, .slice xV xnv xcv, .slice xT (t + j) xct, .int .i64 ((t : Int) + 2 + (j : Int))] 38)
            have hs6 : (w5.alloc (.cells #[.string xs, .slice xA xn xc, .slice xF xm xd, .slice xV xnv xcv, .slice xT (t + j) xct, .int .i64 ((t : Int) + 2 + (j : Int))] 38)).heap.size = w5.heap.size + 1 := by simp
            have hb7 : Below (w5.alloc (.cells #[.string xs, .slice xA xn xc, .slice xF xm xd, .slice xV xnv xcv, .slice xT (t + j) xct, .int .i64 ((t : Int) + 2 + (j : Int))] 38)).heap.size (w5.alloc (.cells #[.string xs, .slice xA xn xc, .slice xF xm xd, .slice xV xnv xcv, .slice xT (t + j) xct, .int .i64 ((t : Int) + 2 + (j : Int))] 38)) ((w5.alloc (.cells #[.string xs, .slice xA xn xc, .slice xF xm xd, .slice xV xnv xcv, .slice xT (t + j) xct, .int .i64 ((t : Int) + 2 + (j : Int))] 38)).alloc (.cells #[.bool true, .string no] 40)) := (Below.refl _ _).alloc (Nat.le_refl _) _
            have HM7 := Lib.hid (Cel.lit (w5.alloc (.cells #[.string xs, .slice xA xn xc, .slice xF xm xd, .slice xV xnv xcv, .slice xT (t + j) xct, .int .i64 ((t : Int) + 2 + (j : Int))] 38)) #[.bool true, .string no] 40)
            rw [hs6] at HM7
            have HZ7 := Lib.hid (HZ6.out.below hb7 (Nat.le_refl _))
            have hb8 := hb6.trans (hb7.mono hb6.size)
            have HQ7 := Lib.hid (HQ5.out.below hb8 (Nat.le_refl _))
            have HB7 := Lib.hid (HB5.out.trans (hb8.mono HB5.out.size))
            clear hb6 hs6 hb7 hb8 HZ6 HQ5 HB5 HO5 HST HCR HOR HBR HFW
            generalize (w5.alloc _).alloc _ = w7 at *
            generalize w5.heap.size = qc at *
            obtain ⟨⟨o0, o1, o2, o3, o4, o5⟩, _⟩ := six_facts HQ7.out
            obtain ⟨⟨z0, z1, z2, z3, z4, z5⟩, _⟩ := six_facts HZ7.out
            have m0 := HM7.out.cell 0 _ rfl
            go_wp2
            go_ret
            exact ⟨rfl, HB7.out⟩
end Pr
end Go.Proofs.YtlmlhjepolefaaaGreatDoor
