/- TokenJoins: the walk. -/
import Derived.Test.YtlmlhjepolefaaaGreatDoorZqY
import Derived.Test.YtlmlhjepolefaaaGreatDoorYTokenChoices7
import Derived.Test.YtlmlhjepolefaaaGreatDoorYTokenChoices12
import Derived.Deep.RegionLaw
namespace Go.Proofs.YtlmlhjepolefaaaGreatDoor
open Go.RowKit

namespace Pr
theorem BdOwn.blocks {w : World} {B : Nat} {x : BdV} {b : Bd} (h : BdOwn w B x b) : ∀ a, (x.A = some a ∨ x.F = some a ∨ x.V = some a ∨ x.T = some a) → a.block < w.heap.size := by
  rintro a (ha | ha | ha | ha)
  · exact (h.nodes.block ha).2
  · exact (h.flows.block ha).2
  · exact (h.vars.block ha).2
  · exact (h.toks.block ha).2
theorem BdOwn.kept {w w' : World} {B z : Nat} {x : BdV} {b : Bd} (h : BdOwn w B x b) (hg : w.grownBy w' (some z)) (hr : ∀ a, (x.A = some a ∨ x.F = some a ∨ x.V = some a ∨ x.T = some a) → a.block < z) : BdOwn w' B x b :=
  ⟨h.s, h.k, h.nodes.kept hg (fun a ha e => by have := hr a (.inl ha); have h2 : z = a.block := Option.some.inj e; omega), h.flows.kept hg (fun a ha e => by have := hr a (.inr (.inl ha)); have h2 : z = a.block := Option.some.inj e; omega),
    h.vars.kept hg (fun a ha e => by have := hr a (.inr (.inr (.inl ha))); have h2 : z = a.block := Option.some.inj e; omega), h.toks.kept hg (fun a ha e => by have := hr a (.inr (.inr (.inr ha))); have h2 : z = a.block := Option.some.inj e; omega)⟩
theorem measK {n k : Nat} (h : k < n) : n - (intOf (.int .i64 ((k : Int) + 1))).toNat < n - (intOf (.int .i64 (k : Int))).toNat := by
  show n - ((k : Int) + 1).toNat < n - ((k : Int)).toNat
  omega
set_option maxHeartbeats 6400000 in
set_option maxRecDepth 10000 in
theorem tokenJoins_core (E : Int → Option Addr) (n : Int) (TA : Option Addr) (tn tc : Nat) (tl : List Bool) (w : World) (hn1 : -9223372036854775808 ≤ n) (hn2 : n ≤ 9223372036854775807) (ht : InRow w 1 TA tn tc (tl.map Value.bool)) (hE : ErrIn w E 116 2) (hE2 : ErrIn w E 104 1) :
    Calls Tryz.prog 3 #[.int .i64 n, .slice TA tn tc] w fun e w' => e = .returned (.bool true) ∧ Below w.heap.size w w' := by
  obtain ⟨i1, hi1, hy0, hy1, hy2⟩ := info_parts info_flow
  obtain ⟨i0, hi0, hx0, hx1, hx2⟩ := info_parts info_tok
  obtain ⟨kv, hve, hvl⟩ := nmb_nat n 4 (by omega)
  have N1 := Lib.hid (fun w => mnumber_any n 4 w (by omega) hn1 hn2 (by omega))
  rw [hve] at N1
  obtain ⟨v, hv⟩ : ∃ v : Nat, v = kv + 2 := ⟨_, rfl⟩
  have HSUM : Hid (IntKind.i64.wrap ((kv : Int) + 2) = (v : Int)) := by
    refine Lib.hid ?_
    have h : IntKind.i64.wrap ((kv : Int) + 2) = (kv : Int) + 2 := by rw [IntKind.wrap_i64]; omega
    omega
  have HV6 := Lib.hid (show v < 6 by omega)
  have HV := Lib.hid (show v < 10 by omega)
  have HV2 := Lib.hid (show 2 ≤ v by omega)
  have HV1 := Lib.hid (show 1 ≤ v by omega)
  have HT := Lib.hid ht
  have HE := Lib.hid hE
  have HE2 := Lib.hid hE2
  clear hve hn1 hn2 hvl hv hE hE2 ht
  go_enter Tryz.func3, Tryz.ntmps3
  go_wp2_with fail
  refine (tfirst_any w).mono ?_
  rintro e w1 ⟨rfl, hb1⟩
  have HB1 := Lib.hid hb1
  clear hb1
  go_wp2_with fail
  refine (N1.out _).mono ?_
  rintro e wy ⟨rfl, rfl⟩
  have hs := HSUM.out
  go_upto_region 5 with (fail)
  try rw [hs]
  clear hs N1
  by_cases htl : tn < v
  · have hI : (tn : Int) < (v : Int) := by omega
    go_wp2
    go_ret
    exact ⟨rfl, HB1.out⟩
  have hI0 : ¬ (tn : Int) < (v : Int) := by omega
  have HTN := Lib.hid (show v ≤ tn by omega)
  go_upto_region 8 with (fail)
  have hON := own_lit_k (κ := Nd.κ) w1 26 nodesJ #[.int .i64 1, .string ⟨#[]⟩, .int .i64 0, .int .i64 0, .int .i64 (-1), .string ⟨#[]⟩, .string ⟨#[]⟩, .int .i64 (-1), .int .i64 6, .string ⟨#[]⟩, .int .i64 0, .int .i64 0, .int .i64 (-1), .string ⟨#[]⟩, .string ⟨#[]⟩, .int .i64 (-1), .int .i64 6, .string ⟨#[]⟩, .int .i64 0, .int .i64 0, .int .i64 (-1), .string ⟨#[]⟩, .string ⟨#[]⟩, .int .i64 (-1), .int .i64 2, .string ⟨#[]⟩, .int .i64 0, .int .i64 0, .int .i64 (-1), .string ⟨#[]⟩, .string ⟨#[]⟩, .int .i64 (-1)] (by decide) rfl (by decide)
  have hbn : Below w1.heap.size w1 (w1.alloc (.cells #[.int .i64 1, .string ⟨#[]⟩, .int .i64 0, .int .i64 0, .int .i64 (-1), .string ⟨#[]⟩, .string ⟨#[]⟩, .int .i64 (-1), .int .i64 6, .string ⟨#[]⟩, .int .i64 0, .int .i64 0, .int .i64 (-1), .string ⟨#[]⟩, .string ⟨#[]⟩, .int .i64 (-1), .int .i64 6, .string ⟨#[]⟩, .int .i64 0, .int .i64 0, .int .i64 (-1), .string ⟨#[]⟩, .string ⟨#[]⟩, .int .i64 (-1), .int .i64 2, .string ⟨#[]⟩, .int .i64 0, .int .i64 0, .int .i64 (-1), .string ⟨#[]⟩, .string ⟨#[]⟩, .int .i64 (-1)] 26)) := (Below.refl _ _).alloc (Nat.le_refl _) _
  have hsn : (w1.alloc (.cells #[.int .i64 1, .string ⟨#[]⟩, .int .i64 0, .int .i64 0, .int .i64 (-1), .string ⟨#[]⟩, .string ⟨#[]⟩, .int .i64 (-1), .int .i64 6, .string ⟨#[]⟩, .int .i64 0, .int .i64 0, .int .i64 (-1), .string ⟨#[]⟩, .string ⟨#[]⟩, .int .i64 (-1), .int .i64 6, .string ⟨#[]⟩, .int .i64 0, .int .i64 0, .int .i64 (-1), .string ⟨#[]⟩, .string ⟨#[]⟩, .int .i64 (-1), .int .i64 2, .string ⟨#[]⟩, .int .i64 0, .int .i64 0, .int .i64 (-1), .string ⟨#[]⟩, .string ⟨#[]⟩, .int .i64 (-1)] 26)).heap.size = w1.heap.size + 1 := by simp
  generalize w1.alloc (.cells #[.int .i64 1, .string ⟨#[]⟩, .int .i64 0, .int .i64 0, .int .i64 (-1), .string ⟨#[]⟩, .string ⟨#[]⟩, .int .i64 (-1), .int .i64 6, .string ⟨#[]⟩, .int .i64 0, .int .i64 0, .int .i64 (-1), .string ⟨#[]⟩, .string ⟨#[]⟩, .int .i64 (-1), .int .i64 6, .string ⟨#[]⟩, .int .i64 0, .int .i64 0, .int .i64 (-1), .string ⟨#[]⟩, .string ⟨#[]⟩, .int .i64 (-1), .int .i64 2, .string ⟨#[]⟩, .int .i64 0, .int .i64 0, .int .i64 (-1), .string ⟨#[]⟩, .string ⟨#[]⟩, .int .i64 (-1)] 26) = wn at *
  have hOF := own_lit_k (κ := Fl.κ) wn 29 (flowsM 0) #[.int .i64 0, .int .i64 1, .string ⟨#[]⟩, .int .i64 2, .int .i64 3, .string ⟨#[]⟩] (by decide) rfl (by decide)
  have hbf : Below wn.heap.size wn (wn.alloc (.cells #[.int .i64 0, .int .i64 1, .string ⟨#[]⟩, .int .i64 2, .int .i64 3, .string ⟨#[]⟩] 29)) := (Below.refl _ _).alloc (Nat.le_refl _) _
  have hsf : (wn.alloc (.cells #[.int .i64 0, .int .i64 1, .string ⟨#[]⟩, .int .i64 2, .int .i64 3, .string ⟨#[]⟩] 29)).heap.size = w1.heap.size + 2 := by simp; omega
  generalize wn.alloc (.cells #[.int .i64 0, .int .i64 1, .string ⟨#[]⟩, .int .i64 2, .int .i64 3, .string ⟨#[]⟩] 29) = wf at *
  have hOP := Cel.lit wf #[.string ⟨#[112]⟩, .slice (some ⟨w1.heap.size, 0, none⟩) 4 4, .slice (some ⟨w1.heap.size + 1, 0, none⟩) 2 2] 32
  have hbp : Below wf.heap.size wf (wf.alloc (.cells #[.string ⟨#[112]⟩, .slice (some ⟨w1.heap.size, 0, none⟩) 4 4, .slice (some ⟨w1.heap.size + 1, 0, none⟩) 2 2] 32)) := (Below.refl _ _).alloc (Nat.le_refl _) _
  have hsp : (wf.alloc (.cells #[.string ⟨#[112]⟩, .slice (some ⟨w1.heap.size, 0, none⟩) 4 4, .slice (some ⟨w1.heap.size + 1, 0, none⟩) 2 2] 32)).heap.size = w1.heap.size + 3 := by simp; omega
  generalize wf.alloc (.cells #[.string ⟨#[112]⟩, .slice (some ⟨w1.heap.size, 0, none⟩) 4 4, .slice (some ⟨w1.heap.size + 1, 0, none⟩) 2 2] 32) = wp at *
  rw [hsf] at hOP
  rw [hsn] at hOF
  have HON := Lib.hid ((hON.below hbf (by omega)).below hbp (by omega))
  have HOF := Lib.hid (hOF.below hbp (Nat.le_refl _))
  have HOP : Hid (Cel _ (w1.heap.size + 1 + 1) _) := Lib.hid hOP
  have HBP := Lib.hid (HB1.out.trans ((hbn.trans ((hbf.trans (hbp.mono hbf.size)).mono hbn.size)).mono HB1.out.size))
  have HSZ := Lib.hid hsp
  have HQL := Lib.hid HB1.out.size
  clear hON hOF hOP hbn hbf hbp hsn hsf hsp HB1
  generalize w1.heap.size = nb at *
  go_wp2_with fail
  go_loopw [7] (fun i wr => ∃ (j : Nat) (Fa : Option Addr) (d : Nat), j ≤ v ∧ i = .int .i64 j ∧ Cel wr (nb + 1 + 1) [.string ⟨#[112]⟩, .slice (some ⟨nb, 0, none⟩) 4 4, .slice Fa (j + 2) d] ∧ OwnK Fl.κ wr (nb + 1) 29 Fa (j + 2) d (flowsM j) ∧ OwnK Nd.κ wr nb 26 (some ⟨nb, 0, none⟩) 4 4 nodesJ ∧ (∀ a, Fa = some a → a.block ≠ nb + 1 + 1) ∧ Below w.heap.size w wr ∧ nb + 3 ≤ wr.heap.size) (fun i _ => v - (intOf i).toNat)
  case atStart => exact ⟨0, _, 2, Nat.zero_le _, rfl, HOP.out, HOF.out, HON.out, (fun a ha e => by obtain rfl := Option.some.inj ha; have e : nb + 1 = nb + 1 + 1 := e; omega), HBP.out, by have := HSZ.out; omega⟩
  case round =>
    obtain ⟨j, Fa, d, hj, rfl, hc, hf, hn, hne, hbr, hsr⟩ := hrel
    have hj0 : (0 : Int) ≤ (j : Int) := by omega
    by_cases hlt : j < v
    · have hI : (j : Int) < (v : Int) := by omega
      have hba : Below wr.heap.size wr (wr.alloc (.cells #[.int .i64 1, .int .i64 2, .string ⟨#[]⟩] 29)) := (Below.refl _ _).alloc (Nat.le_refl _) _
      have HCa := Lib.hid (hc.below hba (Nat.le_refl _))
      have HFa := Lib.hid (hf.below hba (Nat.le_refl _))
      have HNa := Lib.hid (hn.below hba (Nat.le_refl _))
      have HBa := Lib.hid (hbr.trans (hba.mono hbr.size))
      have HNE := Lib.hid hne
      have HR : Hid (KRow Fl.κ (wr.alloc (.cells #[.int .i64 1, .int .i64 2, .string ⟨#[]⟩] 29)) (wr.heap.size + 1) (some ⟨wr.heap.size, 0, none⟩) 1 [⟨1, 2, no⟩]) := Lib.hid (KRow.lit (κ := Fl.κ) wr 29 [⟨1, 2, no⟩] #[.int .i64 1, .int .i64 2, .string ⟨#[]⟩] rfl)
      have hbase : nb + 1 ≤ (wr.alloc (.cells #[.int .i64 1, .int .i64 2, .string ⟨#[]⟩] 29)).heap.size := by have := hba.size; omega
      have hsa : nb + 3 ≤ (wr.alloc (.cells #[.int .i64 1, .int .i64 2, .string ⟨#[]⟩] 29)).heap.size := by have := hba.size; omega
      obtain ⟨⟨c0, c1, c2⟩, f0, f1, f2⟩ := tri_facts hc
      have hql := hc.lt
      have hjl : j + 2 ≤ 1000000 := by have := HV.out; omega
      clear hc hf hn hne hbr hba
      go_wp2_with (at_builtin; refine append_k (κ := Fl.κ) rfl (.tmp 45) (.tmp 47) 30 29 i1 _ 32 Tryz.underlying30 hi1 hy0 hy1 hy2 rfl rfl _ (nb + 1) _ Fa (j + 2) d (flowsM j) ⟨wr.heap.size, 0, none⟩ ⟨1, 2, no⟩ rfl HFa.out rfl HR.out hjl (by decide) hbase ?_; intro F' d' w' ho hg; have hcw := HCa.out.kept hg.grown (fun e => by obtain ⟨a', h1, h2⟩ := blk_of e; exact HNE.out a' h1 h2); obtain ⟨⟨m0, m1, m2⟩, n0, n1, n2⟩ := tri_facts hcw; have HX1 := Lib.hid ho; have HX2 := Lib.hid hg; have HX3 := Lib.hid hcw; clear ho hg hcw)
      have hneF : ∀ a, F' = some a → a.block ≠ nb + 1 + 1 := fun a ha => by
        rcases grew_block HX2.out HX1.out ha with ⟨a0, h1, h2⟩ | h1
        · rw [← h2]; exact HNE.out a0 h1
        · omega
      have hs1 : w'.grownBy (w'.setCell ⟨nb + 1 + 1, 2, none⟩ (.slice F' (j + 2 + 1) d')) (some (nb + 1 + 1)) := grown_setCell w' ⟨nb + 1 + 1, 2, none⟩ _
      have HC2 := Lib.hid (HX3.out.set (i := 2) (by simp) (.slice F' (j + 2 + 1) d'))
      have HF2 := Lib.hid (HX1.out.kept hs1 (fun a ha e => hneF a ha (Option.some.inj e).symm))
      have HN2 := Lib.hid ((HNa.out.kept HX2.out.grown (fun a ha e => by obtain ⟨a', h1, h2⟩ := blk_of e; exact HNa.out.apart HFa.out (by decide) ha h1 h2.symm)).kept hs1 (fun a ha e => by have h3 : nb + 1 + 1 = a.block := Option.some.inj e; have h4 : nb = a.block := (by rw [← Option.some.inj ha]); omega))
      have HB2 := Lib.hid ((HBa.out.trans ((HX2.out.below HFa.out.2 hbase).mono (by have := HQL.out; omega))).setCell (p := ⟨nb + 1 + 1, 2, none⟩) (by show w.heap.size ≤ nb + 1 + 1; have := HQL.out; omega) (.slice F' (j + 2 + 1) d'))
      have HS2 := Lib.hid (show nb + 3 ≤ (w'.setCell ⟨nb + 1 + 1, 2, none⟩ (.slice F' (j + 2 + 1) d')).heap.size by have := HX2.out.size; simp at this ⊢; omega)
      have HNF := Lib.hid hneF
      have HFS := Lib.hid (flowsM_snoc j)
      clear hneF hs1 m0 m1 m2 n0 n1 n2 c0 c1 c2 f0 f1 f2
      go_wp2_with fail
      go_roundw
      case measure => simp [intOf]; omega
      case rel => exact ⟨j + 1, F', d', by omega, by go_num, by rw [show j + 1 + 2 = j + 2 + 1 by omega]; exact HC2.out, by rw [show j + 1 + 2 = j + 2 + 1 by omega, HFS.out]; exact HF2.out, HN2.out, HNF.out, HB2.out, HS2.out⟩
    · obtain rfl : v = j := by omega
      have hI : ¬ ((v : Int) < (v : Int)) := by omega
      have HPC := Lib.hid hc
      have HFr := Lib.hid hf
      have HNr := Lib.hid hn
      have HBr := Lib.hid hbr
      obtain ⟨⟨c0, c1, c2⟩, _⟩ := tri_facts hc
      have hbt : Below wr.heap.size wr (wr.alloc (.cells #[.int .i64 1, .int .i64 1, .int .i64 0, .bool false] 34)) := (Below.refl _ _).alloc (Nat.le_refl _) _
      have HR0 := Lib.hid (KRow.lit (κ := Tk.κ) wr 34 [⟨1, 1, 0, false⟩] #[.int .i64 1, .int .i64 1, .int .i64 0, .bool false] rfl)
      have hst : (wr.alloc (.cells #[.int .i64 1, .int .i64 1, .int .i64 0, .bool false] 34)).heap.size = wr.heap.size + 1 := by simp
      have HIN : Hid (BdIn (wr.alloc (.cells #[.int .i64 1, .int .i64 1, .int .i64 0, .bool false] 34)) (wr.alloc (.cells #[.int .i64 1, .int .i64 1, .int .i64 0, .bool false] 34)).heap.size ⟨⟨#[112]⟩, some ⟨nb, 0, none⟩, 4, 4, Fa, v + 2, d, none, 0, 0, some ⟨wr.heap.size, 0, none⟩, 1, 1, 2⟩ (bJ v)) := Lib.hid ⟨rfl, rfl, (hn.row.below hbt (Nat.le_refl _)).mono hbt.size, (hf.row.below hbt (Nat.le_refl _)).mono hbt.size, KRow.nil _ _ _, HR0.out.mono (by simp), hn.nn, hf.nn, fun _ => ⟨rfl, rfl⟩, fun h => nomatch h⟩
      have HFEW : Hid (bJ v).Few := Lib.hid (few_J HV6.out (by decide) (by decide) (by decide))
      have hba : Below (wr.alloc (.cells #[.int .i64 1, .int .i64 1, .int .i64 0, .bool false] 34)).heap.size (wr.alloc (.cells #[.int .i64 1, .int .i64 1, .int .i64 0, .bool false] 34)) ((wr.alloc (.cells #[.int .i64 1, .int .i64 1, .int .i64 0, .bool false] 34)).alloc (.cells #[.string ⟨#[112]⟩, .slice (some ⟨nb, 0, none⟩) 4 4, .slice Fa (v + 2) d, .slice none 0 0, .slice (some ⟨wr.heap.size, 0, none⟩) 1 1, .int .i64 2] 38)) := (Below.refl _ _).alloc (Nat.le_refl _) _
      have HQC := Lib.hid (Cel.lit (wr.alloc (.cells #[.int .i64 1, .int .i64 1, .int .i64 0, .bool false] 34)) #[.string ⟨#[112]⟩, .slice (some ⟨nb, 0, none⟩) 4 4, .slice Fa (v + 2) d, .slice none 0 0, .slice (some ⟨wr.heap.size, 0, none⟩) 1 1, .int .i64 2] 38)
      rw [hst] at HQC
      have hbta := hbt.trans (hba.mono hbt.size)
      have HBA := Lib.hid (hbr.trans (hbta.mono hbr.size))
      have HINa := Lib.hid (HIN.out.on hba)
      have hcnd : ∀ (W : World) (u : Nat), (bJ v).toks[(0 : Nat)]!.node = (u : Int) → ∀ f ∈ outsB (bJ v).p u, CondOk E W none 0 0 (bJ v).vars (bJ v).p.flows[f]!.cond := fun W u _ f _ => .inl (congrArg ByteArray.size (condM v f))
      have HST : Hid (Calls Tryz.prog 9 #[BdV.val ⟨⟨#[112]⟩, some ⟨nb, 0, none⟩, 4, 4, Fa, v + 2, d, none, 0, 0, some ⟨wr.heap.size, 0, none⟩, 1, 1, 2⟩, .int .i64 0] _ (StepOut (bstep (bJ v) 0) E _)) := Lib.hid (step_any E 0 ⟨⟨#[112]⟩, some ⟨nb, 0, none⟩, 4, 4, Fa, v + 2, d, none, 0, 0, some ⟨wr.heap.size, 0, none⟩, 1, 1, 2⟩ (bJ v) _ HINa.out HFEW.out (by show (pJ v).m ≤ 90000; rw [pJ_m]; have := HV.out; omega) (List.pairwise_singleton _ _) (rdyJ0 v HV6.out) (hcnd _) (HE.out.below HBA.out) (HE2.out.below HBA.out))
      rw [bstepJ v HV6.out HV2.out] at HST
      unfold BdV.val at HST
      dsimp only at HST
      clear hc hf hn hne hbr hba hbt hst hbta hcnd HIN HFEW HR0
      go_upto_region 13 with (fail)
      generalize (wr.alloc _).alloc _ = wb at *
      generalize wr.heap.size = qt at *
      clear c0 c1 c2
      obtain ⟨⟨o0, o1, o2, o3, o4, o5⟩, _⟩ := six_facts HQC.out
      have hqb := HQC.out.lt
      go_upto_region 14 with (go_at_call 9; refine HST.out.mono ?_; rintro e w5 ⟨⟨⟨xs, xA, xn, xc, xF, xm, xd, xV, xnv, xcv, xT, xnt, xct, xk⟩, ev, rfl, hs, hO⟩, hb5⟩; have HO5 := Lib.hid hO; have HB5 := Lib.hid (HBA.out.trans (hb5.mono HBA.out.size)); obtain rfl := seen_nil hs; clear hs hO hb5; dsimp only [BdV.val])
      have hqt : v = xnt := (HO5.out.inn.ht.trans (by show ((List.range v).map tkJ).length = v; simp)).symm
      have hqk : (v : Int) + 2 = xk := HO5.out.inn.k.symm
      subst hqt hqk
      obtain ⟨gc, hg, _, hgl⟩ := HO5.out.toks.some_of (show 0 < v by have := HV1.out; omega)
      dsimp only at hg
      subst hg
      have hb6 : Below w5.heap.size w5 (w5.alloc (.cells #[.string xs, .slice xA xn xc, .slice xF xm xd, .slice xV xnv xcv, .slice (some ⟨gc, 0, none⟩) v xct, .int .i64 ((v : Int) + 2)] 38)) := (Below.refl _ _).alloc (Nat.le_refl _) _
      have HZ6 := Lib.hid (Cel.lit w5 #[.string xs, .slice xA xn xc, .slice xF xm xd, .slice xV xnv xcv, .slice (some ⟨gc, 0, none⟩) v xct, .int .i64 ((v : Int) + 2)] 38)
      have hs6 : (w5.alloc (.cells #[.string xs, .slice xA xn xc, .slice xF xm xd, .slice xV xnv xcv, .slice (some ⟨gc, 0, none⟩) v xct, .int .i64 ((v : Int) + 2)] 38)).heap.size = w5.heap.size + 1 := by simp
      have hb7 : Below (w5.alloc (.cells #[.string xs, .slice xA xn xc, .slice xF xm xd, .slice xV xnv xcv, .slice (some ⟨gc, 0, none⟩) v xct, .int .i64 ((v : Int) + 2)] 38)).heap.size (w5.alloc (.cells #[.string xs, .slice xA xn xc, .slice xF xm xd, .slice xV xnv xcv, .slice (some ⟨gc, 0, none⟩) v xct, .int .i64 ((v : Int) + 2)] 38)) ((w5.alloc (.cells #[.string xs, .slice xA xn xc, .slice xF xm xd, .slice xV xnv xcv, .slice (some ⟨gc, 0, none⟩) v xct, .int .i64 ((v : Int) + 2)] 38)).alloc (.cells #[.bool true, .string no] 40)) := (Below.refl _ _).alloc (Nat.le_refl _) _
      have HM7 := Lib.hid (Cel.lit (w5.alloc (.cells #[.string xs, .slice xA xn xc, .slice xF xm xd, .slice xV xnv xcv, .slice (some ⟨gc, 0, none⟩) v xct, .int .i64 ((v : Int) + 2)] 38)) #[.bool true, .string no] 40)
      rw [hs6] at HM7
      have HZ7 := Lib.hid (HZ6.out.below hb7 (Nat.le_refl _))
      have hb8 := hb6.trans (hb7.mono hb6.size)
      have HB7 := Lib.hid (HB5.out.trans (hb8.mono HB5.out.size))
      have HO7 := Lib.hid (HO5.out.below hb8)
      have HBL := Lib.hid HO5.out.blocks
      have hs7 : ((w5.alloc (.cells #[.string xs, .slice xA xn xc, .slice xF xm xd, .slice xV xnv xcv, .slice (some ⟨gc, 0, none⟩) v xct, .int .i64 ((v : Int) + 2)] 38)).alloc (.cells #[.bool true, .string no] 40)).heap.size = w5.heap.size + 2 := by simp
      have hw5 : w.heap.size ≤ w5.heap.size := HB5.out.size
      clear hb6 hs6 hb7 hb8 HZ6 HB5 HO5 HST o0 o1 o2 o3 o4 o5 HQC HBA HINa HPC HFr HNr HBr
      generalize (w5.alloc _).alloc _ = w7 at *
      generalize w5.heap.size = qc at *
      obtain ⟨⟨z0, z1, z2, z3, z4, z5⟩, _⟩ := six_facts HZ7.out
      have m0 := HM7.out.cell 0 _ rfl
      have hb9 : Below w7.heap.size w7 (w7.alloc (.cells #[.string xs, .slice xA xn xc, .slice xF xm xd, .slice xV xnv xcv, .slice none 0 0, .int .i64 ((v : Int) + 2)] 38)) := (Below.refl _ _).alloc (Nat.le_refl _) _
      have HD8 : Hid (Cel _ (qc + 2) [.string xs, .slice xA xn xc, .slice xF xm xd, .slice xV xnv xcv, .slice none 0 0, .int .i64 ((v : Int) + 2)]) := Lib.hid (hs7 ▸ Cel.lit w7 #[.string xs, .slice xA xn xc, .slice xF xm xd, .slice xV xnv xcv, .slice none 0 0, .int .i64 ((v : Int) + 2)] 38)
      have HZ8 := Lib.hid (HZ7.out.below hb9 (Nat.le_refl _))
      have HO8 := Lib.hid (HO7.out.below hb9)
      have HB8 := Lib.hid (HB7.out.trans (hb9.mono HB7.out.size))
      have hs8 : (w7.alloc (.cells #[.string xs, .slice xA xn xc, .slice xF xm xd, .slice xV xnv xcv, .slice none 0 0, .int .i64 ((v : Int) + 2)] 38)).heap.size = qc + 3 := by simp; omega
      have HGW := Lib.hid (show w.heap.size ≤ qc + 2 by omega)
      clear hb9
      go_upto_region 18 with (fail)
      generalize w7.alloc _ = w8 at *
      have HS8 := Lib.hid hs8
      have HGL := Lib.hid hgl
      obtain ⟨T, hT⟩ : ∃ T : Nat → Bool, T = fun i => tl[i]! := ⟨_, rfl⟩
      obtain ⟨tb, toff, hta, _, hcells⟩ := HT.out.row.2 (by have := HV1.out; have := HTN.out; omega)
      have htl2 : tl.length = tn := by have := HT.out.row.1; simpa using this
      have HTC : Hid (∀ wr, Below w.heap.size w wr → ∀ j, j < tn → wr.cell? ⟨tb, toff + j, none⟩ = some (.bool (T j))) := Lib.hid (fun wr hb j hj => by
        refine below_cells hb (hcells j _ ?_)
        rw [hT, List.getElem?_map, List.getElem?_eq_getElem (by omega)]
        show some (Value.bool tl[j]) = some (Value.bool tl[j]!)
        rw [getElem!_pos tl j (by omega)])
      subst hta
      clear hT hcells htl2 z0 z1 z2 z3 z4 z5 m0 HM7 HZ7 HO7 HB7 hs7 hs8 hgl HT
      go_wp2_with fail
      go_loopw [13, 14] (fun a i wr => ∃ (j : Nat) (D : Option Addr) (dc : Nat), j ≤ v ∧ a = .bool ((List.range j).all T) ∧ i = .int .i64 j ∧ Cel wr (qc + 2) [.string xs, .slice xA xn xc, .slice xF xm xd, .slice xV xnv xcv, .slice D (dT T j).length dc, .int .i64 ((v : Int) + 2)] ∧ OwnK Tk.κ wr (qc + 3) 34 D (dT T j).length dc (dT T j) ∧ w8.grownBy wr (some (qc + 2)) ∧ Below w.heap.size w wr) (fun _ i _ => v - (intOf i).toNat)
      case atStart => exact ⟨0, none, 0, Nat.zero_le _, rfl, rfl, HD8.out, ⟨by decide, World.ownsRow_nil _ _ _ _⟩, World.grownBy.refl _ _, HB8.out⟩
      case round =>
        obtain ⟨j, D, dc, hj, rfl, rfl, hc, ho, hg, hbr⟩ := hrel
        have hj0 : (0 : Int) ≤ (j : Int) := by omega
        have hv6 := HV6.out
        have HZr := Lib.hid (HZ8.out.kept hg (fun e => by have h2 : qc + 2 = qc := Option.some.inj e; omega))
        have HOr := Lib.hid (HO8.out.kept hg (fun a ha => by have := HBL.out a ha; omega))
        have HCR := Lib.hid hc
        have HOW := Lib.hid ho
        have HGR := Lib.hid hg
        have HBR := Lib.hid hbr
        by_cases hlt : j < v
        · have hI : (j : Int) < (v : Int) := by omega
          have hIT : (j : Int) < (tn : Int) := by have := HTN.out; omega
          have ht := HTC.out wr hbr j (by have := HTN.out; omega)
          have htk := tk_at (j := j) HOr.out.toks.row hlt
          rw [cJ_get hlt] at htk
          obtain ⟨t0, t1, t2, t3⟩ := htk
          dsimp only [tkJ] at t0 t1 t2 t3
          simp only [Nat.zero_add] at t0 t1 t2 t3
          obtain ⟨⟨d0, d1, d2, d3, d4, d5⟩, e0, e1, e2, e3, e4, e5⟩ := six_facts hc
          obtain ⟨⟨z0, z1, z2, z3, z4, z5⟩, _⟩ := six_facts HZr.out
          have hadd : (2 : Int) + (j : Int) = (2 : Int) + (j : Int) := rfl
          have HSN := Lib.hid (dT_snoc T j)
          have HAS := Lib.hid (all_snoc T j)
          clear hc ho hg hbr hadd
          cases hTj : T j with
          | false =>
            rw [hTj] at ht HSN HAS
            rw [if_neg (by decide), List.append_nil] at HSN
            rw [Bool.and_false] at HAS
            clear hTj
            go_wp2_with fail
            go_roundw
            case measure => simp [intOf]; omega
            case rel => exact ⟨j + 1, D, dc, hlt, by rw [HAS.out], by go_num, by rw [HSN.out]; exact HCR.out, by rw [HSN.out]; exact HOW.out, HGR.out, HBR.out⟩
          | true =>
            rw [hTj] at ht HSN HAS
            rw [if_pos rfl] at HSN
            rw [Bool.and_true] at HAS
            clear hTj
            go_upto_region 23 with (fail)
            have hs8 := HS8.out
            have hgl := HGL.out
            have hsr : w8.heap.size ≤ wr.heap.size := HGR.out.size
            have hbd : Below wr.heap.size wr wr.drew := (Below.refl _ _).drew
            have hba : Below wr.drew.heap.size wr.drew (wr.drew.alloc (.cells #[.int .i64 (2 + (j : Int)), .int .i64 2, .int .i64 (2 + (j : Int)), .bool false] 34)) := (Below.refl _ _).alloc (Nat.le_refl _) _
            have hbda : Below wr.heap.size wr (wr.drew.alloc (.cells #[.int .i64 (2 + (j : Int)), .int .i64 2, .int .i64 (2 + (j : Int)), .bool false] 34)) := hbd.trans hba
            have HDa := Lib.hid (HCR.out.below hbda (Nat.le_refl _))
            have HOa := Lib.hid (HOW.out.below hbda (Nat.le_refl _))
            have HBa := Lib.hid (HBR.out.trans (hbda.mono HBR.out.size))
            have HGa := Lib.hid (grown_low HGR.out hbda hsr)
            obtain ⟨⟨d0', d1', d2', d3', d4', d5'⟩, _⟩ := six_facts (HCR.out.below hbd (Nat.le_refl _))
            obtain ⟨⟨z0', z1', z2', z3', z4', z5'⟩, _⟩ := six_facts (HZr.out.below hbd (Nat.le_refl _))
            have t0' := below_cells hbd t0
            have t1' := below_cells hbd t1
            have t2' := below_cells hbd t2
            have t3' := below_cells hbd t3
            have HR : Hid (KRow Tk.κ (wr.drew.alloc (.cells #[.int .i64 (2 + (j : Int)), .int .i64 2, .int .i64 (2 + (j : Int)), .bool false] 34)) (wr.drew.heap.size + 1) (some ⟨wr.drew.heap.size, 0, none⟩) 1 [tkJ j]) := Lib.hid (KRow.lit (κ := Tk.κ) wr.drew 34 [tkJ j] #[.int .i64 (2 + (j : Int)), .int .i64 2, .int .i64 (2 + (j : Int)), .bool false] rfl)
            have hlen : (dT T j).length ≤ 1000000 := by have := dT_len T j; omega
            have hbase : qc + 3 ≤ (wr.drew.alloc (.cells #[.int .i64 (2 + (j : Int)), .int .i64 2, .int .i64 (2 + (j : Int)), .bool false] 34)).heap.size := by have := hbda.size; omega
            have hl1 : qc + 2 < wr.heap.size := by omega
            have hl2 : qc < wr.heap.size := by omega
            have hl3 : gc < wr.heap.size := by omega
            have hl4 : ¬ qc + 2 = wr.heap.size := by omega
            have hl5 : ¬ qc = wr.heap.size := by omega
            have hl6 : ¬ gc = wr.heap.size := by omega
            have h1 : ∀ a, D = some a → a.block ≠ qc + 2 := fun a ha => by have := (HOW.out.block ha).1; omega
            clear hbd hba hbda
            go_region_law (refine step_append_k (κ := Tk.κ) rfl (.tmp 86) (.tmp 92) 35 34 i0 _ 32 Tryz.underlying35 hi0 hx0 hx1 hx2 rfl rfl _ (qc + 3) _ D (dT T j).length dc (dT T j) ⟨wr.drew.heap.size, 0, none⟩ (tkJ j) rfl HOa.out rfl HR.out hlen (by decide) hbase ?_; intro D' dc' w' ho' hg'; obtain ⟨⟨x0, x1, x2, x3, x4, x5⟩, y0, y1, y2, y3, y4, y5⟩ := six_facts (cel_grew HDa.out hg' h1))
            all_goals
              have hgs : w'.grownBy (w'.setCell ⟨qc + 2, 4, none⟩ (.slice D' ((dT T j).length + 1) dc')) (some (qc + 2)) := grown_setCell w' ⟨qc + 2, 4, none⟩ _
              have hbw := hg'.below HOa.out.2 hbase
              have hneD : ∀ a, D' = some a → a.block ≠ qc + 2 := fun a ha => by have := (ho'.block ha).1; omega
              have HGz := Lib.hid (grown_trans (grown_low HGa.out hbw (by omega)) hgs)
              have HDz := Lib.hid ((cel_grew HDa.out hg' h1).set (i := 4) (by simp) (.slice D' ((dT T j).length + 1) dc'))
              have HOz := Lib.hid (ho'.kept hgs (fun a ha e => hneD a ha (Option.some.inj e).symm))
              have HBz := Lib.hid ((HBa.out.trans (hbw.mono (by have := HGW.out; omega))).setCell (p := ⟨qc + 2, 4, none⟩) HGW.out (.slice D' ((dT T j).length + 1) dc'))
              have HZz := Lib.hid (HZ8.out.kept HGz.out (fun e => by have h2 : qc + 2 = qc := Option.some.inj e; omega))
              have HOc := Lib.hid (HO8.out.kept HGz.out (fun a ha => by have := HBL.out a ha; omega))
              clear d0 d1 d2 d3 d4 d5 e0 e1 e2 e3 e4 e5 z0 z1 z2 z3 z4 z5 t0 t1 t2 t3 d0' d1' d2' d3' d4' d5' z0' z1' z2' z3' z4' z5' t0' t1' t2' t3' x0 x1 x2 x3 x4 x5 y0 y1 y2 y3 y4 y5 ht hs8 hsr hl1 hl2 hl3 hl4 hl5 hl6 h1 hlen hbase hgs hbw hneD ho' hg' HDa HOa HBa HGa HR HZr HOr HCR HOW HGR HBR
              generalize w'.setCell _ _ = wz at *
              have htk := tk_at (j := j) HOc.out.toks.row hlt
              rw [cJ_get hlt] at htk
              obtain ⟨t0, t1, t2, t3⟩ := htk
              dsimp only [tkJ] at t0 t1 t2 t3
              simp only [Nat.zero_add] at t0 t1 t2 t3
              obtain ⟨⟨z0, z1, z2, z3, z4, z5⟩, _⟩ := six_facts HZz.out
              go_wp2_with fail
              go_roundw
              case measure => simp [intOf]; omega
              case rel => exact ⟨j + 1, D', dc', hlt, by rw [HAS.out], by go_num, by rw [HSN.out, List.length_append]; exact HDz.out, by rw [HSN.out, List.length_append]; exact HOz.out, HGz.out, HBz.out⟩
        · obtain rfl : v = j := by omega
          have hI : ¬ ((v : Int) < (v : Int)) := by omega
          have HDI : Hid (BdIn wr wr.heap.size ⟨xs, xA, xn, xc, xF, xm, xd, xV, xnv, xcv, D, (dT T v).length, dc, (v : Int) + 2⟩ (dJ v T)) := Lib.hid ⟨HOr.out.s, rfl, HOr.out.nodes.row, HOr.out.flows.row, HOr.out.vars.row, HOW.out.row, HOr.out.nodes.nn, HOr.out.flows.nn, HOr.out.vars.nn, HOW.out.nn⟩
          have HFD : Hid (dJ v T).Few := Lib.hid (few_J HV6.out (by have := dT_len T v; omega) (by omega) (by omega))
          have HFC : Hid (cJ v).Few := Lib.hid (few_J HV6.out (by simp; omega) (by omega) (by omega))
          have HAC := Lib.hid (dT_asc T v)
          have hacc : Asc (cJ v).toks := by rw [cJ_eq]; exact dT_asc _ _
          have HRD := Lib.hid (fun k hk => rdyJ v T HV6.out HV2.out k hk)
          have hcnd : ∀ (W : World) (u : Nat), (cJ v).toks[(0 : Nat)]!.node = (u : Int) → ∀ f ∈ outsB (cJ v).p u, CondOk E W xV xnv xcv (cJ v).vars (cJ v).p.flows[f]!.cond := fun W u _ f _ => .inl (congrArg ByteArray.size (condM v f))
          have HST2 : Hid (∀ W, Below wr.heap.size wr W → Calls Tryz.prog 9 #[BdV.val ⟨xs, xA, xn, xc, xF, xm, xd, xV, xnv, xcv, some ⟨gc, 0, none⟩, v, xct, (v : Int) + 2⟩, .int .i64 0] W (StepOut (bstep (cJ v) 0) E W)) := Lib.hid (fun W hW => step_any E 0 ⟨xs, xA, xn, xc, xF, xm, xd, xV, xnv, xcv, some ⟨gc, 0, none⟩, v, xct, (v : Int) + 2⟩ (cJ v) W (HOr.out.inn.on hW) HFC.out (by show (pJ v).m ≤ 90000; rw [pJ_m]; omega) hacc (rdyJ2 v HV6.out HV2.out) (hcnd _) ((HE.out.below HBR.out).below hW) ((HE2.out.below HBR.out).below hW))
          rw [bstepJ2 v HV6.out HV2.out] at HST2
          unfold BdV.val at HST2
          dsimp only at HST2
          generalize (List.range v).all T = av at *
          clear hacc hcnd hc ho hg hbr
          generalize wr = w9 at *
          go_wp2_with fail
          go_loopw [15] (fun i wr => ∃ k : Nat, k ≤ (dT T v).length ∧ i = .int .i64 k ∧ Below w9.heap.size w9 wr) (fun i _ => (dT T v).length - (intOf i).toNat)
          case atStart => exact ⟨0, Nat.zero_le _, rfl, Below.refl _ _⟩
          case round =>
            obtain ⟨k, hk, rfl, hbk⟩ := hrel
            have hk0 : (0 : Int) ≤ (k : Int) := by omega
            have HBK := Lib.hid hbk
            have hdl := dT_len T v
            obtain ⟨⟨d0, d1, d2, d3, d4, d5⟩, _⟩ := six_facts (HCR.out.below hbk (Nat.le_refl _))
            by_cases hlk : k < (dT T v).length
            · have hJ : (k : Int) < ((dT T v).length : Int) := by omega
              have HRY := Lib.hid (ready_any (k : Int) ⟨xs, xA, xn, xc, xF, xm, xd, xV, xnv, xcv, D, (dT T v).length, dc, (v : Int) + 2⟩ (dJ v T) wr (HDI.out.on hbk) HFD.out HAC.out)
              unfold BdV.val at HRY
              dsimp only at HRY
              have hrd := HRD.out k hlk
              cases av with
              | false =>
                have HRF := Lib.hid (fun (r : Bool) (h : r = true ↔ Rdy (dJ v T) (k : Int)) => (show r = false by cases r with | false => rfl | true => exact absurd (hrd.1 (h.1 rfl)).1 (by decide)))
                clear hrd hbk
                go_wp2_with (go_at_call 10; refine HRY.out.mono ?_; rintro e w10 ⟨⟨r, rfl, hr⟩, hb10⟩; obtain rfl := HRF.out r hr; have HBT := Lib.hid (HBK.out.trans (hb10.mono HBK.out.size)); clear hb10 hr)
                go_roundw
                case measure => exact measK hlk
                case rel => exact ⟨k + 1, hlk, by go_num, HBT.out⟩
              | true =>
                by_cases hkz : k = 0
                · subst hkz
                  have HRF := Lib.hid (fun (r : Bool) (h : r = true ↔ Rdy (dJ v T) ((0 : Nat) : Int)) => (h.2 (hrd.2 ⟨rfl, rfl⟩) : r = true))
                  clear hrd hbk
                  go_wp2_with (go_at_call 10; refine HRY.out.mono ?_; rintro e w10 ⟨⟨r, rfl, hr⟩, hb10⟩; obtain rfl := HRF.out r hr; have HBT := Lib.hid (HBK.out.trans (hb10.mono HBK.out.size)); clear hb10 hr)
                  go_roundw
                  case measure => exact measK hlk
                  case rel => exact ⟨0 + 1, hlk, by go_num, HBT.out⟩
                · have HRF := Lib.hid (fun (r : Bool) (h : r = true ↔ Rdy (dJ v T) (k : Int)) => (show r = false by cases r with | false => rfl | true => exact absurd (hrd.1 (h.1 rfl)).2 hkz))
                  have hkB : ((k : Int) == 0) = false := by rw [beq_eq_false_iff_ne]; omega
                  clear hrd hbk
                  go_wp2_with (go_at_call 10; refine HRY.out.mono ?_; rintro e w10 ⟨⟨r, rfl, hr⟩, hb10⟩; obtain rfl := HRF.out r hr; have HBT := Lib.hid (HBK.out.trans (hb10.mono HBK.out.size)); clear hb10 hr)
                  go_roundw
                  case measure => exact measK hlk
                  case rel => exact ⟨k + 1, hlk, by go_num, HBT.out⟩
            · obtain rfl : k = (dT T v).length := by omega
              have hJ : ¬ (((dT T v).length : Int) < ((dT T v).length : Int)) := by omega
              have HST := Lib.hid (HST2.out wr hbk)
              have HZk := Lib.hid (HZr.out.below hbk (Nat.le_refl _))
              have HBk := Lib.hid (HBR.out.trans (hbk.mono HBR.out.size))
              obtain ⟨⟨z0, z1, z2, z3, z4, z5⟩, _⟩ := six_facts HZk.out
              clear hbk HST2
              go_upto_region 33 with (go_at_call 9; refine HST.out.mono ?_; rintro e w5 ⟨⟨⟨ys, yA, yn, yc, yF, ym, yd, yV, ynv, ycv, yT, ynt, yct, yk⟩, ev, rfl, hs, hO⟩, hb5⟩; have HO5 := Lib.hid hO; have HB5 := Lib.hid (HBk.out.trans (hb5.mono HBk.out.size)); obtain rfl := seen_nil hs; clear hs hO hb5; dsimp only [BdV.val])
              have hqt : ynt = 1 := HO5.out.inn.ht
              subst hqt
              obtain ⟨g, hg, _, hgl⟩ := HO5.out.toks.some_of (show 0 < 1 by omega)
              dsimp only at hg
              subst hg
              have htk := tk_at (j := 0) HO5.out.toks.row (show 0 < 1 by omega)
              obtain ⟨_, t1, t2, _⟩ := htk
              have t1 : w5.cell? ⟨g, 0 + 0 * 4 + 1, none⟩ = some (.int .i64 3) := t1
              have t2 : w5.cell? ⟨g, 0 + 0 * 4 + 2, none⟩ = some (.int .i64 1) := t2
              have hb6 : Below w5.heap.size w5 (w5.alloc (.cells #[.string ys, .slice yA yn yc, .slice yF ym yd, .slice yV ynv ycv, .slice (some ⟨g, 0, none⟩) 1 yct, .int .i64 yk] 38)) := (Below.refl _ _).alloc (Nat.le_refl _) _
              have HZ6 := Lib.hid (Cel.lit w5 #[.string ys, .slice yA yn yc, .slice yF ym yd, .slice yV ynv ycv, .slice (some ⟨g, 0, none⟩) 1 yct, .int .i64 yk] 38)
              have hs6 : (w5.alloc (.cells #[.string ys, .slice yA yn yc, .slice yF ym yd, .slice yV ynv ycv, .slice (some ⟨g, 0, none⟩) 1 yct, .int .i64 yk] 38)).heap.size = w5.heap.size + 1 := by simp
              have hb7 : Below (w5.alloc (.cells #[.string ys, .slice yA yn yc, .slice yF ym yd, .slice yV ynv ycv, .slice (some ⟨g, 0, none⟩) 1 yct, .int .i64 yk] 38)).heap.size (w5.alloc (.cells #[.string ys, .slice yA yn yc, .slice yF ym yd, .slice yV ynv ycv, .slice (some ⟨g, 0, none⟩) 1 yct, .int .i64 yk] 38)) ((w5.alloc (.cells #[.string ys, .slice yA yn yc, .slice yF ym yd, .slice yV ynv ycv, .slice (some ⟨g, 0, none⟩) 1 yct, .int .i64 yk] 38)).alloc (.cells #[.bool true, .string no] 40)) := (Below.refl _ _).alloc (Nat.le_refl _) _
              have HM7 := Lib.hid (Cel.lit (w5.alloc (.cells #[.string ys, .slice yA yn yc, .slice yF ym yd, .slice yV ynv ycv, .slice (some ⟨g, 0, none⟩) 1 yct, .int .i64 yk] 38)) #[.bool true, .string no] 40)
              rw [hs6] at HM7
              have HZ7 := Lib.hid (HZ6.out.below hb7 (Nat.le_refl _))
              have hb8 := hb6.trans (hb7.mono hb6.size)
              have HB7 := Lib.hid (HB5.out.trans (hb8.mono HB5.out.size))
              have t1' := below_cells hb8 t1
              have t2' := below_cells hb8 t2
              clear hb6 hs6 hb7 hb8 HZ6 HB5 HO5 HST t1 t2 z0 z1 z2 z3 z4 z5 d0 d1 d2 d3 d4 d5
              generalize (w5.alloc _).alloc _ = w7 at *
              generalize w5.heap.size = qf at *
              obtain ⟨⟨z0, z1, z2, z3, z4, z5⟩, _⟩ := six_facts HZ7.out
              have m0 := HM7.out.cell 0 _ rfl
              go_wp2
              go_ret
              exact ⟨rfl, HB7.out⟩
end Pr
end Go.Proofs.YtlmlhjepolefaaaGreatDoor
