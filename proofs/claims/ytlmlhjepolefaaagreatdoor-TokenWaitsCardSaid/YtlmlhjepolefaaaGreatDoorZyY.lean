/- TokenWaits: the walk. -/
import Derived.Test.YtlmlhjepolefaaaGreatDoorZwY
import Derived.Test.YtlmlhjepolefaaaGreatDoorZsY
namespace Go.Proofs.YtlmlhjepolefaaaGreatDoor
open Go.RowKit

namespace Pr
section
variable {P : Program} {α : Type} {κ : Cs α}
/-- Some elements appended to a row of one's own. -/
theorem append_kn {ops : Array Oper} {rest : List Oper} {o : Oper} {a : Act} {Q : Exit → Act → World → Prop} (hgd : o.guard = none) (s x : Operand) (t e : TypeId) (i : TypeInfo) (z : Value) (bytes : Nat)
    (ht : P.underlying t = some (.slice e)) (hi : P.info? e = some i) (hz : i.zero = some z) (hsize : i.size = κ.k) (hby : i.bytes = bytes) (hzs : z.cells.size = κ.k)
    (ho : o.op = .call { callee := .builtin .append, args := #[s, x], argTypes := #[t, t] })
    (w : World) (base B : Nat) (A : Option Addr) (n c : Nat) (l : List α) (ad : Addr) (m : Nat) (vs : List α) (hs : a.eval s = .slice A n c) (hown : OwnK κ w base e A n c l)
    (hx : a.eval x = .slice (some ad) m m) (hr : KRow κ w B (some ad) m vs) (hn : n ≤ 1000000) (hm : m ≤ 1000) (hb : bytes ≤ 1000) (hbase : base ≤ w.heap.size)
    (h : ∀ A' c' w', OwnK κ w' base e A' (n + m) c' (l ++ vs) → Grew w w' (.slice A n c) (.slice A' (n + m) c') → wpList P ops Q rest (a.put o.dst (.slice A' (n + m) c')) w') :
    wpList P ops Q (o :: rest) a w := by
  have hbb : (n + m) * bytes ≤ 140737488355328 := Nat.le_trans (Nat.mul_le_mul (show n + m ≤ 1001000 by omega) hb) (by decide)
  refine append_row hgd s x t ho e i z κ.k bytes ht hi hz hsize hby hzs hown.1 base _ n (l.flatMap κ.cs) hs hown.2 B (some ad) m m (vs.flatMap κ.cs) hx (fun h => by cases h) hr (Cs.flat_one κ vs) (by unfold maxLen; omega) hbb hbase fun v' w' h1 h2 h3 => ?_
  obtain ⟨A', c', rfl, _⟩ := own_form h1
  refine h A' c' w' ⟨hown.1, by rw [List.flatMap_append]; exact h1⟩ ⟨h2, fun g hg => ?_⟩
  rcases h3 with h3 | h3
  · exact .inl (h3.symm.trans hg)
  · rw [h3] at hg
    obtain rfl := Option.some.inj hg
    exact .inr (Nat.le_refl _)
end
theorem BdOwn.low {w : World} {B : Nat} {x : BdV} {b : Bd} (h : BdOwn w B x b) : ∀ a, (x.A = some a ∨ x.F = some a ∨ x.V = some a ∨ x.T = some a) → B ≤ a.block := by
  rintro a (ha | ha | ha | ha)
  · exact (h.nodes.block ha).1
  · exact (h.flows.block ha).1
  · exact (h.vars.block ha).1
  · exact (h.toks.block ha).1
theorem BdOwn.keptNe {w w' : World} {B z : Nat} {x : BdV} {b : Bd} (h : BdOwn w B x b) (hg : w.grownBy w' (some z)) (hr : ∀ a, (x.A = some a ∨ x.F = some a ∨ x.V = some a ∨ x.T = some a) → a.block ≠ z) : BdOwn w' B x b :=
  ⟨h.s, h.k, h.nodes.kept hg (fun a ha e => hr a (.inl ha) (Option.some.inj e).symm), h.flows.kept hg (fun a ha e => hr a (.inr (.inl ha)) (Option.some.inj e).symm),
    h.vars.kept hg (fun a ha e => hr a (.inr (.inr (.inl ha))) (Option.some.inj e).symm), h.toks.kept hg (fun a ha e => hr a (.inr (.inr (.inr ha))) (Option.some.inj e).symm)⟩
/-- A board that was put anew, written into its block. -/
theorem BdC.six {w : World} {B B' q : Nat} {y : BdV} {b : Bd} {a0 a1 a2 a3 a4 a5 : Value} (hc : Cel w q [a0, a1, a2, a3, a4, a5]) (ho : BdOwn w B' y b) (hq : q < B') (hB : B ≤ B') : BdC (six w q y) B q y b := by
  have hne : ∀ a, (y.A = some a ∨ y.F = some a ∨ y.V = some a ∨ y.T = some a) → a.block ≠ q := fun a ha => by have := ho.low a ha; omega
  exact ⟨six_cel hc y, (ho.keptNe (six_grown w q y) hne).lower hB, hne⟩
theorem bW_few {v : Nat} (hv : v < 5) (T S : Nat → Bool) {j : Nat} (hj : j ≤ v) : (bW v T S j).Few := by
  obtain ⟨h1, h2, h3⟩ := bW_p v T S j
  have h4 := bW_len v T S j
  exact ⟨by rw [h1, pW_n]; omega, by rw [h1, pW_m]; omega, by rw [h2]; exact Nat.zero_le _, by omega, by rw [h3]; omega, by rw [h3]; omega⟩
theorem condW (v f : Nat) : (flowsW v)[f]!.cond = no := by
  refine noCond (fun x hx => ?_) f
  unfold flowsW flowsW1 flowsW0 at hx
  simp only [List.mem_append, List.mem_map, List.mem_cons, List.not_mem_nil, or_false] at hx
  rcases hx with ((rfl | ⟨i, _, rfl⟩) | ⟨i, _, rfl⟩) | rfl <;> rfl
set_option maxHeartbeats 6400000 in
set_option maxRecDepth 10000 in
theorem tokenWaits_core (E : Int → Option Addr) (th st n : Int) (w : World) (_ : -9223372036854775808 ≤ th) (_ : th ≤ 9223372036854775807) (_ : -9223372036854775808 ≤ st) (_ : st ≤ 9223372036854775807) (hn1 : -9223372036854775808 ≤ n) (hn2 : n ≤ 9223372036854775807)
    (hE : ErrIn w E 116 2) (hE2 : ErrIn w E 104 1) :
    Calls Tryz.prog 5 #[.int .i64 th, .int .i64 st, .int .i64 n] w fun e w' => e = .returned (.bool true) ∧ Below w.heap.size w w' := by
  obtain ⟨i1, hi1, hy0, hy1, hy2⟩ := info_parts info_flow
  obtain ⟨i2, hi2, hx0, hx1, hx2⟩ := info_parts info_node
  obtain ⟨kv, hve, hvl⟩ := nmb_nat n 3 (by omega)
  have N1 := Lib.hid (fun w => mnumber_any n 3 w (by omega) hn1 hn2 (by omega))
  rw [hve] at N1
  obtain ⟨v, hv⟩ : ∃ v : Nat, v = kv + 2 := ⟨_, rfl⟩
  have HSUM : Hid (IntKind.i64.wrap ((kv : Int) + 2) = (v : Int)) := by
    refine Lib.hid ?_
    have h : IntKind.i64.wrap ((kv : Int) + 2) = (kv : Int) + 2 := by rw [IntKind.wrap_i64]; omega
    omega
  have HV5 := Lib.hid (show v < 5 by omega)
  have HV2 := Lib.hid (show 2 ≤ v by omega)
  have HE := Lib.hid hE
  have HE2 := Lib.hid hE2
  clear hve hn1 hn2 hvl hv hE hE2
  go_enter Tryz.func5, Tryz.ntmps5
  go_wp2_with fail
  refine (tfirst_any w).mono ?_
  rintro e w1 ⟨rfl, hb1⟩
  have HB1 := Lib.hid hb1
  clear hb1
  go_wp2_with fail
  refine (N1.out _).mono ?_
  rintro e wy ⟨rfl, rfl⟩
  have hs := HSUM.out
  go_upto_region 5 with (fail)
  try rw [hs]
  clear hs N1
  go_upto_region 6 with (fail)
  have hON := own_lit_k (κ := Nd.κ) w1 26 (nodesW0 0) #[.int .i64 1, .string ⟨#[]⟩, .int .i64 0, .int .i64 0, .int .i64 (-1), .string ⟨#[]⟩, .string ⟨#[]⟩, .int .i64 (-1), .int .i64 7, .string ⟨#[]⟩, .int .i64 0, .int .i64 0, .int .i64 (-1), .string ⟨#[]⟩, .string ⟨#[]⟩, .int .i64 (-1)] (by decide) rfl (by decide)
  have hbn : Below w1.heap.size w1 (w1.alloc (.cells #[.int .i64 1, .string ⟨#[]⟩, .int .i64 0, .int .i64 0, .int .i64 (-1), .string ⟨#[]⟩, .string ⟨#[]⟩, .int .i64 (-1), .int .i64 7, .string ⟨#[]⟩, .int .i64 0, .int .i64 0, .int .i64 (-1), .string ⟨#[]⟩, .string ⟨#[]⟩, .int .i64 (-1)] 26)) := (Below.refl _ _).alloc (Nat.le_refl _) _
  have hsn : (w1.alloc (.cells #[.int .i64 1, .string ⟨#[]⟩, .int .i64 0, .int .i64 0, .int .i64 (-1), .string ⟨#[]⟩, .string ⟨#[]⟩, .int .i64 (-1), .int .i64 7, .string ⟨#[]⟩, .int .i64 0, .int .i64 0, .int .i64 (-1), .string ⟨#[]⟩, .string ⟨#[]⟩, .int .i64 (-1)] 26)).heap.size = w1.heap.size + 1 := by simp
  generalize w1.alloc (.cells #[.int .i64 1, .string ⟨#[]⟩, .int .i64 0, .int .i64 0, .int .i64 (-1), .string ⟨#[]⟩, .string ⟨#[]⟩, .int .i64 (-1), .int .i64 7, .string ⟨#[]⟩, .int .i64 0, .int .i64 0, .int .i64 (-1), .string ⟨#[]⟩, .string ⟨#[]⟩, .int .i64 (-1)] 26) = wn at *
  have hOF := own_lit_k (κ := Fl.κ) wn 29 (flowsW0 0) #[.int .i64 0, .int .i64 1, .string ⟨#[]⟩] (by decide) rfl (by decide)
  have hbf : Below wn.heap.size wn (wn.alloc (.cells #[.int .i64 0, .int .i64 1, .string ⟨#[]⟩] 29)) := (Below.refl _ _).alloc (Nat.le_refl _) _
  have hsf : (wn.alloc (.cells #[.int .i64 0, .int .i64 1, .string ⟨#[]⟩] 29)).heap.size = w1.heap.size + 2 := by simp; omega
  generalize wn.alloc (.cells #[.int .i64 0, .int .i64 1, .string ⟨#[]⟩] 29) = wf at *
  have hOP := Cel.lit wf #[.string ⟨#[112]⟩, .slice (some ⟨w1.heap.size, 0, none⟩) 2 2, .slice (some ⟨w1.heap.size + 1, 0, none⟩) 1 1] 32
  have hbp : Below wf.heap.size wf (wf.alloc (.cells #[.string ⟨#[112]⟩, .slice (some ⟨w1.heap.size, 0, none⟩) 2 2, .slice (some ⟨w1.heap.size + 1, 0, none⟩) 1 1] 32)) := (Below.refl _ _).alloc (Nat.le_refl _) _
  have hOP : Cel _ (w1.heap.size + 1 + 1) _ := hsf ▸ hOP
  rw [hsn] at hOF
  have HC0 : Hid (C (wf.alloc (.cells #[.string ⟨#[112]⟩, .slice (some ⟨w1.heap.size, 0, none⟩) 2 2, .slice (some ⟨w1.heap.size + 1, 0, none⟩) 1 1] 32)) w1.heap.size (w1.heap.size + 1 + 1) ⟨⟨#[112]⟩, nodesW0 0, flowsW0 0⟩) := Lib.hid ⟨⟨_, 2, 2, _, 1, 1, hOP, ((hON.below hbf (by omega)).below hbp (by omega)), ((hOF.below hbp (Nat.le_refl _)).lower (by omega)), (fun a ha e => by obtain rfl := Option.some.inj ha; have e : w1.heap.size = w1.heap.size + 2 := e; omega), (fun a ha e => by obtain rfl := Option.some.inj ha; have e : w1.heap.size + 1 = w1.heap.size + 2 := e; omega)⟩, by omega⟩
  have HBP := Lib.hid (HB1.out.trans ((hbn.trans ((hbf.trans (hbp.mono hbf.size)).mono hbn.size)).mono HB1.out.size))
  have HQL := Lib.hid HB1.out.size
  clear hON hOF hOP hbp hbn hbf hsn hsf HB1
  generalize wf.alloc _ = wp at *
  generalize w1.heap.size = nb at *
  go_wp2_with fail
  go_loopw [9] (fun i wr => ∃ j : Nat, j ≤ v ∧ i = .int .i64 j ∧ C wr nb (nb + 1 + 1) ⟨⟨#[112]⟩, nodesW0 j, flowsW0 j⟩ ∧ Below w.heap.size w wr) (fun i _ => v - (intOf i).toNat)
  case atStart => exact ⟨0, Nat.zero_le _, rfl, HC0.out, HBP.out⟩
  case round =>
    obtain ⟨j, hj, rfl, hC, hbr⟩ := hrel
    have hj0 : (0 : Int) ≤ (j : Int) := by omega
    have hv5 := HV5.out
    by_cases hlt : j < v
    · have hI : (j : Int) < (v : Int) := by omega
      have HN0 := Lib.hid (nodesW0_snoc j)
      have HF0 := Lib.hid (flowsW0_snoc j)
      obtain ⟨A, n, c, F, m, d, hc, hn, hf, h1, h2⟩ := hC.ex
      have hlow := hC.low
      obtain rfl : j + 2 = n := (nodesW0_len j).symm.trans hn.len
      obtain rfl : j + 1 = m := (flowsW0_len j).symm.trans hf.len
      have hba : Below wr.heap.size wr (wr.alloc (.cells #[.int .i64 4, .string ⟨#[116]⟩, .int .i64 0, .int .i64 1, .int .i64 (-1), .string ⟨#[]⟩, .string ⟨#[]⟩, .int .i64 (-1)] 26)) := (Below.refl _ _).alloc (Nat.le_refl _) _
      have HCa := Lib.hid (hc.below hba (Nat.le_refl _))
      have HNa := Lib.hid (hn.below hba (Nat.le_refl _))
      have HFa := Lib.hid (hf.below hba (Nat.le_refl _))
      have HBa := Lib.hid (hbr.trans (hba.mono hbr.size))
      have HR : Hid (KRow Nd.κ (wr.alloc (.cells #[.int .i64 4, .string ⟨#[116]⟩, .int .i64 0, .int .i64 1, .int .i64 (-1), .string ⟨#[]⟩, .string ⟨#[]⟩, .int .i64 (-1)] 26)) (wr.heap.size + 1) (some ⟨wr.heap.size, 0, none⟩) 1 [wkW]) := Lib.hid (KRow.lit (κ := Nd.κ) wr 26 [wkW] #[.int .i64 4, .string ⟨#[116]⟩, .int .i64 0, .int .i64 1, .int .i64 (-1), .string ⟨#[]⟩, .string ⟨#[]⟩, .int .i64 (-1)] rfl)
      have hql := hc.lt
      have hbw : nb ≤ (wr.alloc (.cells #[.int .i64 4, .string ⟨#[116]⟩, .int .i64 0, .int .i64 1, .int .i64 (-1), .string ⟨#[]⟩, .string ⟨#[]⟩, .int .i64 (-1)] 26)).heap.size := by have := hba.size; omega
      have hsm : (j + 2) ≤ 1000000 := by omega
      obtain ⟨⟨c0, c1, c2⟩, f0, f1, f2⟩ := tri_facts hc
      clear hc hn hf hba hC hbr
      go_upto_region 10 with (at_builtin; refine append_k (κ := Nd.κ) rfl (.tmp 39) (.tmp 41) 27 26 i2 _ 88 Tryz.underlying27 hi2 hx0 hx1 hx2 rfl rfl _ nb _ A (j + 2) c (nodesW0 j) ⟨wr.heap.size, 0, none⟩ wkW rfl HNa.out rfl HR.out hsm (by decide) hbw ?_; intro A' c' w' ho hg; obtain ⟨⟨d0, d1, d2⟩, g0, g1, g2⟩ := tri_facts (cel_grew HCa.out hg h1); have HX1 := Lib.hid ho; have HX2 := Lib.hid hg; clear ho hg)
      have hC := C.nodes HCa.out HNa.out HFa.out h1 h2 hlow HX2.out HX1.out
      have hbr := (HBa.out.trans ((HX2.out.below HNa.out.2 hbw).mono (by have := HQL.out; omega))).setCell (p := ⟨nb + 1 + 1, 1, none⟩) (by show w.heap.size ≤ nb + 1 + 1; have := HQL.out; omega) (.slice A' ((j + 2) + 1) c')
      clear c0 c1 c2 f0 f1 f2 d0 d1 d2 g0 g1 g2 h1 h2 hlow hql hbw hsm HX1 HX2 HCa HNa HFa HBa HR
      generalize w'.setCell _ _ = wx at *
      obtain ⟨A, n, c, F, m, d, hc, hn, hf, h1, h2⟩ := hC.ex
      have hlow := hC.low
      obtain rfl : j + 2 + 1 = n := by have h3 := hn.len; have h4 := nodesW0_len j; simp only [List.length_append, List.length_singleton] at h3; omega
      obtain rfl : j + 1 = m := (flowsW0_len j).symm.trans hf.len
      have hba : Below wx.heap.size wx (wx.alloc (.cells #[.int .i64 1, .int .i64 (2 + (j : Int)), .string ⟨#[]⟩] 29)) := (Below.refl _ _).alloc (Nat.le_refl _) _
      have HCa := Lib.hid (hc.below hba (Nat.le_refl _))
      have HNa := Lib.hid (hn.below hba (Nat.le_refl _))
      have HFa := Lib.hid (hf.below hba (Nat.le_refl _))
      have HBa := Lib.hid (hbr.trans (hba.mono hbr.size))
      have HR : Hid (KRow Fl.κ (wx.alloc (.cells #[.int .i64 1, .int .i64 (2 + (j : Int)), .string ⟨#[]⟩] 29)) (wx.heap.size + 1) (some ⟨wx.heap.size, 0, none⟩) 1 [⟨1, 2 + (j : Int), no⟩]) := Lib.hid (KRow.lit (κ := Fl.κ) wx 29 [⟨1, 2 + (j : Int), no⟩] #[.int .i64 1, .int .i64 (2 + (j : Int)), .string ⟨#[]⟩] rfl)
      have hql := hc.lt
      have hbw : nb ≤ (wx.alloc (.cells #[.int .i64 1, .int .i64 (2 + (j : Int)), .string ⟨#[]⟩] 29)).heap.size := by have := hba.size; omega
      have hsm : (j + 1) ≤ 1000000 := by omega
      obtain ⟨⟨c0, c1, c2⟩, f0, f1, f2⟩ := tri_facts hc
      clear hc hn hf hba hC hbr
      go_wp2_with (at_builtin; refine append_k (κ := Fl.κ) rfl (.tmp 45) (.tmp 49) 30 29 i1 _ 32 Tryz.underlying30 hi1 hy0 hy1 hy2 rfl rfl _ nb _ F (j + 1) d (flowsW0 j) ⟨wx.heap.size, 0, none⟩ ⟨1, 2 + (j : Int), no⟩ rfl HFa.out rfl HR.out hsm (by decide) hbw ?_; intro A' c' w' ho hg; obtain ⟨⟨d0, d1, d2⟩, g0, g1, g2⟩ := tri_facts (cel_grew HCa.out hg h2); have HX1 := Lib.hid ho; have HX2 := Lib.hid hg; clear ho hg)
      have hC := C.flows HCa.out HNa.out HFa.out h1 h2 hlow HX2.out HX1.out
      have hbr := (HBa.out.trans ((HX2.out.below HFa.out.2 hbw).mono (by have := HQL.out; omega))).setCell (p := ⟨nb + 1 + 1, 2, none⟩) (by show w.heap.size ≤ nb + 1 + 1; have := HQL.out; omega) (.slice A' ((j + 1) + 1) c')
      clear c0 c1 c2 f0 f1 f2 d0 d1 d2 g0 g1 g2 h1 h2 hlow hql hbw hsm HX1 HX2 HCa HNa HFa HBa HR
      go_roundw
      case measure => exact measK hlt
      case rel => exact ⟨j + 1, hlt, by go_num, by rw [HN0.out, HF0.out]; exact hC, hbr⟩
    · obtain rfl : v = j := by omega
      have hI : ¬ ((v : Int) < (v : Int)) := by omega
      have HNW := Lib.hid (show nodesW v = nodesW0 v ++ [Nd.plain 7, Nd.plain 2] from rfl)
      have hv2 := HV2.out
      obtain ⟨A, n, c, F, m, d, hc, hn, hf, h1, h2⟩ := hC.ex
      have hlow := hC.low
      obtain rfl : v + 2 = n := (nodesW0_len v).symm.trans hn.len
      obtain rfl : v + 1 = m := (flowsW0_len v).symm.trans hf.len
      have hba : Below wr.heap.size wr (wr.alloc (.cells #[.int .i64 7, .string ⟨#[]⟩, .int .i64 0, .int .i64 0, .int .i64 (-1), .string ⟨#[]⟩, .string ⟨#[]⟩, .int .i64 (-1), .int .i64 2, .string ⟨#[]⟩, .int .i64 0, .int .i64 0, .int .i64 (-1), .string ⟨#[]⟩, .string ⟨#[]⟩, .int .i64 (-1)] 26)) := (Below.refl _ _).alloc (Nat.le_refl _) _
      have HCa := Lib.hid (hc.below hba (Nat.le_refl _))
      have HNa := Lib.hid (hn.below hba (Nat.le_refl _))
      have HFa := Lib.hid (hf.below hba (Nat.le_refl _))
      have HBa := Lib.hid (hbr.trans (hba.mono hbr.size))
      have HR : Hid (KRow Nd.κ (wr.alloc (.cells #[.int .i64 7, .string ⟨#[]⟩, .int .i64 0, .int .i64 0, .int .i64 (-1), .string ⟨#[]⟩, .string ⟨#[]⟩, .int .i64 (-1), .int .i64 2, .string ⟨#[]⟩, .int .i64 0, .int .i64 0, .int .i64 (-1), .string ⟨#[]⟩, .string ⟨#[]⟩, .int .i64 (-1)] 26)) (wr.heap.size + 1) (some ⟨wr.heap.size, 0, none⟩) 2 [Nd.plain 7, Nd.plain 2]) := Lib.hid (KRow.lit (κ := Nd.κ) wr 26 [Nd.plain 7, Nd.plain 2] #[.int .i64 7, .string ⟨#[]⟩, .int .i64 0, .int .i64 0, .int .i64 (-1), .string ⟨#[]⟩, .string ⟨#[]⟩, .int .i64 (-1), .int .i64 2, .string ⟨#[]⟩, .int .i64 0, .int .i64 0, .int .i64 (-1), .string ⟨#[]⟩, .string ⟨#[]⟩, .int .i64 (-1)] rfl)
      have hql := hc.lt
      have hbw : nb ≤ (wr.alloc (.cells #[.int .i64 7, .string ⟨#[]⟩, .int .i64 0, .int .i64 0, .int .i64 (-1), .string ⟨#[]⟩, .string ⟨#[]⟩, .int .i64 (-1), .int .i64 2, .string ⟨#[]⟩, .int .i64 0, .int .i64 0, .int .i64 (-1), .string ⟨#[]⟩, .string ⟨#[]⟩, .int .i64 (-1)] 26)).heap.size := by have := hba.size; omega
      have hsm : (v + 2) ≤ 1000000 := by omega
      obtain ⟨⟨c0, c1, c2⟩, f0, f1, f2⟩ := tri_facts hc
      clear hc hn hf hba hC hbr
      go_upto_region 13 with (at_builtin; refine append_kn (κ := Nd.κ) rfl (.tmp 56) (.tmp 59) 27 26 i2 _ 88 Tryz.underlying27 hi2 hx0 hx1 hx2 rfl rfl _ nb _ A (v + 2) c (nodesW0 v) ⟨wr.heap.size, 0, none⟩ 2 [Nd.plain 7, Nd.plain 2] rfl HNa.out rfl HR.out hsm (by decide) (by decide) hbw ?_; intro A' c' w' ho hg; obtain ⟨⟨d0, d1, d2⟩, g0, g1, g2⟩ := tri_facts (cel_grew HCa.out hg h1); have HX1 := Lib.hid ho; have HX2 := Lib.hid hg; clear ho hg)
      have hC := C.nodes HCa.out HNa.out HFa.out h1 h2 hlow HX2.out HX1.out
      have hbr := (HBa.out.trans ((HX2.out.below HNa.out.2 hbw).mono (by have := HQL.out; omega))).setCell (p := ⟨nb + 1 + 1, 1, none⟩) (by show w.heap.size ≤ nb + 1 + 1; have := HQL.out; omega) (.slice A' ((v + 2) + 2) c')
      clear c0 c1 c2 f0 f1 f2 d0 d1 d2 g0 g1 g2 h1 h2 hlow hql hbw hsm HX1 HX2 HCa HNa HFa HBa HR
      generalize w'.setCell _ _ = wx at *
      have HC1 : Hid (C wx nb (nb + 1 + 1) ⟨⟨#[112]⟩, nodesW v, flowsW1 v 0⟩) := Lib.hid (by rw [HNW.out, flowsW1_zero]; exact hC)
      have HB1 := Lib.hid hbr
      clear hC hbr HNW HBP HC0 hlt hI
      obtain ⟨A, n', c, F, m, d, hc, hn, hf, h1, h2⟩ := HC1.out.ex
      obtain rfl : v + 1 = m := by have h3 := hf.len; rw [flowsW1_len] at h3; omega
      obtain ⟨⟨c0, c1, c2⟩, _⟩ := tri_facts hc
      clear hc hn hf h1 h2
      go_wp2_with fail
      clear c0 c1 c2
      go_loopw [12] (fun i wr => ∃ j : Nat, j ≤ v ∧ i = .int .i64 j ∧ C wr nb (nb + 1 + 1) ⟨⟨#[112]⟩, nodesW v, flowsW1 v j⟩ ∧ Below w.heap.size w wr) (fun i _ => v - (intOf i).toNat)
      case atStart => exact ⟨0, Nat.zero_le _, rfl, HC1.out, HB1.out⟩
      case round =>
        obtain ⟨j, hj, rfl, hC, hbr⟩ := hrel
        have hj0 : (0 : Int) ≤ (j : Int) := by omega
        by_cases hlt : j < v
        · have hI : (j : Int) < (v : Int) := by omega
          have HF1 := Lib.hid (flowsW1_snoc v j)
          obtain ⟨A, n, c, F, m, d, hc, hn, hf, h1, h2⟩ := hC.ex
          have hlow := hC.low
          obtain rfl : v + 4 = n := (nodesW_len v).symm.trans hn.len
          obtain rfl : v + 1 + j = m := (flowsW1_len v j).symm.trans hf.len
          have hba : Below wr.heap.size wr (wr.alloc (.cells #[.int .i64 (2 + (j : Int)), .int .i64 ((v : Int) + 2), .string ⟨#[]⟩] 29)) := (Below.refl _ _).alloc (Nat.le_refl _) _
          have HCa := Lib.hid (hc.below hba (Nat.le_refl _))
          have HNa := Lib.hid (hn.below hba (Nat.le_refl _))
          have HFa := Lib.hid (hf.below hba (Nat.le_refl _))
          have HBa := Lib.hid (hbr.trans (hba.mono hbr.size))
          have HR : Hid (KRow Fl.κ (wr.alloc (.cells #[.int .i64 (2 + (j : Int)), .int .i64 ((v : Int) + 2), .string ⟨#[]⟩] 29)) (wr.heap.size + 1) (some ⟨wr.heap.size, 0, none⟩) 1 [⟨2 + (j : Int), (v : Int) + 2, no⟩]) := Lib.hid (KRow.lit (κ := Fl.κ) wr 29 [⟨2 + (j : Int), (v : Int) + 2, no⟩] #[.int .i64 (2 + (j : Int)), .int .i64 ((v : Int) + 2), .string ⟨#[]⟩] rfl)
          have hql := hc.lt
          have hbw : nb ≤ (wr.alloc (.cells #[.int .i64 (2 + (j : Int)), .int .i64 ((v : Int) + 2), .string ⟨#[]⟩] 29)).heap.size := by have := hba.size; omega
          have hsm : (v + 1 + j) ≤ 1000000 := by omega
          obtain ⟨⟨c0, c1, c2⟩, f0, f1, f2⟩ := tri_facts hc
          clear hc hn hf hba hC hbr
          go_wp2_with (at_builtin; refine append_k (κ := Fl.κ) rfl (.tmp 71) (.tmp 76) 30 29 i1 _ 32 Tryz.underlying30 hi1 hy0 hy1 hy2 rfl rfl _ nb _ F (v + 1 + j) d (flowsW1 v j) ⟨wr.heap.size, 0, none⟩ ⟨2 + (j : Int), (v : Int) + 2, no⟩ rfl HFa.out rfl HR.out hsm (by decide) hbw ?_; intro A' c' w' ho hg; obtain ⟨⟨d0, d1, d2⟩, g0, g1, g2⟩ := tri_facts (cel_grew HCa.out hg h2); have HX1 := Lib.hid ho; have HX2 := Lib.hid hg; clear ho hg)
          have hC := C.flows HCa.out HNa.out HFa.out h1 h2 hlow HX2.out HX1.out
          have hbr := (HBa.out.trans ((HX2.out.below HFa.out.2 hbw).mono (by have := HQL.out; omega))).setCell (p := ⟨nb + 1 + 1, 2, none⟩) (by show w.heap.size ≤ nb + 1 + 1; have := HQL.out; omega) (.slice A' ((v + 1 + j) + 1) c')
          clear c0 c1 c2 f0 f1 f2 d0 d1 d2 g0 g1 g2 h1 h2 hlow hql hbw hsm HX1 HX2 HCa HNa HFa HBa HR
          go_roundw
          case measure => exact measK hlt
          case rel => exact ⟨j + 1, hlt, by go_num, by rw [HF1.out]; exact hC, hbr⟩
        · obtain rfl : v = j := by omega
          have hI : ¬ ((v : Int) < (v : Int)) := by omega
          obtain ⟨A, n, c, F, m, d, hc, hn, hf, h1, h2⟩ := hC.ex
          have hlow := hC.low
          obtain rfl : v + 4 = n := (nodesW_len v).symm.trans hn.len
          obtain rfl : v + 1 + v = m := (flowsW1_len v v).symm.trans hf.len
          have hba : Below wr.heap.size wr (wr.alloc (.cells #[.int .i64 ((v : Int) + 2), .int .i64 ((v : Int) + 2 + 1), .string ⟨#[]⟩] 29)) := (Below.refl _ _).alloc (Nat.le_refl _) _
          have HCa := Lib.hid (hc.below hba (Nat.le_refl _))
          have HNa := Lib.hid (hn.below hba (Nat.le_refl _))
          have HFa := Lib.hid (hf.below hba (Nat.le_refl _))
          have HBa := Lib.hid (hbr.trans (hba.mono hbr.size))
          have HR : Hid (KRow Fl.κ (wr.alloc (.cells #[.int .i64 ((v : Int) + 2), .int .i64 ((v : Int) + 2 + 1), .string ⟨#[]⟩] 29)) (wr.heap.size + 1) (some ⟨wr.heap.size, 0, none⟩) 1 [⟨(v : Int) + 2, (v : Int) + 2 + 1, no⟩]) := Lib.hid (KRow.lit (κ := Fl.κ) wr 29 [⟨(v : Int) + 2, (v : Int) + 2 + 1, no⟩] #[.int .i64 ((v : Int) + 2), .int .i64 ((v : Int) + 2 + 1), .string ⟨#[]⟩] rfl)
          have hql := hc.lt
          have hbw : nb ≤ (wr.alloc (.cells #[.int .i64 ((v : Int) + 2), .int .i64 ((v : Int) + 2 + 1), .string ⟨#[]⟩] 29)).heap.size := by have := hba.size; omega
          have hsm : (v + 1 + v) ≤ 1000000 := by omega
          obtain ⟨⟨c0, c1, c2⟩, f0, f1, f2⟩ := tri_facts hc
          clear hc hn hf hba hC hbr
          go_upto_region 19 with (at_builtin; refine append_k (κ := Fl.κ) rfl (.tmp 80) (.tmp 85) 30 29 i1 _ 32 Tryz.underlying30 hi1 hy0 hy1 hy2 rfl rfl _ nb _ F (v + 1 + v) d (flowsW1 v v) ⟨wr.heap.size, 0, none⟩ ⟨(v : Int) + 2, (v : Int) + 2 + 1, no⟩ rfl HFa.out rfl HR.out hsm (by decide) hbw ?_; intro A' c' w' ho hg; obtain ⟨⟨d0, d1, d2⟩, g0, g1, g2⟩ := tri_facts (cel_grew HCa.out hg h2); have HX1 := Lib.hid ho; have HX2 := Lib.hid hg; clear ho hg)
          have hC := C.flows HCa.out HNa.out HFa.out h1 h2 hlow HX2.out HX1.out
          have hbr := (HBa.out.trans ((HX2.out.below HFa.out.2 hbw).mono (by have := HQL.out; omega))).setCell (p := ⟨nb + 1 + 1, 2, none⟩) (by show w.heap.size ≤ nb + 1 + 1; have := HQL.out; omega) (.slice A' ((v + 1 + v) + 1) c')
          clear c0 c1 c2 f0 f1 f2 d0 d1 d2 g0 g1 g2 h1 h2 hlow hql hbw hsm HX1 HX2 HCa HNa HFa HBa HR
          generalize w'.setCell _ _ = wy at *
          obtain ⟨A, n', c, F, m, d, hc, hn, hf, h1, h2⟩ := hC.ex
          obtain rfl : v + 4 = n' := (nodesW_len v).symm.trans hn.len
          obtain rfl : v + 1 + v + 1 = m := by have h3 := hf.len; rw [List.length_append, flowsW1_len] at h3; exact h3
          obtain ⟨⟨c0, c1, c2⟩, _⟩ := tri_facts hc
          obtain ⟨T, hT⟩ : ∃ T : Nat → Bool, ∀ j, T j = (Go.bits .and .i64 (th / 2 ^ j) 1 == 1) := ⟨fun j => _, fun j => rfl⟩
          obtain ⟨S, hS⟩ : ∃ S : Nat → Bool, ∀ j, S j = (Go.bits .and .i64 (st / 2 ^ j) 1 == 1) := ⟨fun j => _, fun j => rfl⟩
          have HTT := Lib.hid hT
          have HSS := Lib.hid hS
          have hown : BdOwn wy nb ⟨⟨#[112]⟩, A, v + 4, c, F, v + 1 + v + 1, d, none, 0, 0, none, 0, 0, 1⟩ (bW v T S 0) := ⟨rfl, rfl, hn, hf, ⟨by decide, World.ownsRow_nil _ _ _ _⟩, ⟨by decide, World.ownsRow_nil _ _ _ _⟩⟩
          have HBD := Lib.hid (BdC.lit hown 38)
          have hba : Below wy.heap.size wy (wy.alloc (.cells #[.string ⟨#[112]⟩, .slice A (v + 4) c, .slice F (v + 1 + v + 1) d, .slice none 0 0, .slice none 0 0, .int .i64 1] 38)) := (Below.refl _ _).alloc (Nat.le_refl _) _
          have HBB := Lib.hid (hbr.trans (hba.mono hbr.size))
          have HQB := Lib.hid (hbr.size)
          have HNB := Lib.hid (show nb ≤ wy.heap.size by have := hc.lt; omega)
          clear hT hS hown hba hc hn hf h1 h2 hC hbr HC1 HB1
          go_upto_region 20 with (fail)
          unfold BdV.list at HBD
          dsimp only at HBD
          generalize wy.alloc _ = wb at *
          generalize wy.heap.size = qb at *
          clear c0 c1 c2
          go_wp2_with fail
          go_loopw [14, 15, 16] (fun c x i wr => ∃ (j : Nat) (y : BdV), j ≤ v ∧ c = .int .i64 ((cmW T j : Nat) : Int) ∧ x = .int .i64 ((wtW T S j : Nat) : Int) ∧ i = .int .i64 j ∧ BdC wr nb qb y (bW v T S j) ∧ Below w.heap.size w wr) (fun _ _ i _ => v - (intOf i).toNat)
          case atStart => exact ⟨0, _, Nat.zero_le _, rfl, rfl, rfl, HBD.out, HBB.out⟩
          case round =>
            obtain ⟨j, y, hj, rfl, rfl, rfl, hD, hbr⟩ := hrel
            have hj0 : (0 : Int) ≤ (j : Int) := by omega
            have hcm := cmW_le T j
            have hwt := wtW_le T S j
            have HD := Lib.hid hD
            have HBR := Lib.hid hbr
            have HFW := Lib.hid (bW_few HV5.out T S hj)
            have hql := hD.cel.lt
            by_cases hlt : j < v
            · have hI : (j : Int) < (v : Int) := by omega
              have hcs := Lib.hid (cmW_succ T j)
              have hws := Lib.hid (wtW_succ T S j)
              have hbs : bW v T S (j + 1) = if T j = true then (bW v T S j).put [⟨0, (v : Int) + 2, (v : Int) + 1 + j, false⟩] else if S j = true then (bW v T S j).put [⟨0, 2 + (j : Int), 1 + (j : Int), false⟩] else bW v T S j := rfl
              have HBS := Lib.hid hbs
              have hT := HTT.out j
              have hS := HSS.out j
              clear hbs hD hbr
              cases hTj : T j with
              | true =>
                rw [hTj] at hT
                have HTB : Hid (T j = true) := Lib.hid hTj
                rw [if_pos hTj] at hcs hws HBS
                replace hT := hT.symm
                clear hTj
                have hbt : Below wr.heap.size wr (wr.alloc (.cells #[.int .i64 0, .int .i64 ((v : Int) + 2), .int .i64 ((v : Int) + 1 + (j : Int)), .bool false] 34)) := (Below.refl _ _).alloc (Nat.le_refl _) _
                have HR0 := Lib.hid (KRow.lit (κ := Tk.κ) wr 34 [⟨0, (v : Int) + 2, (v : Int) + 1 + (j : Int), false⟩] #[.int .i64 0, .int .i64 ((v : Int) + 2), .int .i64 ((v : Int) + 1 + (j : Int)), .bool false] rfl)
                have HPU := Lib.hid (put_any y (bW v T S j) (some ⟨wr.heap.size, 0, none⟩) 1 1 [⟨0, (v : Int) + 2, (v : Int) + 1 + (j : Int), false⟩] _ (HD.out.own.inn.on hbt) HFW.out (HR0.out.mono (by simp)) (by decide))
                rw [← HBS.out] at HPU
                have HBT := Lib.hid (HBR.out.trans (hbt.mono HBR.out.size))
                have HQT := Lib.hid (HD.out.cel.below hbt (Nat.le_refl _))
                have hsb : qb < (wr.alloc (.cells #[.int .i64 0, .int .i64 ((v : Int) + 2), .int .i64 ((v : Int) + 1 + (j : Int)), .bool false] 34)).heap.size := by have := hbt.size; omega
                have hc6 := HD.out.cel
                obtain ⟨ys, yA, yn, yc, yF, ym, yd, yV, ynv, ycv, yT, ynt, yct, yk⟩ := y
                unfold BdV.val at HPU
                dsimp only at HPU
                obtain ⟨⟨o0, o1, o2, o3, o4, o5⟩, _⟩ := six_facts hc6
                clear hbt hc6
                go_upto_region 27 with (go_at_call 12; refine HPU.out.mono ?_; rintro e w5 ⟨⟨q, rfl, hO⟩, hb5⟩; have HQ5 := Lib.hid (HQT.out.below hb5 (Nat.le_refl _)); have hql5 := HQ5.out.lt; have HO5 := Lib.hid hO; have HB5 := Lib.hid (HBT.out.trans (hb5.mono HBT.out.size)); obtain ⟨⟨g0, g1, g2, g3, g4, g5⟩, u0, u1, u2, u3, u4, u5⟩ := six_facts HQ5.out; clear hO hb5; dsimp only [BdV.val])
                have HD6 := Lib.hid (BdC.six (B := nb) HQ5.out HO5.out hsb (by have := HNB.out; omega))
                have HB6 := Lib.hid (six_below HB5.out (z := qb) (by have := HQB.out; have := HNB.out; omega) q)
                clear o0 o1 o2 o3 o4 o5 g0 g1 g2 g3 g4 g5 u0 u1 u2 u3 u4 u5 HPU HR0 HBT HQT HQ5 HO5 HB5 HD HBR HFW
                change Code.wp _ _ _ _ (six w5 qb q)
                generalize six w5 qb q = w6 at *
                go_wp2_with fail
                go_roundw
                case measure => exact measK hlt
                case rel => exact ⟨j + 1, q, hlt, by rw [hcs.out]; go_num, by rw [hws.out, Nat.add_zero], by go_num, HD6.out, HB6.out⟩
              | false =>
                rw [hTj] at hT
                rw [if_neg (by rw [hTj]; decide)] at hcs hws HBS
                replace hT := hT.symm
                clear hTj
                cases hSj : S j with
                | true =>
                  rw [hSj] at hS
                  rw [if_pos hSj] at hws HBS
                  replace hS := hS.symm
                  clear hSj
                  have hbt : Below wr.heap.size wr (wr.alloc (.cells #[.int .i64 0, .int .i64 (2 + (j : Int)), .int .i64 (1 + (j : Int)), .bool false] 34)) := (Below.refl _ _).alloc (Nat.le_refl _) _
                  have HR0 := Lib.hid (KRow.lit (κ := Tk.κ) wr 34 [⟨0, 2 + (j : Int), 1 + (j : Int), false⟩] #[.int .i64 0, .int .i64 (2 + (j : Int)), .int .i64 (1 + (j : Int)), .bool false] rfl)
                  have HPU := Lib.hid (put_any y (bW v T S j) (some ⟨wr.heap.size, 0, none⟩) 1 1 [⟨0, 2 + (j : Int), 1 + (j : Int), false⟩] _ (HD.out.own.inn.on hbt) HFW.out (HR0.out.mono (by simp)) (by decide))
                  rw [← HBS.out] at HPU
                  have HBT := Lib.hid (HBR.out.trans (hbt.mono HBR.out.size))
                  have HQT := Lib.hid (HD.out.cel.below hbt (Nat.le_refl _))
                  have hsb : qb < (wr.alloc (.cells #[.int .i64 0, .int .i64 (2 + (j : Int)), .int .i64 (1 + (j : Int)), .bool false] 34)).heap.size := by have := hbt.size; omega
                  have hc6 := HD.out.cel
                  obtain ⟨ys, yA, yn, yc, yF, ym, yd, yV, ynv, ycv, yT, ynt, yct, yk⟩ := y
                  unfold BdV.val at HPU
                  dsimp only at HPU
                  obtain ⟨⟨o0, o1, o2, o3, o4, o5⟩, _⟩ := six_facts hc6
                  clear hbt hc6
                  go_upto_region 30 with (go_at_call 12; refine HPU.out.mono ?_; rintro e w5 ⟨⟨q, rfl, hO⟩, hb5⟩; have HQ5 := Lib.hid (HQT.out.below hb5 (Nat.le_refl _)); have hql5 := HQ5.out.lt; have HO5 := Lib.hid hO; have HB5 := Lib.hid (HBT.out.trans (hb5.mono HBT.out.size)); obtain ⟨⟨g0, g1, g2, g3, g4, g5⟩, u0, u1, u2, u3, u4, u5⟩ := six_facts HQ5.out; clear hO hb5; dsimp only [BdV.val])
                  have HD6 := Lib.hid (BdC.six (B := nb) HQ5.out HO5.out hsb (by have := HNB.out; omega))
                  have HB6 := Lib.hid (six_below HB5.out (z := qb) (by have := HQB.out; have := HNB.out; omega) q)
                  clear o0 o1 o2 o3 o4 o5 g0 g1 g2 g3 g4 g5 u0 u1 u2 u3 u4 u5 HPU HR0 HBT HQT HQ5 HO5 HB5 HD HBR HFW
                  change Code.wp _ _ _ _ (six w5 qb q)
                  generalize six w5 qb q = w6 at *
                  go_wp2_with fail
                  go_roundw
                  case measure => exact measK hlt
                  case rel => exact ⟨j + 1, q, hlt, by rw [hcs.out, Nat.add_zero], by rw [hws.out]; go_num, by go_num, HD6.out, HB6.out⟩
                | false =>
                  rw [hSj] at hS
                  rw [if_neg (by rw [hSj]; decide)] at hws HBS
                  replace hS := hS.symm
                  clear hSj
                  go_wp2_with fail
                  go_roundw
                  case measure => exact measK hlt
                  case rel => exact ⟨j + 1, y, hlt, by rw [hcs.out, Nat.add_zero], by rw [hws.out, Nat.add_zero], by go_num, by rw [HBS.out]; exact HD.out, HBR.out⟩
            · obtain rfl : v = j := by omega
              have hI : ¬ ((v : Int) < (v : Int)) := by omega
              have hv5 := HV5.out
              have hv2 := HV2.out
              have HASC := Lib.hid (bW_asc v T S v).1
              have hnt : y.nt = (bW v T S v).toks.length := hD.own.inn.ht
              have hyk : y.k = (bW v T S v).next := hD.own.k
              have HRY := Lib.hid (fun (k : Nat) hk hf => rdyW HV5.out HV2.out T S (k := k) hk hf)
              have HBST := Lib.hid (fun (k : Nat) hf hw => bstepW HV5.out HV2.out T S (k := k) hf hw)
              have HCAME := Lib.hid (bW_came v T S v)
              have HPP := Lib.hid (bW_p v T S v).1
              have hln := bW_len v T S v
              clear hD hbr hcm hwt hlt
              generalize bW v T S v = b at *
              generalize cmW T v = cm at *
              generalize wtW T S v = wt at *
              obtain ⟨⟨o0, o1, o2, o3, o4, o5⟩, _⟩ := six_facts HD.out.cel
              cases cm with
              | zero =>
                go_wp2
                go_ret
                exact ⟨rfl, HBR.out⟩
              | succ cm =>
                have hcB : ((cm : Int) + 1 == 0) = false := by rw [beq_eq_false_iff_ne]; omega
                have HCP := Lib.hid (HCAME.out (Nat.succ_pos _))
                have hpos : 0 < b.toks.length := by obtain ⟨x, hx, _⟩ := HCP.out; exact List.length_pos_of_mem hx
                obtain ⟨ys, yA, yn, yc, yF, ym, yd, yV, ynv, ycv, yT, ynt, yct, yk⟩ := y
                dsimp only at hnt hyk
                subst hnt
                obtain ⟨gT, hgT, _, hgl⟩ := HD.out.own.toks.some_of (n := b.toks.length) hpos
                dsimp only at hgT
                subst hgT
                have HYK := Lib.hid hyk
                dsimp only at o0 o1 o2 o3 o4 o5
                clear HCAME hyk
                generalize wr = w9 at *
                go_wp2_with fail
                go_loopw [17] (fun i wr => ∃ k : Nat, k ≤ b.toks.length ∧ i = .int .i64 k ∧ wr = w9 ∧ ∀ q, q < k → b.toks[q]!.node ≠ (v : Int) + 2) (fun i _ => b.toks.length - (intOf i).toNat)
                case atStart => exact ⟨0, Nat.zero_le _, rfl, rfl, fun q hq => absurd hq (Nat.not_lt_zero q)⟩
                case round =>
                  obtain ⟨k, hk, rfl, rfl, hno⟩ := hrel
                  have hk0 : (0 : Int) ≤ (k : Int) := by omega
                  by_cases hlk : k < b.toks.length
                  · have hJ : (k : Int) < (b.toks.length : Int) := by omega
                    have t1 := (tk_at (j := k) HD.out.own.toks.row hlk).2.1
                    simp only [Nat.zero_add] at t1
                    by_cases hnd : b.toks[k]!.node = (v : Int) + 2
                    · rw [hnd] at t1
                      have hf : fst (atN ((v + 2 : Nat) : Int)) b.toks = (k : Int) := by
                        refine fst_hit hlk ?_ (fun q hq => ?_)
                        · unfold atN
                          rw [hnd, beq_iff_eq]
                          omega
                        · unfold atN
                          rw [beq_eq_false_iff_ne]
                          have := hno q hq
                          omega
                      have hkl : ((k : Int) == (b.toks.length : Int)) = false := by rw [beq_eq_false_iff_ne]; omega
                      have HF := Lib.hid hf
                      have hrd := HRY.out k hlk hf
                      have HRA := Lib.hid (ready_any (k : Int) ⟨ys, yA, yn, yc, yF, ym, yd, yV, ynv, ycv, some ⟨gT, 0, none⟩, b.toks.length, yct, yk⟩ b wr HD.out.own.inn HFW.out HASC.out)
                      unfold BdV.val at HRA
                      dsimp only at HRA
                      clear hno hf
                      cases wt with
                      | succ wt =>
                        have hwB : ((wt : Int) + 1 == 0) = false := by rw [beq_eq_false_iff_ne]; omega
                        have hwp : (wt : Int) + 1 > 0 := by omega
                        have HRF := Lib.hid (fun (r : Bool) (h : r = true ↔ Rdy b (k : Int)) => (show r = false by cases r with | false => rfl | true => exact absurd (hrd.1 (h.1 rfl)) (Nat.succ_ne_zero _)))
                        clear hrd
                        go_wp2_with (go_at_call 10; refine HRA.out.mono ?_; rintro e w10 ⟨⟨r, rfl, hr⟩, hb10⟩; obtain rfl := HRF.out r hr; have HBT := Lib.hid (HBR.out.trans (hb10.mono HBR.out.size)); clear hb10 hr)
                        go_ret
                        exact ⟨rfl, HBT.out⟩
                      | zero =>
                        have HRF := Lib.hid (fun (r : Bool) (h : r = true ↔ Rdy b (k : Int)) => (h.2 (hrd.2 rfl) : r = true))
                        have HRZ := Lib.hid (hrd.2 rfl)
                        clear hrd
                        go_upto_region 40 with (go_at_call 10; refine HRA.out.mono ?_; rintro e w10 ⟨⟨r, rfl, hr⟩, hb10⟩; obtain rfl := HRF.out r hr; have HBT := Lib.hid (HBR.out.trans (hb10.mono HBR.out.size)); have HDT := Lib.hid (HD.out.below hb10); clear hb10 hr)
                        have hmm : b.p.m ≤ 90000 := by rw [HPP.out, pW_m]; omega
                        have hcnd : ∀ u : Nat, b.toks[k]!.node = (u : Int) → ∀ f ∈ outsB b.p u, CondOk E w10 yV ynv ycv b.vars b.p.flows[f]!.cond := fun u _ f _ => .inl (by rw [HPP.out]; exact congrArg ByteArray.size (condW v f))
                        have HST := Lib.hid (step_any E k ⟨ys, yA, yn, yc, yF, ym, yd, yV, ynv, ycv, some ⟨gT, 0, none⟩, b.toks.length, yct, yk⟩ b w10 HDT.out.own.inn HFW.out hmm HASC.out HRZ.out hcnd (HE.out.below HBT.out) (HE2.out.below HBT.out))
                        rw [HBST.out k HF.out (by trivial)] at HST
                        unfold BdV.val at HST
                        dsimp only at HST
                        clear o0 o1 o2 o3 o4 o5 hmm hcnd
                        obtain ⟨⟨o0, o1, o2, o3, o4, o5⟩, _⟩ := six_facts HDT.out.cel
                        have hqt := HDT.out.cel.lt
                        go_upto_region 43 with (go_at_call 9; refine HST.out.mono ?_; rintro e w5 ⟨⟨⟨xs, xA, xn, xc, xF, xm, xd, xV, xnv, xcv, xT, xnt, xct, xk⟩, ev, rfl, hs, hO⟩, hb5⟩; have HO5 := Lib.hid hO; have HB5 := Lib.hid (HBT.out.trans (hb5.mono HBT.out.size)); have HQ5 := Lib.hid (HDT.out.cel.below hb5 (Nat.le_refl _)); obtain rfl := seen_nil hs; clear hs hO hb5; dsimp only [BdV.val])
                        have hqn : xnt = 1 := HO5.out.inn.ht
                        subst hqn
                        obtain ⟨g, hg, _, hgl5⟩ := HO5.out.toks.some_of (show 0 < 1 by omega)
                        dsimp only at hg
                        subst hg
                        obtain ⟨t0, t2, _, _⟩ := tk_at (j := 0) HO5.out.toks.row (show 0 < 1 by omega)
                        have t0 : w5.cell? ⟨g, 0 + 0 * 4, none⟩ = some (.int .i64 yk) := by rw [HYK.out]; exact t0
                        have t2 : w5.cell? ⟨g, 0 + 0 * 4 + 1, none⟩ = some (.int .i64 ((v : Int) + 2 + 1)) := by rw [show (v : Int) + 2 + 1 = (v : Int) + 3 by omega]; exact t2
                        have hb6 : Below w5.heap.size w5 (w5.alloc (.cells #[.string xs, .slice xA xn xc, .slice xF xm xd, .slice xV xnv xcv, .slice (some ⟨g, 0, none⟩) 1 xct, .int .i64 xk] 38)) := (Below.refl _ _).alloc (Nat.le_refl _) _
                        have HZ6 := Lib.hid (Cel.lit w5 #[.string xs, .slice xA xn xc, .slice xF xm xd, .slice xV xnv xcv, .slice (some ⟨g, 0, none⟩) 1 xct, .int .i64 xk] 38)
                        have hs6 : (w5.alloc (.cells #[.string xs, .slice xA xn xc, .slice xF xm xd, .slice xV xnv xcv, .slice (some ⟨g, 0, none⟩) 1 xct, .int .i64 xk] 38)).heap.size = w5.heap.size + 1 := by simp
                        have hb7 : Below (w5.alloc (.cells #[.string xs, .slice xA xn xc, .slice xF xm xd, .slice xV xnv xcv, .slice (some ⟨g, 0, none⟩) 1 xct, .int .i64 xk] 38)).heap.size (w5.alloc (.cells #[.string xs, .slice xA xn xc, .slice xF xm xd, .slice xV xnv xcv, .slice (some ⟨g, 0, none⟩) 1 xct, .int .i64 xk] 38)) ((w5.alloc (.cells #[.string xs, .slice xA xn xc, .slice xF xm xd, .slice xV xnv xcv, .slice (some ⟨g, 0, none⟩) 1 xct, .int .i64 xk] 38)).alloc (.cells #[.bool true, .string no] 40)) := (Below.refl _ _).alloc (Nat.le_refl _) _
                        have HM7 := Lib.hid (Cel.lit (w5.alloc (.cells #[.string xs, .slice xA xn xc, .slice xF xm xd, .slice xV xnv xcv, .slice (some ⟨g, 0, none⟩) 1 xct, .int .i64 xk] 38)) #[.bool true, .string no] 40)
                        rw [hs6] at HM7
                        have HZ7 := Lib.hid (HZ6.out.below hb7 (Nat.le_refl _))
                        have hb8 := hb6.trans (hb7.mono hb6.size)
                        have HB7 := Lib.hid (HB5.out.trans (hb8.mono HB5.out.size))
                        have HQ7 := Lib.hid (HQ5.out.below hb8 (Nat.le_refl _))
                        have t0' := below_cells hb8 t0
                        have t2' := below_cells hb8 t2
                        clear hb6 hs6 hb7 hb8 HZ6 HB5 HO5 HST t0 t2 t1 o0 o1 o2 o3 o4 o5 HQ5
                        generalize (w5.alloc _).alloc _ = w7 at *
                        generalize w5.heap.size = qf at *
                        obtain ⟨⟨z0, z1, z2, z3, z4, z5⟩, _⟩ := six_facts HZ7.out
                        obtain ⟨⟨o0, o1, o2, o3, o4, o5⟩, _⟩ := six_facts HQ7.out
                        have m0 := HM7.out.cell 0 _ rfl
                        go_wp2_with fail
                        go_quiet (fail)
                        go_wp2
                        go_ret
                        exact ⟨rfl, below_drewN HB7.out _⟩
                    · have HNK : Hid (∀ q, q < k + 1 → b.toks[q]!.node ≠ (v : Int) + 2) := Lib.hid (fun q hq => by
                        by_cases e : q = k
                        · rw [e]; exact hnd
                        · exact hno q (by omega))
                      obtain ⟨nd, hnde⟩ : ∃ nd, nd = b.toks[k]!.node := ⟨_, rfl⟩
                      rw [← hnde] at t1
                      have hneB : (nd == (v : Int) + 2) = false := by rw [beq_eq_false_iff_ne, hnde]; exact hnd
                      clear hno hnd hnde
                      go_wp2_with fail
                      go_roundw
                      case measure => exact measK hlk
                      case rel => exact ⟨k + 1, hlk, by go_num, by trivial, HNK.out⟩
                  · exfalso
                    obtain ⟨x, hx, hn⟩ := HCP.out
                    obtain ⟨q, hq, he⟩ := List.mem_iff_getElem.1 hx
                    refine hno q (by omega) ?_
                    rw [getElem!_pos b.toks q hq, he]
                    exact hn
end Pr
end Go.Proofs.YtlmlhjepolefaaaGreatDoor
