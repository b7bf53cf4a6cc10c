/- FlowRests: its mathematics, the helpers' functions, the walk. -/
import Derived.Test.YtkffnfgdmcebdaaGreatDoorYJoint13
import Derived.Test.YtkffnfgdmcebdaaGreatDoorYJoint8
import Derived.Test.YtkffnfgdmcebdaaGreatDoorYJoint19
import Derived.Test.YtkffnfgdmcebdaaGreatDoorYJoint16
import Derived.Test.YtkffnfgdmcebdaaGreatDoorYJoint11
import Derived.Test.YtkffnfgdmcebdaaGreatDoorYJoint23
import Derived.BigQuiet
import Derived.Deep.RegionHeld3
import Derived.Test.YtkffnfgdmcebdaaGreatDoorGzY
import Derived.Test.YtkffnfgdmcebdaaGreatDoorYJoint7
section
namespace Go.Proofs.YtkffnfgdmcebdaaGreatDoor
open Go.RowKit

namespace Pr
/-- All tokens stand at nodes. -/
def Wn (b : Bd) : Prop := ∀ t ∈ b.toks, ∃ u : Nat, t.node = (u : Int) ∧ u < b.p.n
/-- All flows lead to nodes. -/
def Tn (p : P) : Prop := ∀ f, f < p.m → ∃ u : Nat, p.flows[f]!.til = (u : Int) ∧ u < p.n
theorem tn_of {p : P} (h : ∀ f ∈ p.flows, FlowOk p f) : Tn p := fun f hf => by
  obtain ⟨a, b, _, h2, _, h4, _⟩ := (h _ (fl_mem hf)).ends
  exact ⟨b, h2, h4⟩
theorem numb_node : ∀ (k : Int) (l : List Tk) (t : Tk), t ∈ numb k l → ∃ s ∈ l, s.node = t.node
  | _, [], t, h => by cases h
  | k, y :: l, t, h => by
    rw [numb] at h
    rcases List.mem_cons.1 h with rfl | h
    · exact ⟨y, List.mem_cons_self, rfl⟩
    · obtain ⟨s, hs, e⟩ := numb_node (k + 1) l t h
      exact ⟨s, List.mem_cons_of_mem _ hs, e⟩
theorem Wn.moved {b : Bd} (h : Wn b) (ht : Tn b.p) (g : Nat → Bool) {fs : List Nat} (hf : ∀ f ∈ fs, f < b.p.m) : Wn (moved b g fs) := by
  intro t hm
  have hm : t ∈ left b.toks g ++ numb b.next (come b.p fs) := hm
  rcases List.mem_append.1 hm with hm | hm
  · exact h t ((left_sub _ _).subset hm)
  · obtain ⟨s, hs, e⟩ := numb_node _ _ _ hm
    obtain ⟨f, hf2, rfl⟩ := List.mem_map.1 hs
    rw [← e]
    exact ht f (hf f hf2)
theorem modify_node : ∀ (l : List Tk) (i : Nat) (t : Tk), t ∈ l.modify i (fun t => { t with stuck := true }) → ∃ s ∈ l, s.node = t.node
  | [], i, t, h => by simp at h
  | y :: l, 0, t, h => by
    rw [List.modify_zero_cons] at h
    rcases List.mem_cons.1 h with rfl | h
    · exact ⟨y, List.mem_cons_self, rfl⟩
    · exact ⟨t, List.mem_cons_of_mem _ h, rfl⟩
  | y :: l, i + 1, t, h => by
    rw [List.modify_succ_cons] at h
    rcases List.mem_cons.1 h with rfl | h
    · exact ⟨t, List.mem_cons_self, rfl⟩
    · obtain ⟨s, hs, e⟩ := modify_node l i t h
      exact ⟨s, List.mem_cons_of_mem _ hs, e⟩
theorem Wn.step {b : Bd} (h : Wn b) (ht : Tn b.p) (i : Nat) : Wn (bstep b i).1 := by
  rcases bstep_or b i with ⟨h1, _⟩ | ⟨h1, _⟩
  · rw [h1]
    intro t hm
    obtain ⟨s, hs, e⟩ := modify_node _ _ _ hm
    rw [← e]
    exact h s hs
  · rw [h1]
    exact h.moved ht _ fun f hf => outWays_lt hf
theorem LikeB.wn {b b' : Bd} (h : LikeB b b') (hw : Wn b) : Wn b' := by
  intro t ht
  obtain ⟨k, hk, rfl⟩ := List.mem_iff_getElem.1 ht
  have hk' : k < b.toks.length := by rw [← h.len]; exact hk
  have e := h.node k hk'
  rw [getElem!_pos b'.toks k hk, getElem!_pos b.toks k hk'] at e
  rw [e, h.p]
  exact hw _ (List.getElem_mem hk')
theorem Mv2.same {r r' : Rn} {n : Nat} (h : Mv2 r n r') : r'.b.p = r.b.p ∧ r'.b.vars = r.b.vars ∧ r'.moves = r.moves + n := by
  induction h with
  | zero r => exact ⟨rfl, rfl, rfl⟩
  | succ hk _ ih =>
    obtain ⟨h1, h2, h3⟩ := ih
    obtain ⟨h4, h5⟩ := bstep_same _ _
    exact ⟨h1.trans h4, h2.trans h5, by rw [h3]; unfold adv; dsimp only; omega⟩
theorem Mv2.wn {r r' : Rn} {n : Nat} (h : Mv2 r n r') (ht : Tn r.b.p) (hw : Wn r.b) : Wn r'.b := by
  induction h with
  | zero r => exact hw
  | @succ r r' k n hk _ ih => exact ih (by show Tn (bstep r.b k).1.p; rw [(bstep_same _ _).1]; exact ht) (hw.step ht _)
theorem Mv2.ok {r r' : Rn} {n : Nat} (h : Mv2 r n r') : ∀ {most : Nat}, Ok r.b (n + most) → Ok r'.b most := by
  induction h with
  | zero r => intro most h; rwa [Nat.zero_add] at h
  | @succ r r' k n hk _ ih =>
    intro most h
    refine ih ?_
    show Ok (bstep r.b k).1 (n + most)
    exact Ok.step (by rwa [show n + 1 + most = n + most + 1 by omega] at h) k
/-- What Run leaves. -/
theorem RunTo.facts {r r' : Rn} {most more : Nat} {ok : Bool} (h : RunTo r most ok r') (ho : Ok r.b (most + more)) (ht : Tn r.b.p) (hw : Wn r.b) :
    Rest r'.b ∧ Wn r'.b ∧ Ok r'.b more ∧ r'.b.p = r.b.p ∧ r'.b.vars = r.b.vars ∧ r'.moves ≤ r.moves + most := by
  rcases h with ⟨_, n, hn, hm, hr⟩ | ⟨_, r1, hm, _, rfl⟩
  · obtain ⟨h1, h2, h3⟩ := hm.same
    refine ⟨hr, hm.wn ht hw, (hm.ok (most := more) (ho.less (by omega))), h1, h2, by omega⟩
  · obtain ⟨h1, h2, h3⟩ := hm.same
    exact ⟨stops_rest _, (stops_like _).wn (hm.wn ht hw), (hm.ok ho).stops, h1, h2, by show r1.moves ≤ _; omega⟩
/-- A token where nothing is ready. -/
theorem rest_kind {b : Bd} (h : Rest b) (hw : Wn b) {k : Nat} (hk : k < b.toks.length) : ∃ u : Nat, b.toks[k]!.node = (u : Int) ∧ u < b.p.n ∧ (b.toks[k]!.stuck = false → b.p.nodes[u]!.kind = 4 ∨ b.p.nodes[u]!.kind = 6 ∨ b.p.nodes[u]!.kind = 7) := by
  have hm : b.toks[k]! ∈ b.toks := by rw [getElem!_pos _ k hk]; exact List.getElem_mem hk
  obtain ⟨u, hu, hn⟩ := hw _ hm
  refine ⟨u, hu, hn, fun hs => ?_⟩
  by_cases h4 : b.p.nodes[u]!.kind = 4
  · exact .inl h4
  by_cases h6 : b.p.nodes[u]!.kind = 6
  · exact .inr (.inl h6)
  by_cases h7 : b.p.nodes[u]!.kind = 7
  · exact .inr (.inr h7)
  · exact absurd ⟨k, rfl, hk, hs, u, hu, hn, h4, fun h => absurd h h6, fun h => absurd h h7⟩ (h k)
end Pr
end Go.Proofs.YtkffnfgdmcebdaaGreatDoor
end
section
namespace Go.Proofs.YtkffnfgdmcebdaaGreatDoor
open Go.RowKit

namespace Pr
theorem bits_and (n m : Int) : ∃ x : Int, Op.intBits .and .i64 n m = (pure (.int .i64 x) : Sem Value) := ⟨_, rfl⟩
theorem shift_4 (n : Int) : ∃ x : Int, Op.shift .shr .i64 n .u64 4 = (pure (.int .i64 x) : Sem Value) := ⟨_, rfl⟩
def vA (k : Nat) : Vr.V := ⟨⟨#[97]⟩, 1, (k : Int), ⟨#[]⟩⟩
def vB (x : Int) : Vr.V := ⟨⟨#[98]⟩, 2, x, ⟨#[]⟩⟩
def vS (s : ByteArray) : Vr.V := ⟨⟨#[115]⟩, 3, 0, s⟩
def txV (k : Nat) : ByteArray := if k = 0 then ⟨#[120]⟩ else if k = 1 then ⟨#[121]⟩ else ⟨#[]⟩
def vL1 (k : Nat) (x8 xb : Int) : List Vr.V := if x8 = 0 then [vA k] ++ [vB xb] else [vA k]
def vL2 (l : List Vr.V) (x32 : Int) (k : Nat) : List Vr.V := if x32 = 0 then l ++ [vS (txV k)] else l
theorem txV_size (k : Nat) : (txV k).size ≤ 80 := by
  unfold txV
  split
  · decide
  split <;> decide
theorem vL_lv (k : Nat) (x8 xb x32 : Int) (k3 : Nat) : Lv (vL2 (vL1 k x8 xb) x32 k3) := by
  have h1 : (vL1 k x8 xb).length ≤ 2 ∧ ∀ v ∈ vL1 k x8 xb, v.text.size ≤ 80 := by
    unfold vL1
    split
    · refine ⟨Nat.le_refl 2, fun v hv => ?_⟩
      rcases List.mem_append.1 hv with hv | hv <;> (obtain rfl := List.mem_singleton.1 hv; exact Nat.zero_le _)
    · refine ⟨Nat.le_succ 1, fun v hv => ?_⟩
      obtain rfl := List.mem_singleton.1 hv
      exact Nat.zero_le _
  unfold vL2
  split
  · refine ⟨by rw [List.length_append]; simp; omega, fun v hv => ?_⟩
    rcases List.mem_append.1 hv with hv | hv
    · exact h1.2 v hv
    · obtain rfl := List.mem_singleton.1 hv
      exact txV_size k3
  · exact ⟨by omega, h1.2⟩
/-- A row of variables that was made. -/
def VarsOut (l : List Vr.V) (w : World) (e : Ending) (w' : World) : Prop := (∃ (A : Option Addr) (c : Nat), e = .returned (.slice A l.length c) ∧ OwnK Vκ w' w.heap.size 96 A l.length c l) ∧ Below w.heap.size w w'
set_option maxHeartbeats 3200000 in
set_option maxRecDepth 20000 in
theorem mvars_any (n : Int) (hn1 : -9223372036854775808 ≤ n) (hn2 : n ≤ 9223372036854775807) : ∃ l : List Vr.V, Lv l ∧ ∀ w, Calls Tryz.prog 12 #[.int .i64 n] w (VarsOut l w) := by
  obtain ⟨i0, hi0, hx0, hx1, hx2⟩ := info_parts info_var
  obtain ⟨kv, hve, hvl⟩ := nmb_nat n 6 (by omega)
  obtain ⟨k3, hk3, hk3l⟩ := nmb_nat (n.tdiv 7) 3 (by omega)
  have ht1 : -9223372036854775808 ≤ n.tdiv 7 ∧ n.tdiv 7 ≤ 9223372036854775807 := by
    have h := Int.tmod_add_mul_tdiv n 7
    have h1 := Int.tmod_lt_of_pos n (show (0 : Int) < 7 by decide)
    have h2 := Int.lt_tmod_of_pos n (show (0 : Int) < 7 by decide)
    omega
  have N0 := Lib.hid (fun w => mnumber_any n 6 w (by omega) hn1 hn2 (by omega))
  have N1 := Lib.hid (fun w => mnumber_any (n.tdiv 7) 3 w (by omega) ht1.1 ht1.2 (by omega))
  rw [hve] at N0
  rw [hk3] at N1
  obtain ⟨x8, h8⟩ := bits_and n 8
  obtain ⟨x32, h32⟩ := bits_and n 32
  obtain ⟨x4, h4⟩ := shift_4 n
  obtain ⟨xb, hb⟩ := bits_and x4 1
  have hq : IntKind.i64.wrap (n.tdiv 7) = n.tdiv 7 := by rw [IntKind.wrap_i64]; omega
  refine ⟨vL2 (vL1 kv x8 xb) x32 k3, vL_lv _ _ _ _ _, fun w => ?_⟩
  have HK3 := Lib.hid (show k3 < 3 by omega)
  unfold VarsOut
  clear hn1 hn2 ht1 hve hk3 hvl hk3l
  generalize hqd : n.tdiv 7 = qd at *
  go_enter Tryz.func12, Tryz.ntmps12
  go_upto_region 2 with (go_at_call 15; refine (N0.out _).mono ?_; rintro e wy ⟨rfl, rfl⟩)
  have HO1 : Hid (OwnK Vκ (w.alloc (.cells #[.string ⟨#[97]⟩, .int .i64 1, .int .i64 (kv : Int), .string ⟨#[]⟩] 96)) w.heap.size 96 (some ⟨w.heap.size, 0, none⟩) 1 1 [vA kv]) := Lib.hid (own_lit_kf (κ := Vκ) w 96 [vA kv] #[.string ⟨#[97]⟩, .int .i64 1, .int .i64 (kv : Int), .string ⟨#[]⟩] (by decide) rfl (show 1 ≤ maxLen by decide))
  have HB1 := Lib.hid ((Below.refl w.heap.size w).alloc (Nat.le_refl _) (.cells #[.string ⟨#[97]⟩, .int .i64 1, .int .i64 (kv : Int), .string ⟨#[]⟩] 96))
  generalize hp : w.heap.size = p0 at *
  have HP := Lib.hid hp
  clear hp
  generalize w.alloc _ = w1 at *
  go_upto_if 11 with (fail)
  go_cut [3] from 4 to 34 (fun s wx => ∃ (A : Option Addr) (c : Nat), s = .slice A (vL1 kv x8 xb).length c ∧ OwnK Vκ wx p0 96 A (vL1 kv x8 xb).length c (vL1 kv x8 xb) ∧ Below p0 w wx)
  case first =>
    by_cases h0 : x8 = 0
    · have hb0 : (x8 == 0) = true := by rw [beq_iff_eq]; exact h0
      have HE1 : Hid (vL1 kv x8 xb = [vA kv] ++ [vB xb]) := Lib.hid (if_pos h0)
      have hba : Below w1.heap.size w1 (w1.alloc (.cells #[.string ⟨#[98]⟩, .int .i64 2, .int .i64 xb, .string ⟨#[]⟩] 96)) := (Below.refl _ _).alloc (Nat.le_refl _) _
      have HR : Hid (KRow Vκ (w1.alloc (.cells #[.string ⟨#[98]⟩, .int .i64 2, .int .i64 xb, .string ⟨#[]⟩] 96)) (w1.heap.size + 1) (some ⟨w1.heap.size, 0, none⟩) 1 [vB xb]) := Lib.hid (KRow.lit (κ := Vκ) w1 96 [vB xb] #[.string ⟨#[98]⟩, .int .i64 2, .int .i64 xb, .string ⟨#[]⟩] rfl)
      have HOa := Lib.hid (HO1.out.below hba (Nat.le_refl _))
      have HBa := Lib.hid (HB1.out.trans (hba.mono (by have := HP.out; have := HB1.out.size; omega)))
      have hbw : p0 ≤ (w1.alloc (.cells #[.string ⟨#[98]⟩, .int .i64 2, .int .i64 xb, .string ⟨#[]⟩] 96)).heap.size := by have := HP.out; have := HB1.out.size; simp; omega
      clear hba h0
      go_wp2_with (at_builtin; refine append_k (κ := Vκ) rfl (.tmp 12) (.tmp 18) 32 96 i0 _ 48 Tryz.underlying32 hi0 hx0 hx1 hx2 rfl rfl _ p0 _ (some ⟨p0, 0, none⟩) 1 1 [vA kv] ⟨w1.heap.size, 0, none⟩ (vB xb) rfl HOa.out rfl HR.out (by decide) (by decide) hbw ?_; intro A' c' w' ho hg; have HX1 := Lib.hid ho; have HX2 := Lib.hid (HBa.out.trans ((hg.below HOa.out.2 hbw).mono (by have := HP.out; have := HB1.out.size; omega))); clear ho hg)
      go_meet
      rw [HE1.out]
      exact ⟨A', c', rfl, HX1.out, HX2.out⟩
    · have hb0 : (x8 == 0) = false := by rw [beq_eq_false_iff_ne]; exact h0
      have HE1 : Hid (vL1 kv x8 xb = [vA kv]) := Lib.hid (if_neg h0)
      clear h0
      go_wp2
      go_meet
      rw [HE1.out]
      exact ⟨_, _, rfl, HO1.out, HB1.out⟩
  case rest =>
    obtain ⟨A, c, rfl, hO, hB⟩ := hcut
    generalize wc = w2 at *
    have hl2 : (vL1 kv x8 xb).length ≤ 2 := by
      unfold vL1
      split
      · exact Nat.le_refl 2
      · exact Nat.le_succ 1
    generalize hle : vL1 kv x8 xb = l at *
    have HLE := Lib.hid hle
    clear hle
    have HO2 := Lib.hid hO
    have HB2 := Lib.hid hB
    clear hO hB h8 h4 hb HO1 HB1
    go_upto_if 22 with (fail)
    go_cut [3] from 4 to 34 (fun s wx => ∃ (A : Option Addr) (c : Nat), s = .slice A (vL2 l x32 k3).length c ∧ OwnK Vκ wx p0 96 A (vL2 l x32 k3).length c (vL2 l x32 k3) ∧ Below p0 w wx)
    case first =>
      by_cases h0 : x32 = 0
      · have hb0 : (x32 == 0) = true := by rw [beq_iff_eq]; exact h0
        have HE1 : Hid (vL2 l x32 k3 = l ++ [vS (txV k3)]) := Lib.hid (if_pos h0)
        have hs2 : p0 ≤ w2.heap.size := by have := HP.out; have := HB2.out.size; omega
        have hbt : Below w2.heap.size w2 (w2.alloc (.cells #[.string ⟨#[120]⟩, .string ⟨#[121]⟩, .string ⟨#[]⟩] 9)) := (Below.refl _ _).alloc (Nat.le_refl _) _
        have HCT := Lib.hid (Cel.lit w2 #[.string ⟨#[120]⟩, .string ⟨#[121]⟩, .string ⟨#[]⟩] 9)
        have HOt := Lib.hid (HO2.out.below hbt (Nat.le_refl _))
        have HBt := Lib.hid (HB2.out.trans (hbt.mono hs2))
        have hk3 := HK3.out
        have hk0 : (0 : Int) ≤ (k3 : Int) := by omega
        have hkI : (k3 : Int) < 3 := by omega
        have hct : (w2.alloc (.cells #[.string ⟨#[120]⟩, .string ⟨#[121]⟩, .string ⟨#[]⟩] 9)).cell? ⟨w2.heap.size, k3, none⟩ = some (.string (txV k3)) := by
          rcases (show k3 = 0 ∨ k3 = 1 ∨ k3 = 2 by omega) with rfl | rfl | rfl <;> exact HCT.out.cell _ _ rfl
        have hst : (w2.alloc (.cells #[.string ⟨#[120]⟩, .string ⟨#[121]⟩, .string ⟨#[]⟩] 9)).heap.size = w2.heap.size + 1 := by simp
        clear hbt h0 HCT
        generalize txV k3 = tx at *
        have hba : Below (w2.alloc (.cells #[.string ⟨#[120]⟩, .string ⟨#[121]⟩, .string ⟨#[]⟩] 9)).heap.size (w2.alloc (.cells #[.string ⟨#[120]⟩, .string ⟨#[121]⟩, .string ⟨#[]⟩] 9)) ((w2.alloc (.cells #[.string ⟨#[120]⟩, .string ⟨#[121]⟩, .string ⟨#[]⟩] 9)).alloc (.cells #[.string ⟨#[115]⟩, .int .i64 3, .int .i64 0, .string tx] 96)) := (Below.refl _ _).alloc (Nat.le_refl _) _
        have hr := KRow.lit (κ := Vκ) (w2.alloc (.cells #[.string ⟨#[120]⟩, .string ⟨#[121]⟩, .string ⟨#[]⟩] 9)) 96 [vS tx] #[.string ⟨#[115]⟩, .int .i64 3, .int .i64 0, .string tx] rfl
        have HOa := Lib.hid (HOt.out.below hba (Nat.le_refl _))
        have HBa := Lib.hid (HBt.out.trans (hba.mono (by rw [hst]; omega)))
        have hbw : p0 ≤ ((w2.alloc (.cells #[.string ⟨#[120]⟩, .string ⟨#[121]⟩, .string ⟨#[]⟩] 9)).alloc (.cells #[.string ⟨#[115]⟩, .int .i64 3, .int .i64 0, .string tx] 96)).heap.size := by simp; omega
        rw [hst] at hr
        have HR := Lib.hid hr
        clear hba hr
        have hl6 : l.length ≤ 1000000 := by omega
        go_wp2_with (first
          | (go_at_call 15; refine (N1.out _).mono ?_; rintro e wy ⟨rfl, rfl⟩)
          | (at_builtin; refine append_k (κ := Vκ) rfl (.tmp 23) (.tmp 32) 32 96 i0 _ 48 Tryz.underlying32 hi0 hx0 hx1 hx2 rfl rfl _ p0 _ A l.length c l ⟨w2.heap.size + 1, 0, none⟩ (vS tx) rfl HOa.out rfl HR.out hl6 (by decide) hbw ?_; intro A' c' w' ho hg; have HX1 := Lib.hid ho; have HX2 := Lib.hid (HBa.out.trans ((hg.below HOa.out.2 hbw).mono (by have := HP.out; have := HB2.out.size; omega))); clear ho hg))
        go_meet
        rw [HE1.out, List.length_append]
        exact ⟨A', c', rfl, HX1.out, HX2.out⟩
      · have hb0 : (x32 == 0) = false := by rw [beq_eq_false_iff_ne]; exact h0
        have HE1 : Hid (vL2 l x32 k3 = l) := Lib.hid (if_neg h0)
        clear h0
        go_wp2
        go_meet
        rw [HE1.out]
        exact ⟨_, _, rfl, HO2.out, HB2.out⟩
    case rest =>
      obtain ⟨A', c', rfl, hO, hB⟩ := hcut
      have HO3 := Lib.hid hO
      have HB3 := Lib.hid hB
      clear hO hB
      go_wp2
      go_ret
      have e1 := HLE.out
      have e2 := HP.out
      subst e1
      subst e2
      exact ⟨⟨A', c', rfl, HO3.out⟩, HB3.out⟩
end Pr
end Go.Proofs.YtkffnfgdmcebdaaGreatDoor
end
section
namespace Go.Proofs.YtkffnfgdmcebdaaGreatDoor
open Go.RowKit

namespace Pr
set_option maxHeartbeats 1600000 in
theorem reftokens_any (A : Option Addr) (n c : Nat) (l : List Tk) (w : World) (hr : KRow Tk.κ w w.heap.size A n l) (hn : n ≤ 100000) :
    Calls Tryz.prog 38 #[.slice A n c] w fun e w' => (∃ A' c', e = .returned (.slice A' n c') ∧ OwnK Tk.κ w' w.heap.size 35 A' n c' l) ∧ Below w.heap.size w w' := by
  obtain ⟨i0, hi0, hz0, hz1, hz2⟩ := info_parts info_tok
  have HL := Lib.hid (hr.len (by decide))
  go_enter Tryz.func38, Tryz.ntmps38
  go_wp2_with (at_make; refine wpList_make_own _ rfl _ _ 36 rfl w.heap.size 35 i0 _ 4 Tryz.underlying36 hi0 hz0 hz1 .i64 .i64 _ n rfl rfl ?h1 ?h2 ?h3 ?h4 ?_)
  case h1 => rfl
  case h2 => rw [hz2]; omega
  case h3 => unfold maxLen; omega
  case h4 => exact Nat.le_refl _
  intro w1 ho1 hg1
  have hb1 : Below w.heap.size w w1 := (Below.refl _ _).grown hg1 (Nat.le_refl _) (fun k hk => by cases hk)
  go_wp2
  go_loopw [3, 4] (fun v i wr => ∃ k : Nat, k ≤ n ∧ i = .int .i64 k ∧ (∃ A1 c1, v = .slice A1 k c1 ∧ OwnK Tk.κ wr w.heap.size 35 A1 k c1 (l.take k)) ∧ Below w.heap.size w wr) (fun _ i _ => n - (intOf i).toNat)
  case atStart => exact ⟨0, Nat.zero_le _, rfl, ⟨_, _, rfl, ⟨by decide, ho1⟩⟩, hb1⟩
  case round =>
    obtain ⟨k, hk, rfl, ⟨A1, c1, rfl, ho⟩, hbw⟩ := hrel
    by_cases hlt : k < n
    · have hT := hr.below hbw (Nat.le_refl _)
      obtain ⟨b0, off, rfl, _, _⟩ := hT.2 (show 0 < n by omega)
      obtain ⟨t0, t1, t2, t3⟩ := tk_at hT hlt
      have hk' : k < l.length := by rw [HL.out]; exact hlt
      have H := Lib.hid (show l.take (k + 1) = l.take k ++ [l[k]!] by rw [getElem!_pos l k hk']; exact List.take_succ_eq_append_getElem hk')
      generalize l[k]! = tk at *
      obtain ⟨tid, tnode, tinn, tst⟩ := tk
      dsimp only at t0 t1 t2 t3
      have hk0 : (0 : Int) ≤ (k : Int) := by omega
      have hkI : (k : Int) < (n : Int) := by omega
      have hwk : IntKind.i64.wrap ((k : Int) + 1) = (k : Int) + 1 := by rw [IntKind.wrap_i64]; omega
      have hba : Below wr.heap.size wr (wr.alloc (.cells #[.int .i64 tid, .int .i64 tnode, .int .i64 tinn, .bool tst] 35)) := (Below.refl _ _).alloc (Nat.le_refl _) _
      have HOa := Lib.hid (ho.below hba (Nat.le_refl _))
      have HBa := Lib.hid (hbw.trans (hba.mono hbw.size))
      have HR : Hid (KRow Tk.κ (wr.alloc (.cells #[.int .i64 tid, .int .i64 tnode, .int .i64 tinn, .bool tst] 35)) (wr.heap.size + 1) (some ⟨wr.heap.size, 0, none⟩) 1 [⟨tid, tnode, tinn, tst⟩]) := Lib.hid (KRow.lit (κ := Tk.κ) wr 35 [⟨tid, tnode, tinn, tst⟩] #[.int .i64 tid, .int .i64 tnode, .int .i64 tinn, .bool tst] rfl)
      have hbw2 : w.heap.size ≤ (wr.alloc (.cells #[.int .i64 tid, .int .i64 tnode, .int .i64 tinn, .bool tst] 35)).heap.size := HBa.out.size
      have hk6 : k ≤ 1000000 := by omega
      clear hba ho hbw
      go_wp2_with (at_builtin; refine append_k (κ := Tk.κ) rfl (.tmp 14) (.tmp 19) 36 35 i0 _ 32 Tryz.underlying36 hi0 hz0 hz1 hz2 rfl rfl _ w.heap.size _ A1 k c1 (l.take k) ⟨wr.heap.size, 0, none⟩ ⟨tid, tnode, tinn, tst⟩ rfl HOa.out rfl HR.out hk6 (by decide) hbw2 ?_; intro A2 c2 w2 ho2 hg2; have HX1 := Lib.hid ho2; have HX2 := Lib.hid (HBa.out.trans ((hg2.below HOa.out.2 hbw2).mono (Nat.le_refl _))); clear ho2 hg2)
      go_roundw
      case measure => simp [intOf]; omega
      case rel => exact ⟨k + 1, by omega, by go_num, ⟨A2, c2, rfl, by rw [H.out]; exact HX1.out⟩, HX2.out⟩
    · have hkn : l.take k = l := List.take_of_length_le (by rw [HL.out]; omega)
      obtain rfl : k = n := by omega
      have hkI : ¬ (k : Int) < (k : Int) := by omega
      rw [hkn] at ho
      go_wp2
      go_ret
      exact ⟨⟨A1, c1, rfl, ho⟩, hbw⟩
set_option maxHeartbeats 1600000 in
theorem sametoken_any (t : Tk) (w : World) :
    Calls Tryz.prog 79 #[t.val, t.val] w fun e w' => e = .returned (.bool true) ∧ Below w.heap.size w w' := by
  obtain ⟨tid, tnode, tinn, tst⟩ := t
  have hb1 : Below w.heap.size w (w.alloc (.cells #[.int .i64 tid, .int .i64 tnode, .int .i64 tinn, .bool tst] 35)) := (Below.refl _ _).alloc (Nat.le_refl _) _
  have hb2 := hb1.alloc hb1.size (.cells #[.int .i64 tid, .int .i64 tnode, .int .i64 tinn, .bool tst] 35)
  have hs : (w.alloc (.cells #[.int .i64 tid, .int .i64 tnode, .int .i64 tinn, .bool tst] 35)).heap.size = w.heap.size + 1 := by simp
  have HX := Lib.hid ((Cel.lit w #[.int .i64 tid, .int .i64 tnode, .int .i64 tinn, .bool tst] 35).alloc (.cells #[.int .i64 tid, .int .i64 tnode, .int .i64 tinn, .bool tst] 35))
  have hy := Cel.lit (w.alloc (.cells #[.int .i64 tid, .int .i64 tnode, .int .i64 tinn, .bool tst] 35)) #[.int .i64 tid, .int .i64 tnode, .int .i64 tinn, .bool tst] 35
  rw [hs] at hy
  have HY : Hid (Cel _ (w.heap.size + 1) _) := Lib.hid hy
  have HB := Lib.hid hb2
  unfold Tk.val
  dsimp only
  clear hb1 hb2 hs hy
  go_enter Tryz.func79, Tryz.ntmps79
  go_upto_region 1 with (fail)
  generalize (w.alloc _).alloc _ = w1 at *
  obtain ⟨t0, t1, t2, t3⟩ := qd_facts HX.out
  obtain ⟨u0, u1, u2, u3⟩ := qd_facts HY.out
  go_wp2
  go_ret
  exact ⟨by simp, HB.out⟩
set_option maxHeartbeats 3200000 in
theorem sametokens_any (A A' : Option Addr) (n c c' : Nat) (l : List Tk) (w : World) (hr : KRow Tk.κ w w.heap.size A n l) (hr' : KRow Tk.κ w w.heap.size A' n l) (hn : n ≤ 100000) :
    Calls Tryz.prog 36 #[.slice A n c, .slice A' n c'] w fun e w' => e = .returned (.bool true) ∧ Below w.heap.size w w' := by
  go_enter Tryz.func36, Tryz.ntmps36
  go_wp2
  go_loopw [5] (fun i wr => ∃ k : Nat, k ≤ n ∧ i = .int .i64 k ∧ Below w.heap.size w wr) (fun i _ => n - (intOf i).toNat)
  case atStart => exact ⟨0, Nat.zero_le _, rfl, Below.refl _ _⟩
  case round =>
    obtain ⟨k, hk, rfl, hbw⟩ := hrel
    by_cases hlt : k < n
    · have hk0 : (0 : Int) ≤ (k : Int) := by omega
      have hkI : (k : Int) < (n : Int) := by omega
      have hwk : IntKind.i64.wrap ((k : Int) + 1) = (k : Int) + 1 := by rw [IntKind.wrap_i64]; omega
      have hbd : Below w.heap.size w wr.drew := hbw.drew
      have hT := hr.below hbd (Nat.le_refl _)
      have hT' := hr'.below hbd (Nat.le_refl _)
      obtain ⟨b0, off, rfl, _, _⟩ := hT.2 (show 0 < n by omega)
      obtain ⟨b1, off1, rfl, _, _⟩ := hT'.2 (show 0 < n by omega)
      obtain ⟨t0, t1, t2, t3⟩ := tk_at hT hlt
      obtain ⟨u0, u1, u2, u3⟩ := tk_at hT' hlt
      have HSM := Lib.hid (sametoken_any l[k]! wr.drew)
      generalize l[k]! = tk at *
      obtain ⟨tid, tnode, tinn, tst⟩ := tk
      unfold Tk.val at HSM
      dsimp only at *
      have HB := Lib.hid hbd
      clear hT hT' hbd hr hr' hbw
      go_upto_region 6 with (fail)
      go_region_held3 (fun w' => w'.cell? ⟨b0, off + k * 4, none⟩ = some (.int .i64 tid) ∧ w'.cell? ⟨b0, off + k * 4 + 1, none⟩ = some (.int .i64 tnode) ∧ w'.cell? ⟨b0, off + k * 4 + 2, none⟩ = some (.int .i64 tinn) ∧ w'.cell? ⟨b0, off + k * 4 + 3, none⟩ = some (.bool tst) ∧ w'.cell? ⟨b1, off1 + k * 4, none⟩ = some (.int .i64 tid) ∧ w'.cell? ⟨b1, off1 + k * 4 + 1, none⟩ = some (.int .i64 tnode) ∧ w'.cell? ⟨b1, off1 + k * 4 + 2, none⟩ = some (.int .i64 tinn) ∧ w'.cell? ⟨b1, off1 + k * 4 + 3, none⟩ = some (.bool tst))
        (first | exact ⟨v0, v1, v2, v3, x0, x1, x2, x3⟩ | exact ⟨t0, t1, t2, t3, u0, u1, u2, u3⟩) (first
        | (go_at_call 79; (with_reducible refine HSM.out.mono ?_); rintro e w2 ⟨rfl, hb2⟩; have v0 := below_cells hb2 t0; have v1 := below_cells hb2 t1; have v2 := below_cells hb2 t2; have v3 := below_cells hb2 t3; have x0 := below_cells hb2 u0; have x1 := below_cells hb2 u1; have x2 := below_cells hb2 u2; have x3 := below_cells hb2 u3; have HB2 := Lib.hid (HB.out.trans (hb2.mono HB.out.size)); clear hb2))
      go_wp2_with fail
      go_roundw
      case measure => simp [intOf]; omega
      case rel => exact ⟨k + 1, by omega, by go_num, HB2.out⟩
    · have hkI : ¬ (k : Int) < (n : Int) := by omega
      have HB := Lib.hid hbw
      clear hr hr' hbw
      go_wp2
      go_ret
      exact ⟨rfl, HB.out⟩
end Pr
end Go.Proofs.YtkffnfgdmcebdaaGreatDoor
end
section
namespace Go.Proofs.YtkffnfgdmcebdaaGreatDoor
open Go.RowKit
open Pr

theorem lim400 : lim 400 = 400 := rfl
/-- A token that waits. -/
theorem waits_at {r : Rn} {k : Nat} (hk : k < r.waits.length) : ∃ u : Nat, r.waits[k]!.node = (u : Int) ∧ u < r.b.p.n ∧ r.b.p.nodes[u]!.kind = 4 ∧ r.waits[k]!.stuck = false := by
  have hm : r.waits[k]! ∈ r.waits := by rw [getElem!_pos _ k hk]; exact List.getElem_mem hk
  have h := (List.mem_filter.1 hm).2
  generalize r.waits[k]! = t at *
  rw [Bool.and_eq_true] at h
  obtain ⟨h1, h2⟩ := h
  unfold atW at h1
  simp only [Bool.and_eq_true, decide_eq_true_eq, beq_iff_eq] at h1
  exact ⟨t.node.toNat, by omega, by omega, h1.2.2, by simpa using h2⟩
set_option maxHeartbeats 12800000 in
set_option maxRecDepth 10000 in
theorem flowRests_core (E : Int → Option Addr) (s : SeedV) (n : Int) (w : World) (hS : InSeed w s) (hn1 : -9223372036854775808 ≤ n) (hn2 : n ≤ 9223372036854775807) (hE : ErrIn w E 116 2) (hE2 : ErrIn w E 104 1) (hC : CoErrsE w E) :
    Calls Tryz.prog 5 #[s.val, .int .i64 n] w fun e w' => e = .returned (.bool true) ∧ Below w.heap.size w w' := by
  obtain ⟨vl, hlv, hva⟩ := mvars_any n hn1 hn2
  have HSD := Lib.hid hS
  have HVA := Lib.hid hva
  have HENV := Lib.hid (fun (p : P) (hp : ∀ f ∈ p.flows, FlowOk p f) => env_good (vars := vl) hC hE hE2 hp hlv)
  have HLV := Lib.hid hlv.n
  have HB0 := Lib.hid ((Below.refl w.heap.size w).alloc (Nat.le_refl _) (.cells #[.string s.name, .slice s.KA s.kn s.kc, .slice s.EA s.en s.ec, .slice s.MA s.mn s.mc] 24))
  have hq0 := Cel.lit w #[.string s.name, .slice s.KA s.kn s.kc, .slice s.EA s.en s.ec, .slice s.MA s.mn s.mc] 24
  have HL := Lib.hid (fun w => mlight_any s w)
  clear hS hE hE2 hC hlv hva hn1 hn2
  unfold SeedV.val
  go_enter Tryz.func5, Tryz.ntmps5
  go_wp2_with fail
  generalize hwa : w.alloc _ = wa at *
  refine (ffirst_any wa).mono ?_
  rintro e w1 ⟨rfl, hb1'⟩
  have HQ1 := Lib.hid (hq0.below hb1' (Nat.le_refl _))
  have HB1 := Lib.hid (HB0.out.trans (hb1'.mono HB0.out.size))
  clear hq0 hb1' HB0 hwa
  obtain ⟨q0, q1, q2, q3⟩ := quad_facts HQ1.out
  go_wp2_with fail
  unfold SeedV.val at HL
  refine (HL.out _).mono ?_
  rintro e w2 ⟨rfl, hb2'⟩
  have HQ2 := Lib.hid (HQ1.out.below hb2' (Nat.le_refl _))
  have HB2 := Lib.hid (HB1.out.trans (hb2'.mono HB1.out.size))
  clear hb2' HQ1 HB1 q0 q1 q2 q3 HL
  obtain ⟨lt, hlt⟩ : ∃ b, light s = b := ⟨_, rfl⟩
  rw [hlt]
  cases lt with
  | false =>
    go_wp2
    go_ret
    exact ⟨rfl, HB2.out⟩
  | true =>
    have hkn : s.kn ≤ 28 := by
      unfold light at hlt
      simp only [Bool.and_eq_true, decide_eq_true_eq] at hlt
      exact hlt.2.1
    clear hlt
    obtain ⟨z0, z1, z2, z3⟩ := quad_facts HQ2.out
    have hk2 := (HSD.out.k.row.below HB2.out (Nat.le_refl _)).mono HB2.out.size
    have hm2 := (HSD.out.m.row.below HB2.out (Nat.le_refl _)).mono HB2.out.size
    have HG := Lib.hid (mgood_any (w := w2) s.name s.KA s.kn s.kc s.EA s.en s.ec s.MA s.mn s.mc s.ks s.ms true hk2 hm2 HSD.out.kb HSD.out.mb (by omega))
    clear hk2 hm2
    go_wp2_with fail
    refine HG.out.mono ?_
    rintro e w3 ⟨⟨A, pn, cc, F, pm, d, rfl, hN, hF⟩, hb3⟩
    have HN := Lib.hid hN
    have HF := Lib.hid hF
    have HB3 := Lib.hid (HB2.out.trans (hb3.mono HB2.out.size))
    clear hN hF hb3 HG z0 z1 z2 z3 HQ2 HB2
    obtain ⟨hinv, h2n, hn27, hm52, hname⟩ := good_inv s.ks s.ms true
    have HINV := Lib.hid hinv
    clear hinv
    generalize good s.ks s.ms true = p at *
    rw [← hname]
    have HPC := Lib.hid (Cel.lit w3 #[.string p.name, .slice A pn cc, .slice F pm d] 30)
    have hba : Below w3.heap.size w3 (w3.alloc (.cells #[.string p.name, .slice A pn cc, .slice F pm d] 30)) := (Below.refl _ _).alloc (Nat.le_refl _) _
    have HF4 := Lib.hid (HF.out.below hba (Nat.le_refl _))
    have HN4 := Lib.hid (HN.out.below hba (Nat.le_refl _))
    have HB4 := Lib.hid (HB3.out.trans (hba.mono HB3.out.size))
    obtain rfl : p.n = pn := HN.out.len
    obtain rfl : p.m = pm := HF.out.len
    have HP9 := Lib.hid (And.intro h2n (And.intro hn27 hm52))
    clear hba HN HF HB3 hname h2n hn27 hm52 hkn
    go_upto_region 7 with (fail)
    generalize w3.alloc _ = w4 at *
    generalize hpb : w3.heap.size = pb at *
    clear hpb
    have hbd : Below w4.heap.size w4 w4.drew := (Below.refl _ _).drew
    obtain ⟨⟨z0, z1, z2⟩, _⟩ := tri_facts (HPC.out.below hbd (Nat.le_refl _))
    have HVD := Lib.hid (HVA.out w4.drew)
    unfold VarsOut at HVD
    have HNW := Lib.hid (fun (W : World) (hb : Below w4.heap.size w4 W) (VA : Option Addr) (vc : Nat) (h : OwnK Vκ W w4.drew.heap.size 96 VA vl.length vc vl) => fnew_any ⟨A, p.n, cc, F, p.m, d⟩ p VA vl.length vc vl W ⟨(HN4.out.below hb (Nat.le_refl _)).row, (HF4.out.below hb (Nat.le_refl _)).row, (HN4.out.below hb (Nat.le_refl _)).nn, (HF4.out.below hb (Nat.le_refl _)).nn⟩ h.row h.nn (by have := HP9.out; omega) (by have := HP9.out; omega) HLV.out)
    have HBD := Lib.hid hbd
    dsimp only at HNW
    go_region_held3 (fun w' => w'.cell? ⟨pb, 0, none⟩ = some (.string p.name) ∧ w'.cell? ⟨pb, 1, none⟩ = some (.slice A p.n cc) ∧ w'.cell? ⟨pb, 2, none⟩ = some (.slice F p.m d)) (first | exact ⟨y0, y1, y2⟩ | exact ⟨x0, x1, x2⟩ | exact ⟨z0, z1, z2⟩) (first
      | (go_at_call 12; (with_reducible refine HVD.out.mono ?_); rintro e w5 ⟨⟨VA, vc, rfl, hO⟩, hb5⟩; have HB5 := Lib.hid (HBD.out.trans hb5); obtain ⟨⟨x0, x1, x2⟩, _⟩ := tri_facts (HPC.out.below HB5.out (Nat.le_refl _)); have HNX := Lib.hid (HNW.out w5 HB5.out VA vc hO); clear hO hb5)
      | (go_at_call 24; (with_reducible refine HNX.out.mono ?_); rintro e w6 ⟨⟨q, x, rfl, hq, hr⟩, hb6⟩; have HB6 := Lib.hid (HB5.out.trans (hb6.mono HB5.out.size)); obtain ⟨⟨y0, y1, y2⟩, _⟩ := tri_facts (HPC.out.below HB6.out (Nat.le_refl _)); have HR6 := Lib.hid hr; have hq5 := hq; clear hr hb6 hq))
    have hqa : w4.heap.size ≤ q := Nat.le_trans HB5.out.size hq5
    have hqw : w.heap.size ≤ q := Nat.le_trans HB4.out.size hqa
    have HW6 := Lib.hid (HB4.out.trans (HB6.out.mono HB4.out.size))
    have hpos := HINV.out.pos
    have hok0 : Ok (rn0 p vl).b (lim 400 + 400) := by
      have h9 := HP9.out
      refine ⟨⟨List.pairwise_singleton _ _, fun t ht => ?_⟩, by show p.n ≤ 100000; omega, by show p.m ≤ 90000; omega, HLV.out, by show 1 ≤ 100000; decide, by show (0 : Int) ≤ 2; decide, ?_⟩
      · obtain rfl := List.mem_singleton.1 ht
        show (1 : Int) < 2
        decide
      · rw [lim400]
        show (2 : Int) + ((400 + 400 : Nat) : Int) * ((p.m : Int) + 1) ≤ 1000000000
        omega
    have hwn0 : Wn (rn0 p vl).b := fun t ht => by
      obtain rfl := List.mem_singleton.1 ht
      exact ⟨0, rfl, hpos⟩
    have htn := tn_of HINV.out.flow
    have HRUN1 := Lib.hid (frun_any E q x (rn0 p vl) w w6 400 400 HR6.out HW6.out hqw (HENV.out p HINV.out.flow) hok0 (Nat.zero_le _))
    have HFC := Lib.hid (fun (ok : Bool) (r1 : Rn) (h : RunTo (rn0 p vl) (lim 400) ok r1) => h.facts (more := 400) hok0 htn hwn0)
    have HEN := Lib.hid (HENV.out p HINV.out.flow)
    clear x0 x1 x2 y0 y1 y2 z0 z1 z2 hok0 hwn0 htn hpos hq5 HNX HNW HVD HENV HVA
    go_upto_region 11 with (go_at_call 27; refine HRUN1.out.mono ?_; rintro e w7 ⟨⟨ok1, x7, r1, rfl, hr7, hrt⟩, hg7⟩; have HR70 := Lib.hid hr7; have HRT := Lib.hid hrt; have HG7 := Lib.hid hg7; clear hr7 hrt hg7)
    have hr7 := HR70.out
    have hrt := HRT.out
    have hg7 := HG7.out
    clear HR70 HRT HG7
    obtain ⟨hrest, hwn, hok1, hp1, hv1, hmv⟩ := HFC.out ok1 r1 hrt
    obtain ⟨b1, m1, f1⟩ := r1
    dsimp only at *
    have hp2 : b1.p = p := hp1
    have hv2 : b1.vars = vl := hv1
    clear hp1 hv1
    subst hp2
    subst hv2
    have hm400 : m1 ≤ 400 := by
      have h : m1 ≤ 0 + lim 400 := hmv
      rw [lim400] at h
      omega
    have HX7 := Lib.hid (below_grown HB6.out hg7 hqa)
    have HW7 := Lib.hid (below_grown HW6.out hg7 hqw)
    have HR7 := Lib.hid hr7
    have HRS := Lib.hid hrest
    have HWN := Lib.hid hwn
    have HOK := Lib.hid hok1
    have HM4 := Lib.hid hm400
    have ht1 := hok1.t
    have et7 : x7.nt = b1.toks.length := hr7.inn.ht
    obtain ⟨⟨z0, z1, z2, z3, z4, z5, z6, z7⟩, _⟩ := eight_facts hr7.cel
    rw [et7] at z4
    have hTK := hr7.inn.toks
    rw [et7] at hTK
    have HTK := Lib.hid (reftokens_any x7.T b1.toks.length x7.ct b1.toks w7 hTK ht1)
    clear hrt hmv hg7 hrest hwn hok1 hr7 et7 hTK HRUN1 HFC hm400
    go_upto_region 13 with (go_at_call 38; refine HTK.out.mono ?_; rintro e w8 ⟨⟨A8, c8, rfl, hO8⟩, hb8⟩; have HO8 := Lib.hid hO8; have HB8 := Lib.hid hb8; clear hO8 hb8)
    have hb8 := HB8.out
    have HW8 := Lib.hid (HW7.out.trans (hb8.mono HW7.out.size))
    have HX8 := Lib.hid (HX7.out.trans (hb8.mono HX7.out.size))
    have HRUN2 := Lib.hid (frun_to E q x7 ⟨b1, m1, f1⟩ ⟨b1, m1, f1⟩ w w8 400 0 (HR7.out.below hb8) HW8.out hqw HEN.out HOK.out (show m1 ≤ 900000000 by have := HM4.out; omega) (.zero _) HRS.out (Nat.zero_le _))
    have hq7 : q < w7.heap.size := HR7.out.cel.lt
    clear z0 z1 z2 z3 z4 z5 z6 z7 hb8 HTK
    go_upto_region 14 with (go_at_call 27; refine HRUN2.out.mono ?_; rintro e w9 ⟨rfl, ⟨x9, hr9⟩, hg9⟩; have HR9 := Lib.hid hr9; have HG9 := Lib.hid hg9; clear hr9 hg9)
    have hr9 := HR9.out
    have hg9 := HG9.out
    have HW9 := Lib.hid (below_grown HW8.out hg9 hqw)
    have HX9 := Lib.hid (below_grown HX8.out hg9 hqa)
    have HO9 := Lib.hid (HO8.out.kept hg9 (fun a ha e => by have h1 := (HO8.out.block ha).1; have h2 : q = a.block := Option.some.inj e; omega))
    have HWT := Lib.hid (fwaits_any q x9 ⟨b1, m1, f1⟩ w9 hr9 ht1)
    unfold TksOut at HWT
    clear hr9 hg9 HRUN2
    go_upto_region 15 with (go_at_call 39; refine HWT.out.mono ?_; rintro e w10 ⟨⟨Y, cy, rfl, hY⟩, hb10⟩; have HY := Lib.hid hY; have HB10 := Lib.hid hb10; clear hY hb10)
    have hb10 := HB10.out
    have HW10 := Lib.hid (HW9.out.trans (hb10.mono HW9.out.size))
    have HX10 := Lib.hid (HX9.out.trans (hb10.mono HX9.out.size))
    have HR10 := Lib.hid (HR9.out.below hb10)
    have HO10 := Lib.hid (HO9.out.below hb10 (Nat.le_refl _))
    have HPC10 := Lib.hid (HPC.out.below HX10.out (Nat.le_refl _))
    have HN10 := Lib.hid ((HN4.out.below HX10.out (Nat.le_refl _)).row)
    have HWA := Lib.hid (fun k (h : k < (⟨b1, m1, f1⟩ : Rn).waits.length) => waits_at h)
    have hwl : (⟨b1, m1, f1⟩ : Rn).waits.length ≤ 100000 := Nat.le_trans (List.length_filter_le _ _) ht1
    generalize (⟨b1, m1, f1⟩ : Rn).waits = wl at *
    have hn27 := HP9.out.2.1
    clear hb10 HWT HO8 HO9 HR9 HW9 HX9 HW8 HX8
    go_wp2_with fail
    go_loopw [13] (fun i wr => ∃ k : Nat, k ≤ wl.length ∧ i = .int .i64 k ∧ Below w10.heap.size w10 wr) (fun i _ => wl.length - (intOf i).toNat)
    case atStart => exact ⟨0, Nat.zero_le _, rfl, Below.refl _ _⟩
    case round =>
      obtain ⟨k, hk, rfl, hbr⟩ := hrel
      by_cases hlt : k < wl.length
      · have hk0 : (0 : Int) ≤ (k : Int) := by omega
        have hkI : (k : Int) < (wl.length : Int) := by omega
        have hwk : IntKind.i64.wrap ((k : Int) + 1) = (k : Int) + 1 := by rw [IntKind.wrap_i64]; omega
        obtain ⟨u, hu, hun, hu4, hus⟩ := HWA.out k hlt
        have hT := HY.out.row.below hbr (Nat.le_refl _)
        obtain ⟨b0, off, rfl, _, _⟩ := hT.2 (show 0 < wl.length by omega)
        obtain ⟨t0, t1, t2, t3⟩ := tk_at hT hlt
        rw [hu] at t1
        rw [hus] at t3
        obtain ⟨⟨c0, c1, c2⟩, _⟩ := tri_facts (HPC10.out.below hbr (Nat.le_refl _))
        have hN := HN10.out.below hbr (Nat.le_refl _)
        obtain ⟨b3, off3, rfl, _, _⟩ := hN.2 (show 0 < b1.p.n by omega)
        obtain ⟨n0, n1, n2, n3, n4, n5, n6, n7⟩ := nd_at hN hun
        rw [hu4] at n0
        have hu0 : (0 : Int) ≤ (u : Int) := by omega
        have hun0 : decide ((u : Int) < 0) = false := decide_eq_false (by omega)
        have hunI : (u : Int) < (b1.p.n : Int) := by omega
        have hunD : decide ((b1.p.n : Int) ≤ (u : Int)) = false := decide_eq_false (by omega)
        have HBR := Lib.hid hbr
        clear hT hN hu hu4 hus n1 n2 n3 n4 n5 n6 n7 t0 t2 hbr
        go_upto_region 18 with (fail)
        go_quiet (fail)
        go_wp2_with fail
        go_roundw
        case measure => simp [intOf]; omega
        case rel => exact ⟨k + 1, by omega, by go_num, below_drewN HBR.out _⟩
      · have hkI : ¬ (k : Int) < (wl.length : Int) := by omega
        have HBK := Lib.hid hbr
        clear hbr
        go_wp2_with fail
        go_loopw [14] (fun i wx => ∃ k : Nat, k ≤ b1.toks.length ∧ i = .int .i64 k ∧ Below w10.heap.size w10 wx) (fun i _ => b1.toks.length - (intOf i).toNat)
        case atStart => exact ⟨0, Nat.zero_le _, rfl, HBK.out⟩
        case round =>
          obtain ⟨k2, hk2, rfl, hbr⟩ := hrel
          have et : x9.nt = b1.toks.length := HR10.out.inn.ht
          obtain ⟨⟨z0, z1, z2, z3, z4, z5, z6, z7⟩, _⟩ := eight_facts (HR10.out.cel.below hbr (Nat.le_refl _))
          rw [et] at z4
          have hT := HR10.out.inn.toks.below hbr (Nat.le_refl _)
          rw [et] at hT
          have HB2 := Lib.hid hbr
          by_cases hlt2 : k2 < b1.toks.length
          · have hk0 : (0 : Int) ≤ (k2 : Int) := by omega
            have hkI2 : (k2 : Int) < (b1.toks.length : Int) := by omega
            have hwk : IntKind.i64.wrap ((k2 : Int) + 1) = (k2 : Int) + 1 := by rw [IntKind.wrap_i64]; omega
            obtain ⟨u, hu, hun, huk⟩ := rest_kind HRS.out HWN.out hlt2
            obtain ⟨b0, off, hb0, _, _⟩ := hT.2 (show 0 < b1.toks.length by omega)
            rw [hb0] at hT z4
            obtain ⟨t0, t1, t2, t3⟩ := tk_at hT hlt2
            rw [hu] at t1
            obtain ⟨⟨c0, c1, c2⟩, _⟩ := tri_facts (HPC10.out.below hbr (Nat.le_refl _))
            have hN := HN10.out.below hbr (Nat.le_refl _)
            obtain ⟨b3, off3, hb3, _, _⟩ := hN.2 (show 0 < b1.p.n by omega)
            rw [hb3] at hN c1
            obtain ⟨n0, n1, n2, n3, n4, n5, n6, n7⟩ := nd_at hN hun
            have hu0 : (0 : Int) ≤ (u : Int) := by omega
            have hun0 : decide ((u : Int) < 0) = false := decide_eq_false (by omega)
            have hunI : (u : Int) < (b1.p.n : Int) := by omega
            have hunD : decide ((b1.p.n : Int) ≤ (u : Int)) = false := decide_eq_false (by omega)
            generalize b1.toks[k2]!.stuck = st at *
            generalize b1.p.nodes[u]!.kind = kd at *
            have HUK := Lib.hid huk
            clear hT hN hu hb0 hb3 huk n1 n2 n3 n4 n5 n6 n7 t0 t2 z0 z1 z2 z3 z5 z6 z7 hbr et
            go_upto_region 23 with (fail)
            go_quiet (fail)
            go_upto_region 25 with (fail)
            go_quiet (fail)
            cases st with
            | true =>
              go_wp2_with fail
              go_roundw
              case measure => simp [intOf]; omega
              case rel => exact ⟨k2 + 1, by omega, by go_num, below_drewN HB2.out _⟩
            | false =>
              rcases HUK.out rfl with rfl | rfl | rfl
              · go_wp2_with fail
                go_roundw
                case measure => simp [intOf]; omega
                case rel => exact ⟨k2 + 1, by omega, by go_num, below_drewN HB2.out _⟩
              · go_wp2_with fail
                go_roundw
                case measure => simp [intOf]; omega
                case rel => exact ⟨k2 + 1, by omega, by go_num, below_drewN HB2.out _⟩
              · go_wp2_with fail
                go_roundw
                case measure => simp [intOf]; omega
                case rel => exact ⟨k2 + 1, by omega, by go_num, below_drewN HB2.out _⟩
          · have hkI2 : ¬ (k2 : Int) < (b1.toks.length : Int) := by omega
            have hm4 := HM4.out
            have hmI : (m1 : Int) ≤ 400 := by omega
            have hwr := (HO10.out.row.below hbr (Nat.le_refl _)).mono hbr.size
            have hTm := hT.mono hbr.size
            have HSM := Lib.hid (sametokens_any A8 x9.T b1.toks.length c8 x9.ct b1.toks wr hwr hTm ht1)
            have z6' : wr.cell? ⟨q, 6, none⟩ = some (.int .i64 (m1 : Int)) := z6
            have HRX := Lib.hid (HR10.out.below hbr)
            have HWX := Lib.hid (HW10.out.trans (hbr.mono HW10.out.size))
            clear hwr hTm hT hbr et z6 z0 z1 z2 z3 z5 z7
            cases ok1 with
            | true =>
              go_wp2_with (go_at_call 36; (with_reducible refine HSM.out.mono ?_); rintro e wy ⟨rfl, hby⟩; have HBY := Lib.hid (HWX.out.trans (hby.mono HWX.out.size)); have y6 : wy.cell? ⟨q, 6, none⟩ = some (.int .i64 (m1 : Int)) := below_cells hby z6'; clear hby)
              go_ret
              exact ⟨rfl, HBY.out⟩
            | false =>
              go_wp2_with fail
              go_ret
              exact ⟨rfl, HWX.out⟩
end Go.Proofs.YtkffnfgdmcebdaaGreatDoor
end
section
namespace Go.Proofs.YtkffnfgdmcebdaaGreatDoor
open Go.RowKit
open Pr
theorem flowRests_walk (s : SeedV) (n : Int) (ads : List Addr) (w : World) (hS : InSeed w s) (hn1 : -9223372036854775808 ≤ n) (hn2 : n ≤ 9223372036854775807)
    (hE : Errs w 254 sents9 ads) (hW : CoWords w) :
    Calls Tryz.prog 5 #[s.val, .int .i64 n] w fun e w' => e = .returned (.bool true) ∧ Below w.heap.size w w' :=
  flowRests_core (errMap pos9 ads) s n w hS hn1 hn2 (stuck9 hE) (many9 hE) (coErrsE9 hE hW)
end Go.Proofs.YtkffnfgdmcebdaaGreatDoor
end
