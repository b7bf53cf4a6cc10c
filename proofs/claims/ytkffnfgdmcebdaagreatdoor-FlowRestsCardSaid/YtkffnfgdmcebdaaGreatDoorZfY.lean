/- Package token: firstBy, onEach, moreCome. -/
import Derived.Test.YtkffnfgdmcebdaaGreatDoorZdY
import Derived.Test.YtkffnfgdmcebdaaGreatDoorYJoint24
namespace Go.Proofs.YtkffnfgdmcebdaaGreatDoor
open Go.RowKit

namespace Pr
theorem tplace_any (k n : Int) (w : World) : Calls Tryz.prog 49 #[.int .i64 k, .int .i64 n] w fun e w' => e = .returned (.bool (decide (0 ≤ k) && decide (k < n))) ∧ w = w' := by
  by_cases h1 : 0 ≤ k
  · go_enter Tryz.func49, Tryz.ntmps49
    go_wp2
    go_ret
    refine ⟨?_, rfl⟩
    rw [decide_eq_true (show 0 ≤ k by omega)]; rfl
  · go_enter Tryz.func49, Tryz.ntmps49
    go_wp2
    go_ret
    refine ⟨?_, rfl⟩
    rw [decide_eq_false (show ¬ 0 ≤ k by omega)]; rfl
set_option maxHeartbeats 800000 in
theorem firstBy_any (v f : Int) (x : BdV) (b : Bd) (w : World) (hx : BdIn w w.heap.size x b) (ha : Asc b.toks) (hn : b.toks.length ≤ 100000) :
    Calls Tryz.prog 90 #[x.val, .int .i64 v, .int .i64 f] w fun e w' => e = .returned (.int .i64 (fst (atB v f) b.toks)) ∧ Below w.heap.size w w' := by
  have eg : ∀ args w, (callFunc 109 args).run Tryz.prog w = .ok (.enter 109 args) w := enters_of Tryz.func109 (by kernel_rfl) rfl
  have hb1 : Below w.heap.size w (w.alloc (.cells x.list.toArray 38)) := (Below.refl _ _).alloc (Nat.le_refl _) _
  have hb2 : Below w.heap.size w ((w.alloc (.cells x.list.toArray 38)).alloc (.cells #[.int .i64 v] 3)) := hb1.alloc hb1.size _
  have hb3 : Below w.heap.size w (((w.alloc (.cells x.list.toArray 38)).alloc (.cells #[.int .i64 v] 3)).alloc (.cells #[.int .i64 f] 3)) := hb2.alloc hb2.size _
  have hcon := Lib.hid (least_any 109 #[.pointer (some ⟨w.heap.size + 1, 0, none⟩), .pointer (some ⟨w.heap.size + 2, 0, none⟩)] (atB v f) x b _ eg (hx.on hb3) ha hn (atB_any v f (w.heap.size + 1) (w.heap.size + 2) _ (by simp) (by simp [go_sem]) (by simp) (by simp [go_sem])))
  have HB2 := Lib.hid hb3
  clear hx hb1 hb2 hb3 eg ha hn
  generalize fst (atB v f) b.toks = r at *
  obtain ⟨s, A, n, c, F, m, d, V, nv, cv, T, nt, ct, k⟩ := x
  unfold BdV.val at *
  unfold BdV.list at *
  dsimp only at *
  go_enter Tryz.func90, Tryz.ntmps90
  go_wp2_with (go_at_call 88; refine hcon.out.mono ?_; rintro e w' ⟨rfl, hb'⟩)
  go_ret
  exact ⟨rfl, HB2.out.trans (hb'.mono HB2.out.size)⟩
set_option maxHeartbeats 1600000 in
theorem onEach_any (v : Int) (x : BdV) (b : Bd) (w : World) (hx : BdIn w w.heap.size x b) (ha : Asc b.toks) (hn : b.toks.length ≤ 100000) (X : Option Addr) (kx cx : Nat) (ins : List Nat) (hi : KRow iκ w w.heap.size X kx (ins.map Int.ofNat)) (hk : kx ≤ 100000) :
    Calls Tryz.prog 52 #[x.val, .int .i64 v, .slice X kx cx] w fun e w' => e = .returned (.bool (ins.all fun (f : Nat) => !(fst (atB v (f : Int)) b.toks == -1))) ∧ Below w.heap.size w w' := by
  obtain rfl : ins.length = kx := by have := hi.len (by decide); simpa using this
  have HX := Lib.hid hx
  have HA := Lib.hid ha
  have HI := Lib.hid hi
  have HC := Lib.hid (Cel.lit w x.list.toArray 38)
  have HB := Lib.hid ((Below.refl w.heap.size w).alloc (Nat.le_refl _) (.cells x.list.toArray 38))
  have HCON := Lib.hid (fun (W : World) (f : Int) (hb : Below w.heap.size w W) => firstBy_any v f x b W (hx.on hb) ha hn)
  clear hx ha hi
  obtain ⟨s, A, n, c, F, m, d, V, nv, cv, T, nt, ct, k⟩ := x
  unfold BdV.val at *
  unfold BdV.list at *
  dsimp only at *
  go_enter Tryz.func52, Tryz.ntmps52
  go_upto_region 1 with (fail)
  generalize w.alloc _ = wa at *
  go_wp2_with fail
  go_loopw [11] (fun i wr => ∃ j : Nat, j ≤ ins.length ∧ i = .int .i64 j ∧ ((ins.take j).all fun (f : Nat) => !(fst (atB v (f : Int)) b.toks == -1)) = true ∧ Below wa.heap.size wa wr) (fun i _ => ins.length - (intOf i).toNat)
  case atStart => exact ⟨0, Nat.zero_le _, rfl, rfl, Below.refl _ _⟩
  case round =>
    obtain ⟨j, hj, rfl, hall, hbr⟩ := hrel
    have HALL := Lib.hid hall
    have hj0 : (0 : Int) ≤ (j : Int) := by omega
    clear hall
    by_cases hlt : j < ins.length
    · have hI : (j : Int) < (ins.length : Int) := by omega
      have hR := HI.out.below (HB.out.trans (hbr.mono HB.out.size)) (Nat.le_refl _)
      obtain ⟨b0, off, rfl, _, _⟩ := hR.2 (by simpa using (by omega : 0 < ins.length))
      have g1 := iκ_cells hR hlt
      have hgt : (ins.map Int.ofNat)[j]! = (ins[j]! : Int) := by
        rw [getElem!_pos (ins.map Int.ofNat) j (by simpa using hlt), getElem!_pos ins j hlt]; simp
      rw [hgt] at g1
      have HTK : Hid (ins.take (j + 1) = ins.take j ++ [ins[j]!]) := Lib.hid (by rw [List.take_add_one, List.getElem?_eq_getElem hlt, getElem!_pos ins j hlt]; rfl)
      have HME : Hid (ins[j]! ∈ ins) := Lib.hid (by rw [getElem!_pos ins j hlt]; exact List.getElem_mem hlt)
      generalize ins[j]! = f at *
      have HCL := Lib.hid (HCON.out wr (f : Int) (HB.out.trans (hbr.mono HB.out.size)))
      obtain ⟨⟨z0, z1, z2, z3, z4, z5⟩, _⟩ := six_facts (HC.out.below hbr (Nat.le_refl _))
      have HBR := Lib.hid hbr
      have HBF := Lib.hid (HB.out.trans (hbr.mono HB.out.size))
      clear hgt hR hbr
      generalize hy : fst (atB v (f : Int)) b.toks = y at *
      by_cases hm : y = -1
      · subst hm
        have hno : (ins.all fun (f : Nat) => !(fst (atB v (f : Int)) b.toks == -1)) = false := by
          rw [Bool.eq_false_iff]
          intro h
          have := List.all_eq_true.1 h f HME.out
          rw [hy] at this
          simp at this
        have HNO := Lib.hid hno
        clear hno hy
        go_wp2_with (go_at_call 90; refine HCL.out.mono ?_; rintro e w' ⟨rfl, hb'⟩)
        go_ret
        exact ⟨by rw [HNO.out]; rfl, HBF.out.trans (hb'.mono HBF.out.size)⟩
      · have hmB : (y == -1) = false := by rw [beq_eq_false_iff_ne]; exact hm
        have HMB := Lib.hid hmB
        have HY := Lib.hid hy
        clear hm hy
        go_wp2_with (go_at_call 90; refine HCL.out.mono ?_; rintro e w' ⟨rfl, hb'⟩)
        go_roundw
        case measure => simp [intOf]; omega
        case rel => exact ⟨j + 1, by omega, by go_num, by rw [HTK.out, List.all_append, HALL.out]; simp [HY.out, HMB.out], HBR.out.trans (hb'.mono HBR.out.size)⟩
    · obtain rfl : j = ins.length := by omega
      have hI : ¬ ((ins.length : Int) < (ins.length : Int)) := by omega
      have hfull : ins.take ins.length = ins := List.take_length
      have hall := HALL.out
      rw [hfull] at hall
      have HAL := Lib.hid hall
      have HBF := Lib.hid (HB.out.trans (hbr.mono HB.out.size))
      clear hall hfull
      go_wp2
      go_ret
      exact ⟨by rw [HAL.out]; rfl, HBF.out⟩
set_option maxHeartbeats 1600000 in
theorem idxT_any (g : Nat) (lb : Array Value) (q : Tk → Bool) (eg : ∀ args w, (callFunc g args).run Tryz.prog w = .ok (.enter g args) w) (A : Option Addr) (n c : Nat) (l : List Tk) (w : World)
    (hp : ∀ (W : World) (t : Tk), Below w.heap.size w W → Calls Tryz.prog g (#[t.val] ++ lb) W fun e w' => e = .returned (.bool (q t)) ∧ Below W.heap.size W w') (hr : KRow Tk.κ w w.heap.size A n l) (hn : n ≤ 100000) :
    Calls Tryz.prog 71 #[.slice A n c, .func (.func g) #[] lb] w fun e w' => e = .returned (.int .i64 (fst q l)) ∧ Below w.heap.size w w' := by
  obtain rfl : l.length = n := hr.len (by decide)
  go_enter Tryz.func71, Tryz.ntmps71
  go_wp2
  go_loopw [8] (fun i wr => ∃ k : Nat, k ≤ l.length ∧ i = .int .i64 k ∧ Below w.heap.size w wr ∧ Hid (∀ j, j < k → q l[j]! = false)) (fun i _ => l.length - (intOf i).toNat)
  case atStart => exact ⟨0, Nat.zero_le _, rfl, Below.refl _ _, fun j h => absurd h (Nat.not_lt_zero j)⟩
  case round =>
    obtain ⟨k, hk, rfl, hbw, hall⟩ := hrel
    by_cases hkn : k < l.length
    · obtain ⟨b, off, rfl, _, _⟩ := (hr.below hbw (Nat.le_refl _)).2 (by omega)
      obtain ⟨c0, c1, c2, c3⟩ := tk_at (hr.below hbw (Nat.le_refl _)) hkn
      have hcall := hp wr l[k]! hbw
      unfold Tk.val at hcall
      have HH := Lib.hid (@fst_hit q l k hkn)
      obtain ⟨z, hz⟩ : ∃ z, z = l[k]! := ⟨_, rfl⟩
      have HP := Lib.hid (congrArg q hz.symm)
      rw [← hz] at hcall c0 c1 c2 c3 HH
      have HBW := Lib.hid hbw
      clear hz hbw
      clear hp
      cases hq : q z with
      | true =>
        rw [hq] at hcall
        have HQ := Lib.hid hq
        clear hq HP
        go_wp2_with (go_at_fn g; refine hcall.mono ?_; rintro e w' ⟨rfl, hb'⟩)
        go_ret
        exact ⟨ret_int (HH.out HQ.out hall.out).symm, HBW.out.trans (hb'.mono HBW.out.size)⟩
      | false =>
        rw [hq] at hcall
        have HQ : Hid (q l[k]! = false) := HP.out.trans hq
        clear hq HP
        go_wp2_with (go_at_fn g; refine hcall.mono ?_; rintro e w' ⟨rfl, hb'⟩)
        go_roundw
        case measure => simp [intOf]; omega
        case rel =>
          refine ⟨k + 1, by omega, by go_num, HBW.out.trans (hb'.mono HBW.out.size), fun j hj => ?_⟩
          by_cases e : j = k
          · subst e; exact HQ.out
          · exact hall.out j (by omega)
    · have : k = l.length := by omega
      subst this
      go_wp2
      go_ret
      exact ⟨ret_int (fst_miss hall.out).symm, hbw⟩
theorem contT_any (g : Nat) (lb : Array Value) (q : Tk → Bool) (eg : ∀ args w, (callFunc g args).run Tryz.prog w = .ok (.enter g args) w) (A : Option Addr) (n c : Nat) (l : List Tk) (w : World)
    (hp : ∀ (W : World) (t : Tk), Below w.heap.size w W → Calls Tryz.prog g (#[t.val] ++ lb) W fun e w' => e = .returned (.bool (q t)) ∧ Below W.heap.size W w') (hr : KRow Tk.κ w w.heap.size A n l) (hn : n ≤ 100000) :
    Calls Tryz.prog 92 #[.slice A n c, .func (.func g) #[] lb] w fun e w' => e = .returned (.bool (decide (0 ≤ fst q l))) ∧ Below w.heap.size w w' := by
  have HI := Lib.hid (idxT_any (c := c) g lb q eg A n l w hp hr hn)
  clear hp hr hn eg
  generalize fst q l = r at *
  go_enter Tryz.func92, Tryz.ntmps92
  go_wp2_with (go_at_call 71; refine HI.out.mono ?_; rintro e w' ⟨rfl, hb'⟩)
  go_ret
  exact ⟨rfl, hb'⟩
/-- Is it another node's, from which a way leads there? -/
def mq (n : Nat) (f : Nat → Bool) (v : Int) (t : Tk) : Bool := (t.node != v) && ((decide (0 ≤ t.node) && decide (t.node < n)) && f t.node.toNat)
set_option maxHeartbeats 800000 in
theorem mq_any (n : Nat) (f : Nat → Bool) (v : Int) (g B B2 : Nat) (w : World) (hB : B < w.heap.size) (hc : w.cell? ⟨B, 0, none⟩ = some (.int .i64 v)) (hB2 : B2 < w.heap.size) (hc2 : w.cell? ⟨B2, 0, none⟩ = some (.slice (some ⟨g, 0, none⟩) n n)) (hg : Cel w g (bv f n)) (W : World) (t : Tk) (hb : Below w.heap.size w W) :
    Calls Tryz.prog 93 (#[t.val] ++ #[.pointer (some ⟨B, 0, none⟩), .pointer (some ⟨B2, 0, none⟩)]) W fun e w' => e = .returned (.bool (mq n f v t)) ∧ Below W.heap.size W w' := by
  have hc' : W.cell? ⟨B, 0, none⟩ = some (.int .i64 v) := (hb.cell (p := ⟨B, 0, none⟩) hB).trans hc
  have hc2' : W.cell? ⟨B2, 0, none⟩ = some (.slice (some ⟨g, 0, none⟩) n n) := (hb.cell (p := ⟨B2, 0, none⟩) hB2).trans hc2
  have hBW : B < W.heap.size := Nat.lt_of_lt_of_le hB hb.size
  have hne : B ≠ W.heap.size := by omega
  have hBW2 : B2 < W.heap.size := Nat.lt_of_lt_of_le hB2 hb.size
  have hne2 : B2 ≠ W.heap.size := by omega
  have hgW := hg.below hb (Nat.le_refl _)
  have hgl := hgW.lt
  have hne3 : g ≠ W.heap.size := by omega
  have HG := Lib.hid hgW
  have HBF := Lib.hid ((Below.refl W.heap.size W).alloc (Nat.le_refl _) (.cells #[.int .i64 t.id, .int .i64 t.node, .int .i64 t.inn, .bool t.stuck] 35))
  have HP := Lib.hid (fun W' => tplace_any t.node n W')
  clear hc hc2 hg hgW hB hB2 hb
  unfold Tk.val
  show Calls Tryz.prog 93 #[_, _, _] W _
  cases h1 : (t.node != v) with
  | false =>
    have HM : Hid (mq n f v t = false) := Lib.hid (by unfold mq; rw [h1]; rfl)
    go_enter Tryz.func93, Tryz.ntmps93
    go_wp2
    go_ret
    exact ⟨by rw [HM.out]; rfl, HBF.out⟩
  | true =>
    cases h2 : (decide (0 ≤ t.node) && decide (t.node < n)) with
    | false =>
      rw [h2] at HP
      have HM : Hid (mq n f v t = false) := Lib.hid (by unfold mq; rw [h1, h2]; rfl)
      clear h2
      go_enter Tryz.func93, Tryz.ntmps93
      go_wp2_with (go_at_call 49; refine (HP.out _).mono ?_; rintro e w' ⟨rfl, rfl⟩)
      go_ret
      exact ⟨by rw [HM.out]; rfl, HBF.out⟩
    | true =>
      rw [h2] at HP
      have hr : 0 ≤ t.node ∧ t.node < n := by simpa using h2
      obtain ⟨u, hu⟩ : ∃ u : Nat, t.node = u := ⟨t.node.toNat, by omega⟩
      have hun : u < n := by omega
      have hu0 : (0 : Int) ≤ (u : Int) := by omega
      have huI : (u : Int) < (n : Int) := by omega
      have HM : Hid (mq n f v t = f u) := Lib.hid (by unfold mq; rw [h1, h2, hu]; simp)
      have y1 := HG.out.cell u _ (bv_at f hun)
      obtain ⟨tid, tnode, tinn, tst⟩ := t
      dsimp only at *
      subst hu
      clear h2 hr
      go_enter Tryz.func93, Tryz.ntmps93
      go_wp2_with (go_at_call 49; refine (HP.out _).mono ?_; rintro e w' ⟨rfl, rfl⟩)
      go_ret
      exact ⟨by rw [HM.out]; rfl, HBF.out⟩
theorem more_iff {b : Bd} {v : Nat} {f : Nat → Bool} (hf : ∀ u, u < b.p.n → (f u = true ↔ Comes b.p.n (bck b.p.n b.p.flows b.p.m) v u)) : decide (0 ≤ fst (mq b.p.n f v) b.toks) = true ↔ More b v := by
  rw [decide_eq_true_eq]
  have key : ∀ t : Tk, mq b.p.n f v t = true ↔ (t.node ≠ v ∧ ∃ u : Nat, t.node = (u : Int) ∧ u < b.p.n ∧ Comes b.p.n (bck b.p.n b.p.flows b.p.m) v u) := by
    intro t
    unfold mq
    simp only [Bool.and_eq_true, bne_iff_ne, ne_eq, decide_eq_true_eq]
    constructor
    · rintro ⟨h1, ⟨h2, h3⟩, h4⟩
      exact ⟨h1, t.node.toNat, by omega, by omega, (hf _ (by omega)).1 h4⟩
    · rintro ⟨h1, u, h2, h3, h4⟩
      refine ⟨h1, ⟨by omega, by omega⟩, ?_⟩
      rw [h2, Int.toNat_natCast]
      exact (hf u h3).2 h4
  unfold More
  rcases fst_cases (mq b.p.n f v) b.toks with ⟨h, h0⟩ | ⟨k, h, hk, h1, _⟩
  · rw [h]
    constructor
    · intro h; omega
    · rintro ⟨t, ht, h2⟩
      obtain ⟨j, hj, rfl⟩ := List.mem_iff_getElem.1 ht
      have := h0 j hj
      rw [getElem!_pos b.toks j hj, (key _).2 h2] at this
      cases this
  · rw [h]
    constructor
    · intro _
      rw [getElem!_pos b.toks k hk] at h1
      exact ⟨_, List.getElem_mem hk, (key _).1 h1⟩
    · intro _; omega
def MoreOut (b : Bd) (v : Int) (w : World) (e : Ending) (w' : World) : Prop := (∃ r : Bool, e = .returned (.bool r) ∧ (r = true ↔ More b v)) ∧ Below w.heap.size w w'
set_option maxHeartbeats 1600000 in
theorem moreCome_any (v : Nat) (x : BdV) (b : Bd) (w : World) (hx : BdIn w w.heap.size x b) (hf : b.Few) :
    Calls Tryz.prog 53 #[x.val, .int .i64 (v : Int)] w (MoreOut b v w) := by
  have eg : ∀ args w, (callFunc 93 args).run Tryz.prog w = .ok (.enter 93 args) w := enters_of Tryz.func93 (by kernel_rfl) rfl
  have hb1 : Below w.heap.size w (w.alloc (.cells x.list.toArray 38)) := (Below.refl _ _).alloc (Nat.le_refl _) _
  have hb2 : Below w.heap.size w ((w.alloc (.cells x.list.toArray 38)).alloc (.cells #[.int .i64 v] 3)) := hb1.alloc hb1.size _
  have HC := Lib.hid ((Cel.lit w x.list.toArray 38).alloc (.cells #[.int .i64 v] 3))
  have hv := Cel.lit (w.alloc (.cells x.list.toArray 38)) #[.int .i64 v] 3
  have esz : (w.alloc (.cells x.list.toArray 38)).heap.size = w.heap.size + 1 := by simp
  rw [esz] at hv
  have HV := Lib.hid hv
  have HX := Lib.hid hx
  have HB2 := Lib.hid hb2
  have en := hx.hn
  have em := hx.hm
  have et := hx.ht
  have f1 := hf.n
  have f2 := hf.m
  have f4 := hf.t
  clear hx hf hb1 hb2 hv esz
  obtain ⟨s, A, n, c, F, m, d, V, nv, cv, T, nt, ct, k⟩ := x
  unfold BdV.val at *
  unfold BdV.list at *
  dsimp only at *
  subst en em et
  go_enter Tryz.func53, Tryz.ntmps53
  go_upto_region 1 with (fail)
  generalize (w.alloc _).alloc _ = wa at *
  have HTO := Lib.hid (rto_any s A b.p.n c F b.p.m d b.p.flows (v : Int) wa ((HX.out.flows.below HB2.out (Nat.le_refl _)).mono HB2.out.size) f1 f2)
  obtain ⟨⟨z0, z1, z2, z3, z4, z5⟩, _⟩ := six_facts HC.out
  have v0 := HV.out.cell 0 _ rfl
  go_wp2_with fail
  refine HTO.out.mono ?_
  rintro e w1 ⟨⟨g, fm, rfl, hg, hgs, hq⟩, hb1⟩
  have hba : Below w1.heap.size w1 (w1.alloc (.cells #[.slice (some ⟨g, 0, none⟩) b.p.n b.p.n] 130)) := (Below.refl _ _).alloc (Nat.le_refl _) _
  have hb1a := hb1.trans (hba.mono hb1.size)
  have HBa := Lib.hid (HB2.out.trans (hb1a.mono HB2.out.size))
  have HXa := Lib.hid (HX.out.on HBa.out)
  have HVa := Lib.hid (HV.out.below hb1a (Nat.le_refl _))
  have HCa := Lib.hid (HC.out.below hb1a (Nat.le_refl _))
  have HL := Lib.hid (Cel.lit w1 #[.slice (some ⟨g, 0, none⟩) b.p.n b.p.n] 130)
  have HG := Lib.hid (hg.below hba (Nat.le_refl _))
  have HQ := Lib.hid hq
  clear hg hq hb1 hba hb1a hgs z0 z1 z2 z3 z4 z5 v0
  go_upto_region 2 with (fail)
  have HCON := Lib.hid (contT_any (c := ct) 93 #[.pointer (some ⟨w.heap.size + 1, 0, none⟩), .pointer (some ⟨w1.heap.size, 0, none⟩)] (mq b.p.n fm v) eg T b.toks.length b.toks _ (mq_any b.p.n fm v g (w.heap.size + 1) w1.heap.size _ HVa.out.lt (HVa.out.cell 0 _ rfl) HL.out.lt (HL.out.cell 0 _ rfl) HG.out) HXa.out.toks f4)
  have HIF := Lib.hid (more_iff (b := b) (v := v) (f := fm) HQ.out)
  generalize decide (0 ≤ fst (mq b.p.n fm v) b.toks) = r at *
  obtain ⟨⟨z0, z1, z2, z3, z4, z5⟩, _⟩ := six_facts HCa.out
  clear HC HV HX HTO eg
  generalize w1.alloc _ = w2 at *
  go_wp2_with (go_at_call 92; refine HCON.out.mono ?_; rintro e w' ⟨rfl, hb'⟩)
  go_ret
  exact ⟨⟨r, rfl, HIF.out⟩, HBa.out.trans (hb'.mono HBa.out.size)⟩
end Pr
end Go.Proofs.YtkffnfgdmcebdaaGreatDoor
