/- The program's Take of what Put put: a process. -/
import Derived.Test.YtjababmmcejgdaaGreatDoorBjY
import Derived.Deep.RegionLaw
namespace Go.Proofs.YtjababmmcejgdaaGreatDoor
open Go.RowKit

theorem grown_pastO {w w1 w2 : World} {row r2 : Option Nat} (h : w.grownBy w1 row) (k : w1.grownBy w2 r2) (hz : ∀ z, r2 = some z → w.heap.size ≤ z) : w.grownBy w2 row :=
  ⟨k.os.trans h.os, k.tape.trans h.tape, k.output.trans h.output, Nat.le_trans h.size k.size, fun b hb hne => (k.block b (Nat.lt_of_lt_of_le hb h.size) (fun e => by have := hz b e.symm; omega)).trans (h.block b hb hne)⟩
namespace Pr
theorem prB_chain (p : P) (t : List UInt8) : prB p ++ t = textOf p.name ++ (enc (zig (p.n : Int)) ++ (p.nodes.flatMap ndB ++ (enc (zig (p.m : Int)) ++ (p.flows.flatMap flB ++ t)))) := by
  simp [prB, encs, textsOf, List.append_assoc]
theorem flat_drop {α : Type} [Inhabited α] (l : List α) (g : α → List UInt8) {j : Nat} (h : j < l.length) : (l.drop j).flatMap g = g l[j]! ++ (l.drop (j + 1)).flatMap g := by
  rw [getElem!_pos l j h, List.drop_eq_getElem_cons h, List.flatMap_cons]
theorem take_one {α : Type} [Inhabited α] (l : List α) {j : Nat} (h : j < l.length) : l.take (j + 1) = l.take j ++ [l[j]!] := by
  rw [List.take_succ_eq_append_getElem h, getElem!_pos l j h]
/-- What is kept of a process in block z while one more row cell is laid. -/
theorem C.kept {w w' : World} {base z : Nat} {p : P} (h : C w base z p) {q : Nat} (hg : w.grownBy w' (some q)) (hq : q < base) : C w' base z p := by
  obtain ⟨A, n, c, F, m, d, hc, hn, hf, h1, h2⟩ := h.ex
  have hl := h.low
  refine ⟨⟨A, n, c, F, m, d, hc.kept hg (fun e => by have := Option.some.inj e; omega), hn.kept hg (fun a ha e => ?_), hf.kept hg (fun a ha e => ?_), h1, h2⟩, hl⟩
  · have := (hn.block ha).1
    have := Option.some.inj e
    omega
  · have := (hf.block ha).1
    have := Option.some.inj e
    omega
section
variable {W w : World} {E : Int → Option Addr} {q : Nat}
set_option maxHeartbeats 6400000 in
set_option maxRecDepth 10000 in
theorem ptake_any (hE : RdErrs W E) (hb : Below W.heap.size W w) (hp : W.heap.size ≤ q) (p : P) (hx : Tiny p) {t : List UInt8} (hR : RdC E w q (prB p ++ t) 0) :
    Calls Tryz.prog 14 #[.pointer (some ⟨q, 0, none⟩)] w fun e w' => (∃ (A : Option Addr) (c : Nat) (F : Option Addr) (d : Nat), e = .returned (.agg #[.string p.name, .slice A p.n c, .slice F p.m d]) ∧ OwnK Nd.κ w' w.heap.size 36 A p.n c p.nodes ∧ OwnK Fl.κ w' w.heap.size 38 F p.m d p.flows) ∧ RdC E w' q t 0 ∧ w.grownBy w' (some q) := by
  rw [prB_chain] at hR
  have hpl := hR.lt
  have HE := Lib.hid hE
  have HH := Lib.hid hx
  have hn30 := hx.n
  have hm60 := hx.m
  have hy := Cel.lit w #[.string ⟨#[]⟩, .slice none 0 0, .slice none 0 0] 30
  have hz := Cel.lit (w.alloc (.cells #[.string ⟨#[]⟩, .slice none 0 0, .slice none 0 0] 30)) #[.string ⟨#[]⟩, .slice none 0 0, .slice none 0 0] 30
  have s1 : (w.alloc (.cells #[.string ⟨#[]⟩, .slice none 0 0, .slice none 0 0] 30)).heap.size = w.heap.size + 1 := by simp
  rw [s1] at hz
  have HY := Lib.hid (hy.alloc (.cells #[.string ⟨#[]⟩, .slice none 0 0, .slice none 0 0] 30))
  have HZ := Lib.hid hz
  have HG : Hid (w.grownBy ((w.alloc (.cells #[.string ⟨#[]⟩, .slice none 0 0, .slice none 0 0] 30)).alloc (.cells #[.string ⟨#[]⟩, .slice none 0 0, .slice none 0 0] 30)) (some q)) := Lib.hid (grown_trans (grown_alloc w _ _) (grown_alloc _ _ _))
  have HRR := Lib.hid (hR.below (((Below.refl w.heap.size w).alloc (Nat.le_refl _) (.cells #[.string ⟨#[]⟩, .slice none 0 0, .slice none 0 0] 30)).alloc (by simp) (.cells #[.string ⟨#[]⟩, .slice none 0 0, .slice none 0 0] 30)))
  have HB := Lib.hid (fun w' (hg : w.grownBy w' (some q)) => hb.grown hg hb.size (fun k hk => by cases hk; exact hp))
  clear hE hx hy hz s1 hR
  go_enter Tryz.func14, Tryz.ntmps14
  go_upto_region 2 with (fail)
  generalize (w.alloc _).alloc _ = v0 at *
  go_wp2_with fail
  refine (taketext_any 24 HE.out (HB.out v0 HG.out) hp HH.out.name (by decide) HRR.out).mono ?_
  rintro e w0 ⟨rfl, hr, hg⟩
  have hzk := HZ.out.kept hg (fun e => by have := Option.some.inj e; omega)
  have c0 := hzk.cell 0 _ rfl
  have c1 := hzk.froz 0 (by simp)
  have hst : w0.grownBy (w0.setCell ⟨w.heap.size + 1, 0, none⟩ (.string p.name)) (some (w.heap.size + 1)) := grown_setCell w0 ⟨w.heap.size + 1, 0, none⟩ _
  have HZ0 : Hid (Cel (w0.setCell ⟨w.heap.size + 1, 0, none⟩ (.string p.name)) (w.heap.size + 1) [.string p.name, .slice none 0 0, .slice none 0 0]) := Lib.hid (hzk.set (i := 0) (by simp) (.string p.name))
  have HY0 := Lib.hid ((HY.out.kept hg (fun e => by have := Option.some.inj e; omega)).kept hst (fun e => by have := Option.some.inj e; omega))
  have HG0 := Lib.hid (grown_past (grown_trans HG.out hg) hst (by omega))
  have HR0 := Lib.hid (hr.kept hst (fun b hb e => by have := Option.some.inj e; omega))
  clear hr hg hzk hst HZ HY HG HRR
  go_upto_region 3 with (fail)
  generalize w0.setCell _ _ = v1 at *
  clear c0 c1
  have HC1 : Hid (C v1 (w.heap.size + 1) (w.heap.size + 1) ⟨p.name, p.nodes.take 0, []⟩) := Lib.hid ⟨⟨none, 0, 0, none, 0, 0, HZ0.out, ⟨by decide, World.ownsRow_nil _ _ _ _⟩, ⟨by decide, World.ownsRow_nil _ _ _ _⟩, (fun a ha => by cases ha), (fun a ha => by cases ha)⟩, Nat.le_refl _⟩
  clear HZ0
  obtain ⟨i0, hi0, hz0, hz1, hz2⟩ := info_parts info_node
  obtain ⟨i1, hi1, hy0, hy1, hy2⟩ := info_parts info_flow
  have HI := Lib.hid (int_any 0 30 HE.out (HB.out v1 HG0.out) hp HR0.out)
  rw [show intSays 0 30 (enc (zig (p.n : Int)) ++ (p.nodes.flatMap ndB ++ (enc (zig (p.m : Int)) ++ (p.flows.flatMap flB ++ t)))) 0 = ((p.n : Int), p.nodes.flatMap ndB ++ (enc (zig (p.m : Int)) ++ (p.flows.flatMap flB ++ t)), 0) from intSays_in (by omega) (by omega) (by omega) (by omega)] at HI
  go_wp2_with fail
  refine HI.out.mono ?_
  rintro e w1 ⟨rfl, hr, hg⟩
  have HRa := Lib.hid hr
  have HGa := Lib.hid (grown_trans HG0.out hg)
  have HYa := Lib.hid (HY0.out.kept hg (fun e => by have := Option.some.inj e; omega))
  have HCa := Lib.hid (C.kept HC1.out hg (by omega))
  clear hr hg HR0 HG0 HY0 HC1 HI
  go_wp2_with fail
  go_loopw [9] (fun i wr => ∃ j : Nat, j ≤ p.n ∧ i = .int .i64 j ∧ RdC E wr q ((p.nodes.drop j).flatMap ndB ++ (enc (zig (p.m : Int)) ++ (p.flows.flatMap flB ++ t))) 0 ∧ C wr (w.heap.size + 1) (w.heap.size + 1) ⟨p.name, p.nodes.take j, []⟩ ∧ Cel wr w.heap.size [.string ⟨#[]⟩, .slice none 0 0, .slice none 0 0] ∧ w.grownBy wr (some q)) (fun i _ => p.n - (intOf i).toNat)
  case atStart => exact ⟨0, Nat.zero_le _, rfl, HRa.out, HCa.out, HYa.out, HGa.out⟩
  case round =>
    obtain ⟨j, hj, rfl, hr, hc, hy, hg⟩ := hrel
    have hj0 : (0 : Int) ≤ (j : Int) := by omega
    have HRj := Lib.hid hr
    have HCj := Lib.hid hc
    have HYj := Lib.hid hy
    have HGj := Lib.hid hg
    clear hr hc hy hg HRa HGa HYa HCa
    by_cases hlt : j < p.n
    · have hI : (j : Int) < (p.n : Int) := by omega
      have hjl : j < p.nodes.length := hlt
      have hti := HH.out.nd p.nodes[j]! (by rw [getElem!_pos p.nodes j hjl]; exact List.getElem_mem hjl)
      have hfd := flat_drop p.nodes ndB hjl
      have hto := take_one p.nodes hjl
      have htl : (p.nodes.take j).length = j := by rw [List.length_take]; omega
      rw [hfd, List.append_assoc] at HRj
      generalize p.nodes[j]! = x at *
      have HTO := Lib.hid hto
      have hbd : Below wr.heap.size wr wr.drew := (Below.refl _ _).drew
      have hgd : w.grownBy wr.drew (some q) := grown_trans HGj.out (grown_drew _ _)
      have TK := Lib.hid (takenode_any HE.out (HB.out _ hgd) hp x hti HRj.out.drew)
      obtain ⟨A, n, c, F, m, d, hcel, hn, hf, h1, h2⟩ := HCj.out.ex
      obtain rfl : j = n := by rw [← hn.len]; exact htl.symm
      obtain ⟨⟨z0, z1, z2⟩, _⟩ := tri_facts hcel
      obtain ⟨⟨z0d, z1d, z2d⟩, _⟩ := tri_facts (hcel.below hbd (Nat.le_refl _))
      have HCE := Lib.hid hcel
      have HN := Lib.hid hn
      have HF := Lib.hid hf
      have hzl := hcel.lt
      have hlow := HCj.out.low
      clear hto hfd htl hcel hn hf hti
      unfold Nd.val at TK
      go_upto_region 5 with (fail)
      go_region_law (first
        | (refine step_append_k (κ := Nd.κ) rfl (.tmp 12) (.tmp 15) 27 36 i0 _ 88 Tryz.underlying27 hi0 hz0 hz1 hz2 rfl rfl _ (w.heap.size + 1) _ A j c (p.nodes.take j) ⟨w3.heap.size, 0, none⟩ x rfl HN4.out rfl HR4.out (by omega) (by decide) hbase ?_; intro A' c' w' ho hg'; obtain ⟨⟨d0, d1, d2⟩, g0, g1, g2⟩ := tri_facts (cel_grew HCE4.out hg' h1))
        | (go_simp; go_at_call 46; (with_reducible refine TK.out.mono ?_); rintro e w3 ⟨rfl, hr3, hg3⟩; have hgw := grown_trans (grown_drew wr (some q)) hg3; have hcel3 := HCE.out.kept hgw (fun e => by have := Option.some.inj e; omega); obtain ⟨⟨y0, y1, y2⟩, _⟩ := tri_facts hcel3; have hb4 : Below w3.heap.size w3 (w3.alloc (.cells #[.int .i64 x.kind, .string x.topic, .int .i64 x.prio, .int .i64 x.retr, .int .i64 x.dflt, .string x.code, .string x.caught, .int .i64 x.tgt] 36)) := (Below.refl _ _).alloc (Nat.le_refl _) _; have HCE4 := Lib.hid (hcel3.below hb4 (Nat.le_refl _)); have HN4 := Lib.hid ((HN.out.kept hgw (fun a ha e => by have := (HN.out.block ha).1; have := Option.some.inj e; omega)).below hb4 (Nat.le_refl _)); have HF4 := Lib.hid ((HF.out.kept hgw (fun a ha e => by have := (HF.out.block ha).1; have := Option.some.inj e; omega)).below hb4 (Nat.le_refl _)); have HR4 : Hid (KRow Nd.κ (w3.alloc (.cells #[.int .i64 x.kind, .string x.topic, .int .i64 x.prio, .int .i64 x.retr, .int .i64 x.dflt, .string x.code, .string x.caught, .int .i64 x.tgt] 36)) (w3.heap.size + 1) (some ⟨w3.heap.size, 0, none⟩) 1 [x]) := Lib.hid (KRow.lit (κ := Nd.κ) w3 36 [x] #[.int .i64 x.kind, .string x.topic, .int .i64 x.prio, .int .i64 x.retr, .int .i64 x.dflt, .string x.code, .string x.caught, .int .i64 x.tgt] rfl); have hz3 : w.heap.size + 1 < w3.heap.size := hcel3.lt; have hbase : w.heap.size + 1 ≤ (w3.alloc (.cells #[.int .i64 x.kind, .string x.topic, .int .i64 x.prio, .int .i64 x.retr, .int .i64 x.dflt, .string x.code, .string x.caught, .int .i64 x.tgt] 36)).heap.size := (by simp; omega)))
      all_goals
        have HCN := Lib.hid (C.nodes (p := ⟨p.name, p.nodes.take j, []⟩) HCE4.out HN4.out HF4.out h1 h2 hlow hg' ho)
        have hrow : ∀ b, b ≤ w.heap.size → (Value.slice A j c).ownBlock ≠ some b := fun b hb he => by
          cases h : A with
          | none => rw [h] at he; cases he
          | some a =>
            rw [h] at he
            have := (HN.out.block h).1
            have := Option.some.inj he
            omega
        have hst := grown_setCell w' ⟨w.heap.size + 1, 1, none⟩ (.slice A' (j + 1) c')
        have HY5 := Lib.hid (((((HYj.out.kept hgw (fun e => by have := Option.some.inj e; omega)).alloc (.cells #[.int .i64 x.kind, .string x.topic, .int .i64 x.prio, .int .i64 x.retr, .int .i64 x.dflt, .string x.code, .string x.caught, .int .i64 x.tgt] 36)).kept hg'.grown (hrow _ (Nat.le_refl _))).kept hst (fun e => by have := Option.some.inj e; simp at this)))
        have HR5 := Lib.hid (((hr3.below hb4).kept hg'.grown (fun b hb => hrow b (by omega))).kept hst (fun b hb e => by have := Option.some.inj e; simp at this; omega))
        have HG5 := Lib.hid (grown_past (grown_pastO (grown_trans (grown_trans HGj.out hgw) (grown_alloc w3 (.cells #[.int .i64 x.kind, .string x.topic, .int .i64 x.prio, .int .i64 x.retr, .int .i64 x.dflt, .string x.code, .string x.caught, .int .i64 x.tgt] 36) (some q))) hg'.grown (fun b hb => Nat.le_of_not_lt (fun h => hrow b (by omega) hb))) hst (by simp))
        clear hst hg' ho hgw hcel3 hr3 hg3
        go_wp2_with fail
        go_roundw
        case measure => simp [intOf]; omega
        case rel => exact ⟨j + 1, by omega, by go_num, HR5.out, by rw [HTO.out]; exact HCN.out, HY5.out, HG5.out⟩
    · obtain rfl : j = p.n := by omega
      have hI : ¬ (p.n : Int) < (p.n : Int) := by omega
      have hd : p.nodes.drop p.n = [] := List.drop_eq_nil_of_le (Nat.le_refl _)
      have hta : p.nodes.take p.n = p.nodes := List.take_of_length_le (Nat.le_refl _)
      rw [hd, List.flatMap_nil, List.nil_append] at HRj
      rw [hta] at HCj
      clear hd hta
      have HCx : Hid (C wr (w.heap.size + 1) (w.heap.size + 1) ⟨p.name, p.nodes, p.flows.take 0⟩) := HCj
      have HR1 := HRj
      have HG1 := HGj
      have HY1 := HYj
      clear HCj HRj HGj HYj
      have HI := Lib.hid (int_any 0 60 HE.out (HB.out wr HG1.out) hp HR1.out)
      rw [show intSays 0 60 (enc (zig (p.m : Int)) ++ (p.flows.flatMap flB ++ t)) 0 = ((p.m : Int), p.flows.flatMap flB ++ t, 0) from intSays_in (by omega) (by omega) (by omega) (by omega)] at HI
      go_wp2_with fail
      refine HI.out.mono ?_
      rintro e w1 ⟨rfl, hr, hg⟩
      have HRa := Lib.hid hr
      have HGa := Lib.hid (grown_trans HG1.out hg)
      have HYa := Lib.hid (HY1.out.kept hg (fun e => by have := Option.some.inj e; omega))
      have HCa := Lib.hid (C.kept HCx.out hg (by omega))
      clear hr hg HR1 HG1 HY1 HCx HI
      go_wp2_with fail
      go_loopw [21] (fun i wr => ∃ j : Nat, j ≤ p.m ∧ i = .int .i64 j ∧ RdC E wr q ((p.flows.drop j).flatMap flB ++ t) 0 ∧ C wr (w.heap.size + 1) (w.heap.size + 1) ⟨p.name, p.nodes, p.flows.take j⟩ ∧ Cel wr w.heap.size [.string ⟨#[]⟩, .slice none 0 0, .slice none 0 0] ∧ w.grownBy wr (some q)) (fun i _ => p.m - (intOf i).toNat)
      case atStart => exact ⟨0, Nat.zero_le _, rfl, HRa.out, HCa.out, HYa.out, HGa.out⟩
      case round =>
        obtain ⟨j, hj, rfl, hr, hc, hy, hg⟩ := hrel
        have hj0 : (0 : Int) ≤ (j : Int) := by omega
        have HRj := Lib.hid hr
        have HCj := Lib.hid hc
        have HYj := Lib.hid hy
        have HGj := Lib.hid hg
        clear hr hc hy hg HRa HGa HYa HCa
        by_cases hlt : j < p.m
        · have hI : (j : Int) < (p.m : Int) := by omega
          have hjl : j < p.flows.length := hlt
          have hti := HH.out.fl p.flows[j]! (by rw [getElem!_pos p.flows j hjl]; exact List.getElem_mem hjl)
          have hfd := flat_drop p.flows flB hjl
          have hto := take_one p.flows hjl
          have htl : (p.flows.take j).length = j := by rw [List.length_take]; omega
          rw [hfd, List.append_assoc] at HRj
          generalize p.flows[j]! = x at *
          have HTO := Lib.hid hto
          have hbd : Below wr.heap.size wr wr.drew := (Below.refl _ _).drew
          have hgd : w.grownBy wr.drew (some q) := grown_trans HGj.out (grown_drew _ _)
          have TK := Lib.hid (takeflow_any HE.out (HB.out _ hgd) hp x hti HRj.out.drew)
          obtain ⟨A, n, c, F, m, d, hcel, hn, hf, h1, h2⟩ := HCj.out.ex
          obtain rfl : j = m := by rw [← hf.len]; exact htl.symm
          obtain ⟨⟨z0, z1, z2⟩, _⟩ := tri_facts hcel
          obtain ⟨⟨z0d, z1d, z2d⟩, _⟩ := tri_facts (hcel.below hbd (Nat.le_refl _))
          have HCE := Lib.hid hcel
          have HN := Lib.hid hn
          have HF := Lib.hid hf
          have hzl := hcel.lt
          have hlow := HCj.out.low
          clear hto hfd htl hcel hn hf hti
          unfold Fl.val at TK
          go_upto_region 9 with (fail)
          go_region_law (first
            | (refine step_append_k (κ := Fl.κ) rfl (.tmp 24) (.tmp 27) 28 38 i1 _ 32 Tryz.underlying28 hi1 hy0 hy1 hy2 rfl rfl _ (w.heap.size + 1) _ F j d (p.flows.take j) ⟨w3.heap.size, 0, none⟩ x rfl HF4.out rfl HR4.out (by omega) (by decide) hbase ?_; intro A' c' w' ho hg'; obtain ⟨⟨d0, d1, d2⟩, g0, g1, g2⟩ := tri_facts (cel_grew HCE4.out hg' h2))
            | (go_simp; go_at_call 47; (with_reducible refine TK.out.mono ?_); rintro e w3 ⟨rfl, hr3, hg3⟩; have hgw := grown_trans (grown_drew wr (some q)) hg3; have hcel3 := HCE.out.kept hgw (fun e => by have := Option.some.inj e; omega); obtain ⟨⟨y0, y1, y2⟩, _⟩ := tri_facts hcel3; have hb4 : Below w3.heap.size w3 (w3.alloc (.cells #[.int .i64 x.frm, .int .i64 x.til, .string x.cond] 38)) := (Below.refl _ _).alloc (Nat.le_refl _) _; have HCE4 := Lib.hid (hcel3.below hb4 (Nat.le_refl _)); have HN4 := Lib.hid ((HN.out.kept hgw (fun a ha e => by have := (HN.out.block ha).1; have := Option.some.inj e; omega)).below hb4 (Nat.le_refl _)); have HF4 := Lib.hid ((HF.out.kept hgw (fun a ha e => by have := (HF.out.block ha).1; have := Option.some.inj e; omega)).below hb4 (Nat.le_refl _)); have HR4 : Hid (KRow Fl.κ (w3.alloc (.cells #[.int .i64 x.frm, .int .i64 x.til, .string x.cond] 38)) (w3.heap.size + 1) (some ⟨w3.heap.size, 0, none⟩) 1 [x]) := Lib.hid (KRow.lit (κ := Fl.κ) w3 38 [x] #[.int .i64 x.frm, .int .i64 x.til, .string x.cond] rfl); have hz3 : w.heap.size + 1 < w3.heap.size := hcel3.lt; have hbase : w.heap.size + 1 ≤ (w3.alloc (.cells #[.int .i64 x.frm, .int .i64 x.til, .string x.cond] 38)).heap.size := (by simp; omega)))
          all_goals
            have HCN := Lib.hid (C.flows (p := ⟨p.name, p.nodes, p.flows.take j⟩) HCE4.out HN4.out HF4.out h1 h2 hlow hg' ho)
            have hrow : ∀ b, b ≤ w.heap.size → (Value.slice F j d).ownBlock ≠ some b := fun b hb he => by
              cases h : F with
              | none => rw [h] at he; cases he
              | some a =>
                rw [h] at he
                have := (HF.out.block h).1
                have := Option.some.inj he
                omega
            have hst := grown_setCell w' ⟨w.heap.size + 1, 2, none⟩ (.slice A' (j + 1) c')
            have HY5 := Lib.hid (((((HYj.out.kept hgw (fun e => by have := Option.some.inj e; omega)).alloc (.cells #[.int .i64 x.frm, .int .i64 x.til, .string x.cond] 38)).kept hg'.grown (hrow _ (Nat.le_refl _))).kept hst (fun e => by have := Option.some.inj e; simp at this)))
            have HR5 := Lib.hid (((hr3.below hb4).kept hg'.grown (fun b hb => hrow b (by omega))).kept hst (fun b hb e => by have := Option.some.inj e; simp at this; omega))
            have HG5 := Lib.hid (grown_past (grown_pastO (grown_trans (grown_trans HGj.out hgw) (grown_alloc w3 (.cells #[.int .i64 x.frm, .int .i64 x.til, .string x.cond] 38) (some q))) hg'.grown (fun b hb => Nat.le_of_not_lt (fun h => hrow b (by omega) hb))) hst (by simp))
            clear hst hg' ho hgw hcel3 hr3 hg3
            go_wp2_with fail
            go_roundw
            case measure => simp [intOf]; omega
            case rel => exact ⟨j + 1, by omega, by go_num, HR5.out, by rw [HTO.out]; exact HCN.out, HY5.out, HG5.out⟩
        · obtain rfl : j = p.m := by omega
          have hI : ¬ (p.m : Int) < (p.m : Int) := by omega
          have hd : p.flows.drop p.m = [] := List.drop_eq_nil_of_le (Nat.le_refl _)
          have hta : p.flows.take p.m = p.flows := List.take_of_length_le (Nat.le_refl _)
          rw [hd, List.flatMap_nil, List.nil_append] at HRj
          rw [hta] at HCj
          clear hd hta
          obtain ⟨A, n, c, F, m, d, hcel, hn, hf, h1, h2⟩ := HCj.out.ex
          obtain rfl : p.n = n := hn.len
          obtain rfl : p.m = m := hf.len
          obtain ⟨⟨z0, z1, z2⟩, _⟩ := tri_facts hcel
          obtain ⟨⟨y0, y1, y2⟩, f0, f1, f2⟩ := tri_facts HYj.out
          go_wp2_with fail
          refine (err_any HRj.out).mono ?_
          rintro e wx ⟨⟨ev, rfl, hev⟩, rfl⟩
          obtain rfl := seen_nil hev
          have HK := Lib.hid (cel_set3 HYj.out (.string p.name) (.slice A p.n c) (.slice F p.m d))
          have hst := grown_set3 wr w.heap.size (.string p.name) (.slice A p.n c) (.slice F p.m d)
          have HGF := Lib.hid (grown_past HGj.out hst (Nat.le_refl _))
          have HRF := Lib.hid (HRj.out.kept hst (fun b hb e => by have := Option.some.inj e; omega))
          have HNF := Lib.hid ((hn.kept hst (fun a ha e => by have := (hn.block ha).1; have := Option.some.inj e; omega)).lower (Nat.le_succ w.heap.size))
          have HFF := Lib.hid ((hf.kept hst (fun a ha e => by have := (hf.block ha).1; have := Option.some.inj e; omega)).lower (Nat.le_succ w.heap.size))
          clear hst hn hf hcel hev
          go_wp2
          clear z0 z1 z2 y0 y1 y2 f0 f1 f2
          generalize (((wr.setCell _ _).setCell _ _).setCell _ _) = wz at *
          obtain ⟨⟨k0, k1, k2⟩, _⟩ := tri_facts HK.out
          exact bodyPost_ret (v := .agg #[.string p.name, .slice A p.n c, .slice F p.m d]) (by simp [results, Tryz.results14, go_sem, k0, k1, k2]) rfl ⟨⟨A, c, F, d, rfl, HNF.out, HFF.out⟩, HRF.out, HGF.out⟩
end
end Pr
end Go.Proofs.YtjababmmcejgdaaGreatDoor
