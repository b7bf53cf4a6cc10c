/- The program's Put of a process. -/
import Derived.Test.YtjababmmcejgdaaGreatDoorBhY
namespace Go.Proofs.YtjababmmcejgdaaGreatDoor
open Go.RowKit

theorem append_by {P : Program} {ops : Array Oper} {rest : List Oper} {o : Oper} {a : Act} {Q : Exit → Act → World → Prop} (hgd : o.guard = none) (s x : Operand) (t e : TypeId) (i : TypeInfo) (z : Value)
    (ht : P.underlying t = some (.slice e)) (hi : P.info? e = some i) (hz : i.zero = some z) (hsize : i.size = 1) (hby : i.bytes = 1) (hzs : z.cells.size = 1)
    (ho : o.op = .call { callee := .builtin .append, args := #[s, x], argTypes := #[t, t] })
    (w : World) (base B2 : Nat) (A : Option Addr) (n c : Nat) (l : List UInt8) (A2 : Option Addr) (n2 c2 : Nat) (l2 : List UInt8) (hs : a.eval s = .slice A n c) (hown : OwnBytes w base e A n c l)
    (hx : a.eval x = .slice A2 n2 c2) (hr : Bytes w B2 A2 n2 l2) (hA2 : A2 = none → n2 = 0 ∧ c2 = 0) (hn : n + n2 ≤ 1000000) (hbase : base ≤ w.heap.size)
    (h : ∀ A' c' w', OwnBytes w' base e A' (n + n2) c' (l ++ l2) → Grew w w' (.slice A n c) (.slice A' (n + n2) c') → wpList P ops Q rest (a.put o.dst (.slice A' (n + n2) c')) w') :
    wpList P ops Q (o :: rest) a w := by
  refine append_row hgd s x t ho e i z 1 1 ht hi hz hsize hby hzs (by decide) base _ n (l.map bv) hs hown B2 A2 n2 c2 (l2.map bv) hx hA2 hr (bv_one _) (by unfold maxLen; omega) (by omega) hbase fun v' w' h1 h2 h3 => ?_
  obtain ⟨A', c', rfl, _⟩ := own_form h1
  refine h A' c' w' ?_ ⟨h2, fun g hg => ?_⟩
  · show w'.ownsRow base e 1 _ _ _
    rw [List.map_append]
    exact h1
  · rcases h3 with h3 | h3
    · exact .inl (h3.symm.trans hg)
    · rw [h3] at hg
      obtain rfl := Option.some.inj hg
      exact .inr (Nat.le_refl _)
namespace Pr
theorem own_block {w : World} {base : Nat} {e : TypeId} {A : Option Addr} {n c b : Nat} {l : List UInt8} (h : OwnBytes w base e A n c l) (he : (Value.slice A n c).ownBlock = some b) : base ≤ b ∧ b < w.heap.size := World.ownsRow.lt h b he
theorem own_not {A : Option Addr} {n c b : Nat} (h : ∀ a, A = some a → a.block ≠ b) : (Value.slice A n c).ownBlock ≠ some b := by
  intro he
  cases A with
  | none => cases he
  | some a => exact h a rfl (Option.some.inj he)
theorem grew_not {w w' : World} {A A' : Option Addr} {n c n' c' b base : Nat} {e : TypeId} {l : List UInt8} (hg : Grew w w' (.slice A n c) (.slice A' n' c')) (_ : OwnBytes w' base e A' n' c' l) (h : ∀ a, A = some a → a.block ≠ b) (hb : b < w.heap.size) : ∀ a, A' = some a → a.block ≠ b := by
  intro a ha e
  subst ha
  rcases hg.block a.block rfl with h1 | h1
  · exact own_not h (by rw [h1, e])
  · omega
theorem flat_take {α : Type} [Inhabited α] (l : List α) (g : α → List UInt8) {j : Nat} (h : j < l.length) : (l.take (j + 1)).flatMap g = (l.take j).flatMap g ++ g l[j]! := by
  rw [List.take_succ_eq_append_getElem h, List.flatMap_append, getElem!_pos l j h]
  simp
theorem flat_len {α : Type} (l : List α) (g : α → List UInt8) (h : ∀ x ∈ l, (g x).length ≤ 200) : (l.flatMap g).length ≤ 200 * l.length := by
  induction l with
  | nil => simp
  | cons x l ih =>
    have h1 := h x (by simp)
    have h2 := ih fun y hy => h y (by simp [hy])
    rw [List.flatMap_cons, List.length_append, List.length_cons]
    omega
theorem own_grown {w w' : World} {base : Nat} {e : TypeId} {A : Option Addr} {n c : Nat} {l : List UInt8} (h : OwnBytes w base e A n c l) {v' : Value} (hg : Grew w w' (.slice A n c) v') (hb : base ≤ w.heap.size) : Below base w w' := hg.below h hb
set_option maxHeartbeats 6400000 in
set_option maxRecDepth 10000 in
theorem pput_any (A : Option Addr) (n c : Nat) (F : Option Addr) (m d : Nat) (p : P) (w : World) (hN : KRow Nd.κ w w.heap.size A n p.nodes) (hF : KRow Fl.κ w w.heap.size F m p.flows) (ht : Tiny p) :
    Calls Tryz.prog 13 #[.slice none 0 0, .agg #[.string p.name, .slice A n c, .slice F m d]] w fun e w' => ∃ A' m' c', e = .returned (.slice A' m' c') ∧ OwnBytes w' w.heap.size 5 A' m' c' (prB p) ∧ Below w.heap.size w w' := by
  obtain rfl : p.n = n := hN.len (by decide)
  obtain rfl : p.m = m := hF.len (by decide)
  have HN := Lib.hid hN
  have HF := Lib.hid hF
  have HT := Lib.hid ht
  have hn30 := ht.n
  have hm60 := ht.m
  have HX := Lib.hid (Cel.lit w #[.string p.name, .slice A p.n c, .slice F p.m d] 30)
  have HB := Lib.hid ((Below.refl w.heap.size w).alloc (Nat.le_refl _) (.cells #[.string p.name, .slice A p.n c, .slice F p.m d] 30))
  obtain ⟨i0, hi0, hz0, hz1, hz2⟩ := info_parts info_u8
  obtain ⟨R, hR⟩ : ∃ R, prB p = R := ⟨_, rfl⟩
  rw [hR]
  have HR := Lib.hid hR
  have hnl : (textsOf [p.name]).length ≤ 34 := textsOf_len 24 (by decide) [p.name] (by intro s hs; obtain rfl := List.mem_singleton.1 hs; exact ht.name)
  have HNL := Lib.hid hnl
  clear hN hF ht hR hnl
  go_enter Tryz.func13, Tryz.ntmps13
  go_upto_region 1 with (fail)
  generalize w.alloc _ = w0 at *
  obtain ⟨⟨x0, x1, x2⟩, _⟩ := tri_facts HX.out
  have HL := Lib.hid (Row.lit w0 #[.string p.name] 9)
  have hba : Below w0.heap.size w0 (w0.alloc (.cells #[.string p.name] 9)) := (Below.refl _ _).alloc (Nat.le_refl _) _
  have HBa := Lib.hid (HB.out.trans (hba.mono HB.out.size))
  have HXa := Lib.hid (HX.out.below hba (Nat.le_refl _))
  clear hba
  go_wp2_with fail
  generalize hv1 : w0.alloc _ = v1 at *
  refine (putText_any 24 (by decide) none 0 0 [] (some ⟨w0.heap.size, 0, none⟩) 1 1 [p.name] v1 (Bytes.nil _ _ _) (fun _ => ⟨rfl, rfl⟩) (by decide) (HL.out.mono (by rw [← hv1]; simp)) (by decide) (by intro s hs; obtain rfl := List.mem_singleton.1 hs; exact HT.out.name)).mono ?_
  rintro e w1 ⟨A1, m1, c1, rfl, ho1, hb1⟩
  rw [List.nil_append] at ho1
  have HO1 := Lib.hid (OwnBytes.base ho1 HBa.out.size)
  have HX0lt : w.heap.size < v1.heap.size := HXa.out.lt
  have HB1 := Lib.hid (HBa.out.trans (hb1.mono HBa.out.size))
  have HX1 := Lib.hid (HXa.out.below hb1 (Nat.le_refl _))
  clear hb1 hv1 x0 x1 x2 HL HBa HXa HX HB
  have hbx1 : ∀ a, A1 = some a → a.block ≠ w.heap.size := by
    intro a ha e
    subst ha
    have := own_block (b := a.block) ho1 rfl
    have := HX0lt
    omega
  have HBXN1 := Lib.hid hbx1
  have S1 := Lib.hid (And.intro HO1.out (And.intro HB1.out HX1.out))
  clear HO1 HB1 HX1 hbx1 ho1
  obtain ⟨lp1, hlp1⟩ : ∃ l, textsOf [p.name] = l := ⟨_, rfl⟩
  have HLP1 := Lib.hid hlp1
  have hll1 : lp1.length ≤ 34 := by rw [← hlp1]; exact HNL.out
  rw [hlp1] at S1
  obtain ⟨⟨x0, x1, x2⟩, _⟩ := tri_facts S1.out.2.2
  have HL1 := Lib.hid (Row.lit w1 #[.int .i64 (p.n : Int)] 2)
  have hba1 : Below w1.heap.size w1 (w1.alloc (.cells #[.int .i64 (p.n : Int)] 2)) := (Below.refl _ _).alloc (Nat.le_refl _) _
  have HBa1 := Lib.hid (S1.out.2.1.trans (hba1.mono S1.out.2.1.size))
  have HXa1 := Lib.hid (S1.out.2.2.below hba1 (Nat.le_refl _))
  have HOa1 := Lib.hid (S1.out.1.below hba1 (Nat.le_refl _))
  clear hba1 hlp1
  go_wp2_with fail
  generalize hv1 : w1.alloc _ = u1 at *
  refine (put_any none 0 0 [] (some ⟨w1.heap.size, 0, none⟩) 1 1 [(p.n : Int)] u1 (Bytes.nil _ _ _) (fun _ => ⟨rfl, rfl⟩) (by decide) (HL1.out.mono (by rw [← hv1]; simp)) (by decide) (by intro s hs; obtain rfl := List.mem_singleton.1 hs; omega)).mono ?_
  rintro e w1a ⟨B1, n1, d1, rfl, hq1, hb1⟩
  rw [List.nil_append] at hq1
  have hel1 : (encs [(p.n : Int)]).length ≤ 10 := encs_len [(p.n : Int)] (by intro s hs; obtain rfl := List.mem_singleton.1 hs; omega)
  have HQ1 := Lib.hid hq1
  have HBb1 := Lib.hid (HBa1.out.trans (hb1.mono HBa1.out.size))
  have HXb1 := Lib.hid (HXa1.out.below hb1 (Nat.le_refl _))
  have HOb1 := Lib.hid (HOa1.out.below hb1 (Nat.le_refl _))
  have hlo1 := HOb1.out.len
  have hlq1 := HQ1.out.len
  have hqx1 : w.heap.size < w1a.heap.size := HXb1.out.lt
  clear hq1 hb1 hv1 x0 x1 x2 HL1 HBa1 HXa1 HOa1 S1
  go_upto_region 3 with (at_builtin; refine append_by rfl (.tmp 15) (.tmp 20) 44 5 i0 _ Tryz.underlying44 hi0 hz0 hz1 hz2 rfl rfl _ w.heap.size _ _ _ _ lp1 B1 n1 d1 (encs [(p.n : Int)]) rfl HOb1.out rfl HQ1.out.bytes HQ1.out.nn (by omega) (by omega) ?_; intro A' c' w' ho' hg')
  have hlw1 : (lp1 ++ encs [(p.n : Int)]).length ≤ 44 := by rw [List.length_append]; omega
  have hboxA1 : ∀ a, A' = some a → a.block ≠ w.heap.size := grew_not hg' ho' HBXN1.out hqx1
  have T1 := Lib.hid (And.intro ho' (And.intro (HBb1.out.trans (own_grown HOb1.out hg' (by omega))) (HXb1.out.kept hg'.grown (own_not HBXN1.out))))
  obtain ⟨lw1, hlw1e⟩ : ∃ l, lp1 ++ encs [(p.n : Int)] = l := ⟨_, rfl⟩
  rw [hlw1e] at T1 hlw1
  have HLW1 := Lib.hid hlw1e
  clear ho' hg' HBb1 HXb1 HOb1 HQ1 hlw1e HBXN1
  obtain ⟨⟨x0, x1, x2⟩, _⟩ := tri_facts T1.out.2.2
  go_wp2_with fail
  clear x0 x1 x2
  go_loopw [5, 25] (fun v i wr => ∃ (j : Nat) (A2 : Option Addr) (m2 c2 : Nat), j ≤ p.n ∧ i = .int .i64 j ∧ v = .slice A2 m2 c2 ∧ OwnBytes wr w.heap.size 5 A2 m2 c2 (lw1 ++ (p.nodes.take j).flatMap ndB) ∧ Below w.heap.size w wr ∧ Cel wr w.heap.size [.string p.name, .slice A p.n c, .slice F p.m d] ∧ (∀ a, A2 = some a → a.block ≠ w.heap.size)) (fun _ i _ => p.n - (intOf i).toNat)
  case atStart => exact ⟨0, _, _, _, Nat.zero_le _, rfl, rfl, by simpa using T1.out.1, T1.out.2.1, T1.out.2.2, hboxA1⟩
  case round =>
    obtain ⟨j, A2, m2, c2, hj, rfl, rfl, ho, hb, hc, hbx⟩ := hrel
    have hj0 : (0 : Int) ≤ (j : Int) := by omega
    have HO := Lib.hid ho
    have HB := Lib.hid hb
    have HC := Lib.hid hc
    have HBXN := Lib.hid hbx
    have hsz : w.heap.size < wr.heap.size := hc.lt
    clear ho hb hc hbx T1
    by_cases hlt : j < p.n
    · have hI : (j : Int) < (p.n : Int) := by omega
      have hjl : j < p.nodes.length := hlt
      obtain ⟨b, off, rfl, _, _⟩ := HN.out.2 (by omega)
      obtain ⟨n0, n1, n2, n3, n4, n5, n6, n7⟩ := nd_at (HN.out.below HB.out (Nat.le_refl _)) hlt
      have hti := HT.out.nd p.nodes[j]! (by rw [getElem!_pos p.nodes j hjl]; exact List.getElem_mem hjl)
      have HFT := Lib.hid (flat_take p.nodes ndB hjl)
      have hml : m2 ≤ 44 + 200 * j := by
        have h1 := HO.out.len
        have h2 := flat_len (p.nodes.take j) ndB (fun y hy => ndB_len (HT.out.nd y (List.mem_of_mem_take hy)))
        rw [List.length_append] at h1
        rw [List.length_take] at h2
        omega
      generalize p.nodes[j]! = x at *
      have hgl := ndB_len hti
      have NB := Lib.hid (fun W => nodebytes_any (w := W) x hti)
      unfold Nd.val at NB
      have HBX := Lib.hid (Cel.lit wr #[.int .i64 x.kind, .string x.topic, .int .i64 x.prio, .int .i64 x.retr, .int .i64 x.dflt, .string x.code, .string x.caught, .int .i64 x.tgt] 36)
      have hba : Below wr.heap.size wr (wr.alloc (.cells #[.int .i64 x.kind, .string x.topic, .int .i64 x.prio, .int .i64 x.retr, .int .i64 x.dflt, .string x.code, .string x.caught, .int .i64 x.tgt] 36)) := (Below.refl _ _).alloc (Nat.le_refl _) _
      have HOa := Lib.hid (HO.out.below hba (Nat.le_refl _))
      have HBa := Lib.hid (HB.out.trans (hba.mono HB.out.size))
      have HCa := Lib.hid (HC.out.below hba (Nat.le_refl _))
      clear hba hti
      go_upto_region 6 with (fail)
      generalize wr.alloc _ = wc at *
      clear n0 n1 n2 n3 n4 n5 n6 n7
      obtain ⟨n0, n1, n2, n3, n4, n5, n6, n7⟩ := nd_facts HBX.out
      go_wp2_with fail
      refine (NB.out _).mono ?_
      rintro e w3 ⟨B, q, dd, rfl, hq, hb3⟩
      have HQ := Lib.hid hq
      have HO3 := Lib.hid (HOa.out.below hb3 (Nat.le_refl _))
      have HB3 := Lib.hid (HBa.out.trans (hb3.mono HBa.out.size))
      have HC3 := Lib.hid (HCa.out.below hb3 (Nat.le_refl _))
      have hlq := hq.len
      have hs3 := HC3.out.lt
      clear hq hb3 n0 n1 n2 n3 n4 n5 n6 n7 NB HBX
      go_wp2_with (at_builtin; refine append_by rfl (.tmp 29) (.tmp 31) 44 5 i0 _ Tryz.underlying44 hi0 hz0 hz1 hz2 rfl rfl _ w.heap.size _ A2 m2 c2 _ B q dd (ndB x) rfl HO3.out rfl HQ.out.bytes HQ.out.nn (by omega) (by omega) ?_; intro A' c' w' ho' hg')
      have HO4 := Lib.hid ho'
      have HB4 := Lib.hid (HB3.out.trans (own_grown HO3.out hg' (by omega)))
      have HC4 := Lib.hid (HC3.out.kept hg'.grown (own_not HBXN.out))
      have HBX4 := Lib.hid (grew_not hg' ho' HBXN.out (by omega))
      clear ho' hg'
      go_wp2_with fail
      go_roundw
      case measure => simp [intOf]; omega
      case rel => exact ⟨j + 1, A', _, c', by omega, by go_num, rfl, by rw [HFT.out, ← List.append_assoc]; exact HO4.out, HB4.out, HC4.out, HBX4.out⟩
    · obtain rfl : j = p.n := by omega
      have hI : ¬ (p.n : Int) < (p.n : Int) := by omega
      have hall : p.nodes.take p.n = p.nodes := List.take_of_length_le (Nat.le_refl _)
      rw [hall] at HO
      have hll1x : (p.nodes.flatMap ndB).length ≤ 200 * p.n := flat_len p.nodes ndB (fun y hy => ndB_len (HT.out.nd y hy))
      have S2 := Lib.hid (And.intro HO.out (And.intro HB.out HC.out))
      have HBXN2 := HBXN
      clear HO HB HC HBXN
      obtain ⟨lp2, hlp2⟩ : ∃ l, lw1 ++ p.nodes.flatMap ndB = l := ⟨_, rfl⟩
      have HLP2 := Lib.hid hlp2
      have hll2 : lp2.length ≤ 6050 := by rw [← hlp2]; rw [List.length_append]; omega
      rw [hlp2] at S2
      obtain ⟨⟨x0, x1, x2⟩, _⟩ := tri_facts S2.out.2.2
      have HL2 := Lib.hid (Row.lit wr #[.int .i64 (p.m : Int)] 2)
      have hba2 : Below wr.heap.size wr (wr.alloc (.cells #[.int .i64 (p.m : Int)] 2)) := (Below.refl _ _).alloc (Nat.le_refl _) _
      have HBa2 := Lib.hid (S2.out.2.1.trans (hba2.mono S2.out.2.1.size))
      have HXa2 := Lib.hid (S2.out.2.2.below hba2 (Nat.le_refl _))
      have HOa2 := Lib.hid (S2.out.1.below hba2 (Nat.le_refl _))
      clear hba2 hlp2
      go_wp2_with fail
      generalize hv2 : wr.alloc _ = u2 at *
      refine (put_any none 0 0 [] (some ⟨wr.heap.size, 0, none⟩) 1 1 [(p.m : Int)] u2 (Bytes.nil _ _ _) (fun _ => ⟨rfl, rfl⟩) (by decide) (HL2.out.mono (by rw [← hv2]; simp)) (by decide) (by intro s hs; obtain rfl := List.mem_singleton.1 hs; omega)).mono ?_
      rintro e w2a ⟨B2, n2, d2, rfl, hq2, hb2⟩
      rw [List.nil_append] at hq2
      have hel2 : (encs [(p.m : Int)]).length ≤ 10 := encs_len [(p.m : Int)] (by intro s hs; obtain rfl := List.mem_singleton.1 hs; omega)
      have HQ2 := Lib.hid hq2
      have HBb2 := Lib.hid (HBa2.out.trans (hb2.mono HBa2.out.size))
      have HXb2 := Lib.hid (HXa2.out.below hb2 (Nat.le_refl _))
      have HOb2 := Lib.hid (HOa2.out.below hb2 (Nat.le_refl _))
      have hlo2 := HOb2.out.len
      have hlq2 := HQ2.out.len
      have hqx2 : w.heap.size < w2a.heap.size := HXb2.out.lt
      clear hq2 hb2 hv2 x0 x1 x2 HL2 HBa2 HXa2 HOa2 S2
      go_upto_region 9 with (at_builtin; refine append_by rfl (.tmp 34) (.tmp 39) 44 5 i0 _ Tryz.underlying44 hi0 hz0 hz1 hz2 rfl rfl _ w.heap.size _ _ _ _ lp2 B2 n2 d2 (encs [(p.m : Int)]) rfl HOb2.out rfl HQ2.out.bytes HQ2.out.nn (by omega) (by omega) ?_; intro A' c' w' ho' hg')
      have hlw2 : (lp2 ++ encs [(p.m : Int)]).length ≤ 6060 := by rw [List.length_append]; omega
      have hboxA2 : ∀ a, A' = some a → a.block ≠ w.heap.size := grew_not hg' ho' HBXN2.out hqx2
      have T2 := Lib.hid (And.intro ho' (And.intro (HBb2.out.trans (own_grown HOb2.out hg' (by omega))) (HXb2.out.kept hg'.grown (own_not HBXN2.out))))
      obtain ⟨lw2, hlw2e⟩ : ∃ l, lp2 ++ encs [(p.m : Int)] = l := ⟨_, rfl⟩
      rw [hlw2e] at T2 hlw2
      have HLW2 := Lib.hid hlw2e
      clear ho' hg' HBb2 HXb2 HOb2 HQ2 hlw2e HBXN2
      obtain ⟨⟨x0, x1, x2⟩, _⟩ := tri_facts T2.out.2.2
      go_wp2_with fail
      clear x0 x1 x2
      go_loopw [5, 44] (fun v i wr => ∃ (j : Nat) (A2 : Option Addr) (m2 c2 : Nat), j ≤ p.m ∧ i = .int .i64 j ∧ v = .slice A2 m2 c2 ∧ OwnBytes wr w.heap.size 5 A2 m2 c2 (lw2 ++ (p.flows.take j).flatMap flB) ∧ Below w.heap.size w wr ∧ Cel wr w.heap.size [.string p.name, .slice A p.n c, .slice F p.m d] ∧ (∀ a, A2 = some a → a.block ≠ w.heap.size)) (fun _ i _ => p.m - (intOf i).toNat)
      case atStart => exact ⟨0, _, _, _, Nat.zero_le _, rfl, rfl, by simpa using T2.out.1, T2.out.2.1, T2.out.2.2, hboxA2⟩
      case round =>
        obtain ⟨j, A2, m2, c2, hj, rfl, rfl, ho, hb, hc, hbx⟩ := hrel
        have hj0 : (0 : Int) ≤ (j : Int) := by omega
        have HO := Lib.hid ho
        have HB := Lib.hid hb
        have HC := Lib.hid hc
        have HBXN := Lib.hid hbx
        have hsz : w.heap.size < wr.heap.size := hc.lt
        clear ho hb hc hbx T2
        by_cases hlt : j < p.m
        · have hI : (j : Int) < (p.m : Int) := by omega
          have hjl : j < p.flows.length := hlt
          obtain ⟨b, off, rfl, _, _⟩ := HF.out.2 (by omega)
          obtain ⟨n0, n1, n2⟩ := fl_at (HF.out.below HB.out (Nat.le_refl _)) hlt
          have hti := HT.out.fl p.flows[j]! (by rw [getElem!_pos p.flows j hjl]; exact List.getElem_mem hjl)
          have HFT := Lib.hid (flat_take p.flows flB hjl)
          have hml : m2 ≤ 6100 + 200 * j := by
            have h1 := HO.out.len
            have h2 := flat_len (p.flows.take j) flB (fun y hy => flB_len (HT.out.fl y (List.mem_of_mem_take hy)))
            rw [List.length_append] at h1
            rw [List.length_take] at h2
            omega
          generalize p.flows[j]! = x at *
          have hgl := flB_len hti
          have NB := Lib.hid (fun W => flowbytes_any (w := W) x hti)
          unfold Fl.val at NB
          have HBX := Lib.hid (Cel.lit wr #[.int .i64 x.frm, .int .i64 x.til, .string x.cond] 38)
          have hba : Below wr.heap.size wr (wr.alloc (.cells #[.int .i64 x.frm, .int .i64 x.til, .string x.cond] 38)) := (Below.refl _ _).alloc (Nat.le_refl _) _
          have HOa := Lib.hid (HO.out.below hba (Nat.le_refl _))
          have HBa := Lib.hid (HB.out.trans (hba.mono HB.out.size))
          have HCa := Lib.hid (HC.out.below hba (Nat.le_refl _))
          clear hba hti
          go_upto_region 12 with (fail)
          generalize wr.alloc _ = wc at *
          clear n0 n1 n2
          obtain ⟨⟨n0, n1, n2⟩, _⟩ := tri_facts HBX.out
          go_wp2_with fail
          refine (NB.out _).mono ?_
          rintro e w3 ⟨B, q, dd, rfl, hq, hb3⟩
          have HQ := Lib.hid hq
          have HO3 := Lib.hid (HOa.out.below hb3 (Nat.le_refl _))
          have HB3 := Lib.hid (HBa.out.trans (hb3.mono HBa.out.size))
          have HC3 := Lib.hid (HCa.out.below hb3 (Nat.le_refl _))
          have hlq := hq.len
          have hs3 := HC3.out.lt
          clear hq hb3 n0 n1 n2 NB HBX
          go_wp2_with (at_builtin; refine append_by rfl (.tmp 48) (.tmp 50) 44 5 i0 _ Tryz.underlying44 hi0 hz0 hz1 hz2 rfl rfl _ w.heap.size _ A2 m2 c2 _ B q dd (flB x) rfl HO3.out rfl HQ.out.bytes HQ.out.nn (by omega) (by omega) ?_; intro A' c' w' ho' hg')
          have HO4 := Lib.hid ho'
          have HB4 := Lib.hid (HB3.out.trans (own_grown HO3.out hg' (by omega)))
          have HC4 := Lib.hid (HC3.out.kept hg'.grown (own_not HBXN.out))
          have HBX4 := Lib.hid (grew_not hg' ho' HBXN.out (by omega))
          clear ho' hg'
          go_wp2_with fail
          go_roundw
          case measure => simp [intOf]; omega
          case rel => exact ⟨j + 1, A', _, c', by omega, by go_num, rfl, by rw [HFT.out, ← List.append_assoc]; exact HO4.out, HB4.out, HC4.out, HBX4.out⟩
        · obtain rfl : j = p.m := by omega
          have hI : ¬ (p.m : Int) < (p.m : Int) := by omega
          have hall : p.flows.take p.m = p.flows := List.take_of_length_le (Nat.le_refl _)
          rw [hall] at HO
          have hll2x : (p.flows.flatMap flB).length ≤ 200 * p.m := flat_len p.flows flB (fun y hy => flB_len (HT.out.fl y hy))
          go_wp2
          go_ret
          refine ⟨A2, m2, c2, rfl, ?_, HB.out⟩
          have e : lw2 ++ p.flows.flatMap flB = R := by
            rw [← HLW2.out, ← HLP2.out, ← HLW1.out, ← HLP1.out, ← HR.out]
            unfold prB
            simp only [List.append_assoc]
          rw [← e]
          exact HO.out
end Pr
end Go.Proofs.YtjababmmcejgdaaGreatDoor
