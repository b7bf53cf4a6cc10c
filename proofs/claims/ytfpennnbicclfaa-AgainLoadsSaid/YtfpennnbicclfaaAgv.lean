/- Package again: Clone. -/
import Derived.Test.YtfpennnbicclfaaAgu
import Derived.Laws.IdiomRangeMap
namespace Go.Proofs.Ytfpennnbicclfaa
open Go.RowKit

namespace Ag
theorem raw_of {l : List Pg} {s : ByteArray} {c : Rw} (h : ∀ zd, (mapD l).atKey (key s) zd = .held c) : ∃ p ∈ l, p.wkr = s ∧ p.raw = c := by
  have h1 := h .nil
  rw [at_mapD] at h1
  cases hf : at? Pg.wkr s l with
  | none =>
    rw [hf] at h1
    cases h1
  | some y =>
    rw [hf] at h1
    obtain ⟨h2, h3⟩ := at_some Pg.wkr hf
    exact ⟨y, h2, h3, by injection h1⟩
theorem keyOf_text {v : Value} {kl : Lit} (h : keyOf Try.prog 9 v = some kl) : ∃ s : ByteArray, v = .string s ∧ kl = key s := by
  obtain ⟨x, rfl, rfl, _⟩ := Maps.keyOf_str Try.underlying9 h
  exact ⟨⟨x.toArray⟩, rfl, by unfold key; simp⟩
/-- The step of a range over pages. -/
theorem wpList_next_pages {ops : Array Oper} {rest : List Oper} {o : Oper} {a : Act} {Q : Exit → Act → World → Prop} (w : World) (hg : o.guard = none) (it : Operand) (hop : o.op = Op.next it false) (b r n : Nat) (l : List Pg) (left : Lit → Bool) (cnt : Nat)
    (hit : a.eval it = .pointer (some ⟨r, 0, none⟩)) (h : w.ranges Try.prog 9 rwR b r n (mapD l) left cnt)
    (hDone : cnt = 0 → (∀ kl, left kl = false) → wpList Try.prog ops Q rest (a.put o.dst (.tuple #[.bool false])) w)
    (hMore : ∀ (x : Pg) (w' : World) (cnt' : Nat), x ∈ l → left (key x.wkr) = true →
      w'.ranges Try.prog 9 rwR b r n (mapD l) (fun z => left z && !z.sameKey (key x.wkr)) cnt' → cnt' < cnt → w.grownBy w' (some r) → w'.heap.size = w.heap.size →
      (Instr.entry (.pointer (some ⟨r, 0, none⟩))).run Try.prog w' = .ok (.tuple #[.string x.wkr, .agg #[.string x.wkr, .int .i64 x.inc, .slice x.ka x.keys.length x.kc, .slice x.ra x.rows.length x.rc]]) w' →
      wpList Try.prog ops Q rest (a.put o.dst (.tuple #[.bool true, .string x.wkr, .agg #[.string x.wkr, .int .i64 x.inc, .slice x.ka x.keys.length x.kc, .slice x.ra x.rows.length x.rc]])) w') :
    wpList Try.prog ops Q (o :: rest) a w :=
  wpList_next_ranges w hg it hop 9 law rwR Value.string Rw.val (fun key kl hkey => by obtain ⟨x, rfl, _⟩ := keyOf_text hkey; exact ⟨x, rfl⟩) (fun v y hv => by obtain ⟨c, rfl, _⟩ := rwR_inv hv; exact ⟨c, rfl⟩)
    b r n (mapD l) left cnt hit h hDone (fun x c kl y w' cnt' hkey hlk hv hat hrg hlt hgr hsz hen => by
      obtain ⟨x', ex, rfl⟩ := keyOf_text hkey
      cases ex
      obtain ⟨c', ec, rfl⟩ := rwR_inv hv
      obtain rfl := val_inj ec
      obtain ⟨p, hp, rfl, rfl⟩ := raw_of hat
      exact hMore p w' cnt' hp hlk hrg hlt hgr hsz hen)
/-- What a range over pages has met. -/
structure Seen (l done : List Pg) (left : Lit → Bool) (cnt : Nat) : Prop where
  sub : ∀ x ∈ done, x ∈ l
  nodup : (done.map Pg.wkr).Nodup
  left : ∀ x ∈ l, left (key x.wkr) = true ↔ x ∉ done
  cnt : done.length + cnt ≤ l.length
theorem Seen.start (l : List Pg) (h : Asc Pg.wkr l) : Seen l [] (Maps.has (mapD l)) (Maps.size (mapD l)) :=
  ⟨fun _ h => (by cases h), List.nodup_nil, fun x hx => (by
    rw [has_mapD, at_of Pg.wkr h hx]
    exact ⟨fun _ h => (by cases h), fun _ => rfl⟩), by rw [size_mapD]; simp⟩
theorem Seen.new {l done : List Pg} {left : Lit → Bool} {cnt : Nat} (h : Seen l done left cnt) (ha : Asc Pg.wkr l) {c : Pg} (hc : c ∈ l) (hl : left (key c.wkr) = true) : ∀ x ∈ done, x.wkr ≠ c.wkr := fun x hx e => by
  obtain rfl := asc_inj Pg.wkr ha (h.sub x hx) hc e
  exact (h.left x hc).1 hl hx
theorem Seen.step {l done : List Pg} {left : Lit → Bool} {cnt cnt' : Nat} (h : Seen l done left cnt) (ha : Asc Pg.wkr l) {c : Pg} (hc : c ∈ l) (hl : left (key c.wkr) = true) (hlt : cnt' < cnt) : Seen l (done ++ [c]) (fun z => left z && !z.sameKey (key c.wkr)) cnt' := by
  have hn := h.new ha hc hl
  refine ⟨fun x hx => ?_, ?_, fun x hx => ?_, ?_⟩
  · rcases List.mem_append.1 hx with hx | hx
    · exact h.sub x hx
    · rw [List.mem_singleton] at hx
      subst hx
      exact hc
  · rw [List.map_append, List.nodup_append]
    refine ⟨h.nodup, by simp, fun s hs t ht e => ?_⟩
    obtain ⟨x, hx, rfl⟩ := List.mem_map.1 hs
    simp only [List.map_cons, List.map_nil, List.mem_singleton] at ht
    exact hn x hx (e.trans ht)
  · rw [Bool.and_eq_true, same_key, h.left x hx]
    constructor
    · rintro ⟨h1, h2⟩ h3
      rcases List.mem_append.1 h3 with h3 | h3
      · exact h1 h3
      · rw [List.mem_singleton] at h3
        subst h3
        simp at h2
    · intro h1
      refine ⟨fun h2 => h1 (List.mem_append.2 (.inl h2)), ?_⟩
      by_cases e : x.wkr = c.wkr
      · obtain rfl := asc_inj Pg.wkr ha hx hc e
        exact absurd (List.mem_append.2 (.inr (List.mem_singleton.2 rfl))) h1
      · simp [e]
  · have := h.cnt
    simp
    omega
theorem Seen.all {l done : List Pg} {left : Lit → Bool} {cnt : Nat} (h : Seen l done left cnt) (hl : ∀ k, left k = false) : ∀ x ∈ l, x ∈ done := fun x hx => by
  by_cases hd : x ∈ done
  · exact hd
  · have := (h.left x hx).2 hd
    rw [hl] at this
    cases this
theorem asc_eq {α : Type} (k : α → ByteArray) : ∀ {l l' : List α}, Asc k l → Asc k l' → (∀ x, x ∈ l ↔ x ∈ l') → l = l'
  | [], [], _, _, _ => rfl
  | [], b :: s, _, _, h => by have := (h b).2 List.mem_cons_self; cases this
  | a :: r, [], _, _, h => by have := (h a).1 List.mem_cons_self; cases this
  | a :: r, b :: s, h1, h2, h => by
    obtain ⟨a1, a2⟩ := List.pairwise_cons.1 h1
    obtain ⟨b1, b2⟩ := List.pairwise_cons.1 h2
    have hab : a = b := by
      rcases List.mem_cons.1 ((h a).1 List.mem_cons_self) with e | e
      · exact e
      · rcases List.mem_cons.1 ((h b).2 List.mem_cons_self) with e2 | e2
        · exact e2.symm
        · have h3 := ltb_trans (a1 b e2) (b1 a e)
          rw [ltb_irrefl] at h3
          cases h3
    subst hab
    rw [asc_eq k a2 b2 fun x => ⟨fun hx => by
      rcases List.mem_cons.1 ((h x).1 (List.mem_cons_of_mem _ hx)) with rfl | e
      · have := a1 x hx
        rw [ltb_irrefl] at this
        cases this
      · exact e, fun hx => by
      rcases List.mem_cons.1 ((h x).2 (List.mem_cons_of_mem _ hx)) with rfl | e
      · have := b1 x hx
        rw [ltb_irrefl] at this
        cases this
      · exact e⟩]
/-- What Clone hands out. -/
def CloneOut (w : World) (l : List Pg) (e : Ending) (w' : World) : Prop := ∃ cb m' l', e = .returned (.pointer (some ⟨cb, 0, none⟩)) ∧ BkC w' cb m' l' ∧ l'.map Pg.ab = l.map Pg.ab ∧ (∀ x, Foot cb m' l' x → w.heap.size ≤ x) ∧ Below w.heap.size w w'
theorem Mp.bk2 {B b q : Nat} {w : World} {l : List Pg} (h : Mp B w b l) (hc : Cel w q [.map (some b)]) (hn : ∀ p ∈ l, ∀ i, p.own i ∨ p.rd i → i ≠ q) (hf : l.length ≤ 6) : BkC w q (some b) l ∧ ∀ x, Foot q (some b) l x → x = q ∨ B ≤ x := by
  refine ⟨⟨hc, h.asc, .inr ⟨b, rfl, h.own⟩, h.pgs, h.apart, h.still, fun p hp i hi => ⟨hn p hp i hi, fun e => (h.blk p hp i hi).2 (Option.some.inj e).symm⟩, hf⟩, fun x hx => ?_⟩
  rcases hx with (rfl | hx | ⟨p, hp, hx⟩) | ⟨p, hp, hx⟩
  · exact .inl rfl
  · have := Option.some.inj hx
    exact .inr (by have := h.bB; omega)
  · exact .inr (h.blk p hp x (.inl hx)).1
  · exact .inr (h.blk p hp x (.inr hx)).1
theorem Mp.kp {B b : Nat} {S : Nat → Prop} {w w' : World} {l : List Pg} (h : Mp B w b l) (hk : Kp S w w') (hs : ∀ p ∈ l, ∀ i, p.own i ∨ p.rd i → ¬ S i) (hb : ¬ S b) : Mp B w' b l :=
  ⟨h.asc, hk.owns h.own hb, fun p hp => hk.pgIn (h.pgs p hp) (fun i hi => hs p hp i (.inl hi)) (fun i hi => hs p hp i (.inr hi)), h.apart, h.still, h.blk, h.bB⟩
set_option maxRecDepth 10000 in
set_option maxHeartbeats 3200000 in
theorem clone_book (q : Nat) (m : Option Nat) (l : List Pg) (w : World) (hb : BkC w q m l) : Calls Try.prog 9 #[.pointer (some ⟨q, 0, none⟩)] w (CloneOut w l) := by
  have hmm := fun n w => run_makeMapN (P := Try.prog) Try.underlying25 n w
  have hlen := fun ty => bk_len hb ty
  have c0 := hb.cel.cell 0 _ rfl
  have HB := Lib.hid hb
  have hba : Below w.heap.size w (w.alloc (.map #[] 0)) := (Below.refl _ _).alloc (Nat.le_refl _) _
  have hsz : (w.alloc (.map #[] 0)).heap.size = w.heap.size + 1 := by simp
  have hb2 : Below w.heap.size w ((w.alloc (.map #[] 0)).alloc (.cells #[.map (some w.heap.size)] 27)) := hba.alloc (by simp) _
  have hb2' : Below (w.alloc (.map #[] 0)).heap.size (w.alloc (.map #[] 0)) ((w.alloc (.map #[] 0)).alloc (.cells #[.map (some w.heap.size)] 27)) := (Below.refl _ _).alloc (Nat.le_refl _) _
  have hc2 := Cel.lit (w.alloc (.map #[] 0)) #[.map (some w.heap.size)] 27
  rw [hsz] at hc2
  have HM2 := Lib.hid ((Mp.made w (Nat.le_refl w.heap.size)).below hb2')
  have HB2 := Lib.hid hb2
  have HC2 := Lib.hid hc2
  have HBK2 := Lib.hid (hb.below hb2)
  have c2 := (hb.below hb2).cel.cell 0 _ rfl
  have hq := hb.cel.lt
  clear hb hba hsz hb2 hb2' hc2
  go_enter Try.func9, Try.ntmps9
  go_upto_region 2 with (fail)
  clear hmm hlen c0
  have hw2 : w.heap.size + 1 < ((w.alloc (.map #[] 0)).alloc (.cells #[.map (some w.heap.size)] 27)).heap.size := by simp
  generalize (w.alloc _).alloc _ = w2 at *
  rcases HBK2.out.own with ⟨rfl, rfl⟩ | ⟨b, rfl, ho⟩
  · have hrg := run_range_nilMap (P := Try.prog) w2 _ _ _ Try.underlying25
    have hnx : ∀ ty, (Instr.next (.pointer (some ⟨w2.heap.size, 0, none⟩)) false ty).run Try.prog (w2.alloc (.mapIter none 0 #[] 0)) = _ := fun ty => run_next_nilMap w2 ty 0 0 #[]
    go_wp2
    refine wp_loop_rounds 1 ?_
    rw [rounds_succ]
    go_wp2
    go_ret
    have hb3 : Below w2.heap.size w2 (w2.alloc (.mapIter none 0 #[] 0)) := (Below.refl _ _).alloc (Nat.le_refl _) _
    obtain ⟨h1, h2⟩ := (HM2.out.below hb3).bk2 (HC2.out.below hb3 (Nat.le_refl _)) (fun _ h => by cases h) (Nat.zero_le _)
    exact ⟨w.heap.size + 1, some w.heap.size, [], rfl, h1, rfl, fun x hx => by rcases h2 x hx with h | h <;> omega, HB2.out.trans (hb3.mono HB2.out.size)⟩
  · have hbl := ho.lt
    have HASC := Lib.hid HBK2.out.asc
    unfold Owns at ho
    go_wp2_with (at_range; refine wpList_range_own _ rfl _ 25 rfl 9 51 law Try.underlying25 _ b l.length _ rfl ho ?_; intro w0 hrg0 hg0 hs0)
    try go_frame
    have hr2 : w2.heap.size + 1 ≤ w0.heap.size := by omega
    have hB0 : Below w2.heap.size w2 w0 := ⟨hg0.os, hg0.tape, hg0.output, hg0.size, fun i hi => hg0.block i hi (by simp)⟩
    have HB0 := Lib.hid (HB2.out.trans (hB0.mono HB2.out.size))
    have HM0 := Lib.hid (HM2.out.below hB0)
    have HC0 := Lib.hid (HC2.out.below hB0 (Nat.le_refl _))
    have HNB := Lib.hid (show b < w.heap.size by
      rcases HB.out.own with ⟨h, _⟩ | ⟨b', h, ho'⟩
      · cases h
      · cases h
        exact ho'.lt)
    clear hs0 hg0 hB0 HB2 HM2 HC2 ho
    generalize w2.heap.size = r at *
    go_loopw [4] (fun _ wr => ∃ (done k : List Pg) (left : Lit → Bool) (cnt : Nat), wr.ranges Try.prog 9 rwR b r l.length (mapD l) left cnt ∧ Seen l done left cnt ∧ Mp w.heap.size wr w.heap.size k ∧ (∀ p ∈ k, ∀ i, p.own i ∨ p.rd i → r + 1 ≤ i) ∧ (∀ a, a ∈ k.map Pg.ab ↔ a ∈ done.map Pg.ab) ∧ k.length ≤ done.length ∧
      Cel wr (w.heap.size + 1) [.map (some w.heap.size)] ∧ Below w.heap.size w wr ∧ r + 1 ≤ wr.heap.size) (fun _ wr => wr.rangeLeft b r)
    case atStart => exact ⟨[], [], _, _, hrg0, Seen.start l HASC.out, HM0.out, fun _ h => (by cases h), fun a => Iff.rfl, Nat.le_refl _, HC0.out, HB0.out, hr2⟩
    case round =>
      clear hrg0 HB0 HM0 HC0 hr2
      obtain ⟨done, k, left, cnt, hrg, hseen, hmp, hge, hmem, hkl, hcr, hbr, hr3⟩ := hrel
      have HRG := Lib.hid hrg
      have HSEEN := Lib.hid hseen
      have HMP := Lib.hid hmp
      have HGE := Lib.hid hge
      have HMEM := Lib.hid hmem
      have HKL := Lib.hid hkl
      have HCR := Lib.hid hcr
      have HBR := Lib.hid hbr
      clear hseen hmp hge hmem hkl hcr hbr
      go_wp2_with (at_next; refine wpList_next_pages _ rfl _ rfl b r l.length l left cnt rfl hrg ?_ ?_)
      · intro hc0 hl0
        go_wp2
        go_ret
        have hkm : k.map Pg.ab = l.map Pg.ab := asc_eq Ab.wkr (map_asc Pg.wkr Ab.wkr Pg.ab ab_wkr HMP.out.asc) (map_asc Pg.wkr Ab.wkr Pg.ab ab_wkr HASC.out) fun a => (HMEM.out a).trans ⟨fun h => by
          obtain ⟨x, hx, rfl⟩ := List.mem_map.1 h
          exact List.mem_map.2 ⟨x, HSEEN.out.sub x hx, rfl⟩, fun h => by
          obtain ⟨x, hx, rfl⟩ := List.mem_map.1 h
          exact List.mem_map.2 ⟨x, HSEEN.out.all hl0 x hx, rfl⟩⟩
        obtain ⟨h1, h2⟩ := HMP.out.bk2 HCR.out (fun p hp i hi e => by have := HGE.out p hp i hi; omega) (by have h3 := congrArg List.length hkm; rw [List.length_map, List.length_map] at h3; have := HB.out.few; omega)
        exact ⟨w.heap.size + 1, some w.heap.size, k, rfl, h1, hkm, fun x hx => by rcases h2 x hx with h | h <;> omega, HBR.out⟩
      · intro x w1 cnt1 hmem hlk hrg1 hlt1 hg1 hs1 hen
        clear hrg
        have hk1 : Kp (fun y => y = r) wr w1 := Kp.of_grown hg1 (fun _ _ e => (Option.some.inj e).symm)
        have HS1 := Lib.hid (HSEEN.out.step HASC.out hmem hlk hlt1)
        have HNEW := Lib.hid (HSEEN.out.new HASC.out hmem hlk)
        have hmp1 := HMP.out.kp hk1 (fun p hp i hi e => by have := HGE.out p hp i hi; omega) (by omega)
        have hbr1 := HBR.out.trans (hk1.below HBR.out.size (fun i hi e => by omega))
        have hcr1 := hk1.cel HCR.out (by omega)
        have hba : Below w1.heap.size w1 (w1.alloc (.cells #[.string x.wkr, .int .i64 x.inc, .slice x.ka x.keys.length x.kc, .slice x.ra x.rows.length x.rc] 51)) := (Below.refl _ _).alloc (Nat.le_refl _) _
        have hta : Cel (w1.alloc (.cells #[.string x.wkr, .int .i64 x.inc, .slice x.ka x.keys.length x.kc, .slice x.ra x.rows.length x.rc] 51)) w1.heap.size [.string x.wkr, .int .i64 x.inc, .slice x.ka x.keys.length x.kc, .slice x.ra x.rows.length x.rc] := Cel.lit w1 #[.string x.wkr, .int .i64 x.inc, .slice x.ka x.keys.length x.kc, .slice x.ra x.rows.length x.rc] 51
        have HMPa := Lib.hid (hmp1.below hba)
        have HBRa := Lib.hid (hbr1.trans (hba.mono hbr1.size))
        have hcra := hcr1.below hba (Nat.le_refl _)
        have HRGa := Lib.hid (hrg1.alloc (.cells #[.string x.wkr, .int .i64 x.inc, .slice x.ka x.keys.length x.kc, .slice x.ra x.rows.length x.rc] 51))
        have hr4 : r + 1 ≤ (w1.alloc (.cells #[.string x.wkr, .int .i64 x.inc, .slice x.ka x.keys.length x.kc, .slice x.ra x.rows.length x.rc] 51)).heap.size := by have := hba.size; omega
        have HLT := Lib.hid (show cnt1 < wr.rangeLeft b r by rw [HRG.out.left_eq]; exact hlt1)
        have HPG := Lib.hid (HB.out.pgs x hmem)
        have HXM := Lib.hid hmem
        clear hrg1 hmp1 hbr1 hcr1 hba hmem hlk hlt1 hg1 hs1 hk1 HRG HSEEN HMP HCR HBR
        obtain ⟨wkr, inc, ka, kc, keys, ra, rc, rows⟩ := x
        dsimp only at *
        go_upto_region 5 with (fail)
        generalize w1.alloc _ = wa at *
        generalize w1.heap.size = z at *
        have hbd : Below wa.heap.size wa wa.drew := (Below.refl _ _).drew
        have HMPd := Lib.hid (HMPa.out.below hbd)
        have HBd := Lib.hid (HBRa.out.trans (hbd.mono HBRa.out.size))
        have HCd := Lib.hid (hta.below hbd (Nat.le_refl _))
        have HKd := Lib.hid (hcra.below hbd (Nat.le_refl _))
        have HRd := Lib.hid (HRGa.out.kept (grown_none hbd (Nat.le_refl _)) (by simp) (by simp))
        have HOW := Lib.hid (own_any ⟨wkr, inc, ka, kc, keys, ra, rc, rows⟩ wa.drew (((Kp.of_below (fun _ => False) HBd.out (Nat.le_refl _)).pgIn HPG.out (fun _ _ => id) (fun _ _ => id)).at_))
        unfold Pg.raw Rw.val at HOW
        dsimp only at HOW
        have hwk : wkr.size ≤ 1000000 := HPG.out.wkr
        have hkl3 : k.length ≤ 6 := by have h1 := HKL.out; have h2 := HS1.out.cnt; have h3 := HB.out.few; rw [List.length_append, List.length_singleton] at h2; omega
        have hrd4 : r + 1 ≤ wa.drew.heap.size := hr4
        obtain ⟨⟨p0, p1, p2, p3⟩, _⟩ := cel4 hta
        have e0 := hcra.cell 0 _ rfl
        clear hta hcra hbd HMPa HBRa HRGa hr4
        go_region_law (go_simp; go_at_call 21; refine HOW.out.mono ?_; rintro e w4 ⟨⟨yw, yi, yka, ykc, yks, yra, yrc, yrs⟩, rfl, hab4, hkl4, hrl4, hpo4, hb4⟩; have hew : yw = wkr := congrArg Ab.wkr hab4; obtain ⟨w5, hr5, ho5, hg5⟩ := Owns.put (HMPd.out.below hb4).own HMPd.out.asc (by unfold maxLen; omega) (⟨yw, yi, yka, ykc, yks, yra, yrc, yrs⟩ : Pg) (by show yw.size ≤ maxLen; rw [hew]; unfold maxLen; omega); unfold Pg.raw Rw.val at hr5; dsimp only at hr5; have HAB4 := Lib.hid hab4; have HLN4 := Lib.hid (And.intro hkl4 hrl4); have HPO4 := Lib.hid hpo4; have HB4 := Lib.hid hb4; have HO5 := Lib.hid ho5; have HG5 := Lib.hid hg5; rw [hew] at hr5; obtain ⟨⟨j0, j1, j2, j3⟩, _⟩ := cel4 (HCd.out.below hb4 (Nat.le_refl _)); have i0 := (HKd.out.below hb4 (Nat.le_refl _)).cell 0 _ rfl; unfold Pg.raw Rw.val; dsimp only; rw [hew]; have HEW := Lib.hid hew; clear hab4 hkl4 hrl4 hpo4 hb4 ho5 hg5 hew)
        all_goals
          have hrg5 := (HRd.out.kept (grown_none HB4.out (Nat.le_refl _)) (by simp) (by simp)).kept HG5.out (by intro e; have := Option.some.inj e; have := HNB.out; omega) (by intro e; have := Option.some.inj e; omega)
          have HRG5 := Lib.hid hrg5
          clear p0 p1 p2 p3 j0 j1 j2 j3 hr5 e0 i0 hrg5
          go_wp2
          go_roundw
          case rel =>
            have hln := (len_ins Pg.wkr (x := (⟨yw, yi, yka, ykc, yks, yra, yrc, yrs⟩ : Pg)) k).2
            have hsz : w.heap.size ≤ wa.drew.heap.size := HBd.out.size
            have hk5 : Kp (fun y => y = w.heap.size) w4 w5 := Kp.of_grown HG5.out (fun _ _ e => (Option.some.inj e).symm)
            have hm5 := HMPd.out.ins HB4.out HPO4.out (by show yw.size ≤ 1000000; rw [HEW.out]; exact hwk) (by have h1 : yks.length = keys.length := HLN4.out.1; have h2 : yrs.length = rows.length := HLN4.out.2; have h3 := HPG.out.few; dsimp only at h3; show yks.length ≤ 4 ∧ yrs.length = yks.length; omega) HO5.out HG5.out hsz
            refine ⟨done ++ [⟨wkr, inc, ka, kc, keys, ra, rc, rows⟩], ins Pg.wkr ⟨yw, yi, yka, ykc, yks, yra, yrc, yrs⟩ k, _, cnt1, HRG5.out, HS1.out, hm5, fun p hp i hi => ?_, fun a => ?_, ?_, ?_, ?_, ?_⟩
            · rcases (mem_ins Pg.wkr HMPd.out.asc).1 hp with rfl | ⟨hp, _⟩
              · have := HPO4.out.ge hi
                omega
              · exact HGE.out p hp i hi
            · rw [map_ins Pg.wkr Ab.wkr Pg.ab ab_wkr, HAB4.out, mem_ins Ab.wkr (map_asc Pg.wkr Ab.wkr Pg.ab ab_wkr HMPd.out.asc), List.map_append, List.mem_append, HMEM.out a]
              constructor
              · rintro (h | ⟨h, _⟩)
                · exact .inr (List.mem_singleton.2 h)
                · exact .inl h
              · rintro (h | h)
                · refine .inr ⟨h, fun e => ?_⟩
                  obtain ⟨y, hy, rfl⟩ := List.mem_map.1 h
                  exact HNEW.out y hy e
                · exact .inl (List.mem_singleton.1 h)
            · rw [List.length_append, List.length_singleton]
              have := HKL.out
              omega
            · exact hk5.cel (HKd.out.below HB4.out (Nat.le_refl _)) (by omega)
            · have h1 := HBd.out.trans (HB4.out.mono hsz)
              exact h1.trans (hk5.below h1.size (fun i hi e => by omega))
            · have h1 := HB4.out.size
              have h2 := hk5.size
              omega
          case measure => rw [HRG5.out.left_eq]; exact HLT.out
end Ag
end Go.Proofs.Ytfpennnbicclfaa
