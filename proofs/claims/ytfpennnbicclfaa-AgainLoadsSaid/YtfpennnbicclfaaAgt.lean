/- Package again: fits; a map of pages that is being made. -/
import Derived.Test.YtfpennnbicclfaaAgs
namespace Go.Proofs.Ytfpennnbicclfaa
open Go.RowKit

namespace Ag
/-- A page as it may come in: where it has no keys, its slices may stand anywhere. -/
structure PgArg (w : World) (p : Pg) : Prop where
  keys : KRow iκ w w.heap.size p.ka p.keys.length p.keys
  rows : KRow pκ w w.heap.size p.ra p.rows.length p.rows
  rep : ∀ r ∈ p.rows, RpIn w r
  few : p.keys.length ≤ 1000 ∧ p.rows.length ≤ 1000
  cap : p.keys.length ≤ p.kc ∧ p.kc ≤ maxLen
theorem PgAt.arg {w : World} {p : Pg} (h : PgAt w p) : PgArg w p := ⟨h.keys, h.rows, h.rep, h.few, h.cap⟩
theorem PgArg.below {w w' : World} {p : Pg} (h : PgArg w p) (hb : Below w.heap.size w w') : PgArg w' p :=
  ⟨(h.keys.below hb (Nat.le_refl _)).mono hb.size, (h.rows.below hb (Nat.le_refl _)).mono hb.size, fun r hr => (Kp.of_below (fun _ => False) hb (Nat.le_refl _)).rpIn (h.rep r hr) (fun _ _ _ => id), h.few, h.cap⟩
theorem pl_of {α : Type} {κ : Cs α} {w : World} {B n c : Nat} {A : Option Addr} {l : List α} (h : KRow κ w B A n l) (h0 : 0 < n) : Pl A n c := by
  obtain ⟨b, off, he, _⟩ := h.2 h0
  exact .inr ⟨b, off, he⟩
theorem PgArg.at_ {w : World} {p : Pg} (h : PgArg w p) (h1 : 1 ≤ p.keys.length) (h2 : p.rows.length = p.keys.length) : PgAt w p :=
  ⟨pl_of h.keys h1, pl_of h.rows (by omega), h.keys, h.rows, h.rep, h.few, h.cap⟩
set_option maxRecDepth 10000 in
set_option maxHeartbeats 1600000 in
theorem fits_any (p : Pg) (w : World) (h : PgArg w p) : Calls Try.prog 31 #[p.raw.val] w fun e w' => e = .returned (.bool (fitsA p.ab)) ∧ Below w.heap.size w w' := by
  obtain ⟨wkr, inc, ka, kc, keys, ra, rc, rows⟩ := p
  have hc1 : Cel (w.alloc (.cells #[.string wkr, .int .i64 inc, .slice ka keys.length kc, .slice ra rows.length rc] 51)) w.heap.size [.string wkr, .int .i64 inc, .slice ka keys.length kc, .slice ra rows.length rc] := Cel.lit w #[.string wkr, .int .i64 inc, .slice ka keys.length kc, .slice ra rows.length rc] 51
  have hb1 : Below w.heap.size w (w.alloc (.cells #[.string wkr, .int .i64 inc, .slice ka keys.length kc, .slice ra rows.length rc] 51)) := (Below.refl _ _).alloc (Nat.le_refl _) _
  have h1 := h.below hb1
  have HT0 := Lib.hid (fun (h0 : 1 ≤ keys.length) => twice_any ka keys.length kc keys _ (pl_of h1.keys h0) h1.keys h1.few.1 h1.cap.1 h1.cap.2)
  have HB := Lib.hid hb1
  have hfew := h1.few
  obtain ⟨⟨p0, p1, p2, p3⟩, _⟩ := cel4 hc1
  obtain ⟨r, hr⟩ : ∃ r, fitsA (Pg.ab ⟨wkr, inc, ka, kc, keys, ra, rc, rows⟩) = r := ⟨_, rfl⟩
  rw [hr]
  unfold fitsA Pg.ab at hr
  dsimp only at hr hfew
  rw [List.length_map] at hr
  clear h h1 hc1 hb1
  show Calls _ _ #[.agg #[.string wkr, .int .i64 inc, .slice ka keys.length kc, .slice ra rows.length rc]] _ _
  by_cases e1 : keys.length = rows.length
  · by_cases e2 : 1 ≤ keys.length
    · have HT := Lib.hid (HT0.out e2)
      by_cases e3 : keys.length ≤ 4
      · rw [decide_eq_true e1, decide_eq_true e2, decide_eq_true e3] at hr
        have hr : decide keys.Nodup = r := hr
        subst hr
        have HRR := Lib.hid (Bool.not_not (decide keys.Nodup))
        generalize decide keys.Nodup = d at *
        have e1' : (keys.length : Int) = (rows.length : Int) := by omega
        have e2' : (1 : Int) ≤ (keys.length : Int) := by omega
        have e3' : (keys.length : Int) ≤ 4 := by omega
        have e4' : (1 : Int) ≤ (rows.length : Int) := by omega
        have e5' : (rows.length : Int) ≤ 4 := by omega
        clear e1 e2 e3 hfew
        go_enter Try.func31, Try.ntmps31
        cases d with
        | true =>
          go_wp2_with (go_at_call 42; (with_reducible refine HT.out.mono ?_); rintro e w2 ⟨rfl, hw⟩; subst hw)
          go_ret
          exact ⟨rfl, HB.out⟩
        | false =>
          go_wp2_with (go_at_call 42; (with_reducible refine HT.out.mono ?_); rintro e w2 ⟨rfl, hw⟩; subst hw)
          go_ret
          exact ⟨rfl, HB.out⟩
      · rw [decide_eq_false e3] at hr
        obtain rfl : r = false := by rw [← hr]; simp
        have e1' : (keys.length : Int) = (rows.length : Int) := by omega
        have e2' : (1 : Int) ≤ (keys.length : Int) := by omega
        have e3' : ¬ (keys.length : Int) ≤ 4 := by omega
        have e4' : (1 : Int) ≤ (rows.length : Int) := by omega
        have e5' : ¬ (rows.length : Int) ≤ 4 := by omega
        clear e1 e2 e3 hfew hr
        go_enter Try.func31, Try.ntmps31
        go_wp2
        go_ret
        exact ⟨rfl, HB.out⟩
    · rw [decide_eq_false e2] at hr
      obtain rfl : r = false := by rw [← hr]; simp
      have e1' : (keys.length : Int) = (rows.length : Int) := by omega
      have e2' : ¬ (1 : Int) ≤ (keys.length : Int) := by omega
      have e4' : ¬ (1 : Int) ≤ (rows.length : Int) := by omega
      clear e1 e2 hfew hr
      go_enter Try.func31, Try.ntmps31
      go_wp2
      go_ret
      exact ⟨rfl, HB.out⟩
  · rw [decide_eq_false e1] at hr
    obtain rfl : r = false := by rw [← hr]; simp
    have e1' : ¬ (keys.length : Int) = (rows.length : Int) := by omega
    have e2' : ((keys.length : Int) == (rows.length : Int)) = false := by simpa using e1'
    clear e1 hfew hr
    go_enter Try.func31, Try.ntmps31
    go_wp2
    go_ret
    exact ⟨rfl, HB.out⟩
/-- A map of pages that nobody else has: from B on. -/
structure Mp (B : Nat) (w : World) (b : Nat) (l : List Pg) : Prop where
  asc : Asc Pg.wkr l
  own : Owns w b l
  pgs : ∀ p ∈ l, PgIn w p
  apart : ∀ p ∈ l, ∀ p' ∈ l, p.wkr ≠ p'.wkr → ∀ i, p.own i → ¬ p'.own i
  still : ∀ p ∈ l, ∀ p' ∈ l, ∀ i, p.rd i → ¬ p'.own i
  blk : ∀ p ∈ l, ∀ i, p.own i ∨ p.rd i → B ≤ i ∧ i ≠ b
  bB : B ≤ b
theorem Mp.made {B : Nat} (w : World) (hB : B ≤ w.heap.size) : Mp B (w.alloc (.map #[] 0)) w.heap.size [] :=
  ⟨List.Pairwise.nil, Owns.made w, fun _ h => (by cases h), fun _ h => (by cases h), fun _ h => (by cases h), fun _ h => (by cases h), hB⟩
theorem Mp.lt {B b : Nat} {w : World} {l : List Pg} (h : Mp B w b l) {p : Pg} (hp : p ∈ l) {i : Nat} (hi : p.own i ∨ p.rd i) : i < w.heap.size := hi.elim (fun h1 => (h.pgs p hp).own_lt h1) (fun h1 => (h.pgs p hp).rd_lt h1)
theorem Mp.below {B b : Nat} {w w' : World} {l : List Pg} (h : Mp B w b l) (hb : Below w.heap.size w w') : Mp B w' b l := by
  have hk : Kp (fun _ => False) w w' := Kp.of_below _ hb (Nat.le_refl _)
  exact ⟨h.asc, hk.owns h.own id, fun p hp => hk.pgIn (h.pgs p hp) (fun _ _ => id) (fun _ _ => id), h.apart, h.still, h.blk, h.bB⟩
/-- A page of one's own, as a page of a map. -/
theorem PgOwn.in_ {w : World} {base : Nat} {p : Pg} (h : PgOwn w base p) (hs : p.wkr.size ≤ 1000000) (hf : p.keys.length ≤ 4 ∧ p.rows.length = p.keys.length) : PgIn w p :=
  ⟨h.keys.lower (Nat.zero_le _), h.rows.lower (Nat.zero_le _), fun r hr => (rp_of_own (h.rep r hr).1 (h.rep r hr).2).1, hs, hf⟩
theorem PgOwn.ge {w : World} {base : Nat} {p : Pg} (h : PgOwn w base p) {i : Nat} (hi : p.own i ∨ p.rd i) : base ≤ i := by
  rcases hi with (⟨a, ha, rfl⟩ | ⟨a, ha, rfl⟩) | ⟨r, hr, _, a, ha, rfl⟩
  · exact (h.keys.block ha).1
  · exact (h.rows.block ha).1
  · exact (rp_of_own (h.rep r hr).1 (h.rep r hr).2).2 a ha
theorem PgOwn.ro {w : World} {base : Nat} {p : Pg} (h : PgOwn w base p) (i : Nat) (hi : p.rd i) : ¬ p.own i := by
  obtain ⟨r, hr, _, a, ha, rfl⟩ := hi
  rintro (⟨a2, ha2, he⟩ | ⟨a2, ha2, he⟩)
  · exact own_ne_type (h.rep r hr).1 h.keys.2 (by decide) ha ha2 he.symm
  · exact own_ne_type (h.rep r hr).1 h.rows.2 (by decide) ha ha2 he.symm
theorem Mp.ins {B b : Nat} {w w1 w2 : World} {l : List Pg} {p : Pg} (h : Mp B w b l) (h1 : Below w.heap.size w w1) (hp : PgOwn w1 w.heap.size p) (hs : p.wkr.size ≤ 1000000) (hf : p.keys.length ≤ 4 ∧ p.rows.length = p.keys.length)
    (ho : Owns w2 b (ins Pg.wkr p l)) (hg : w1.grownBy w2 (some b)) (hB : B ≤ w.heap.size) : Mp B w2 b (ins Pg.wkr p l) := by
  have hk : Kp (fun x => x = b) w1 w2 := Kp.of_grown hg (fun _ _ e => (Option.some.inj e).symm)
  have hbl := h.own.lt
  have hM := h.below h1
  have mem : ∀ {q}, q ∈ Ag.ins Pg.wkr p l → q = p ∨ (q ∈ l ∧ q.wkr ≠ p.wkr) := fun hq => (mem_ins Pg.wkr h.asc).1 hq
  have hpb : ∀ i, p.own i ∨ p.rd i → i ≠ b := fun i hi e => by have := hp.ge hi; omega
  refine ⟨asc_ins Pg.wkr h.asc, ho, fun q hq => ?_, fun q hq q2 hq2 hne i hi hi2 => ?_, fun q hq q2 hq2 i hi hi2 => ?_, fun q hq i hi => ?_, h.bB⟩
  · rcases mem hq with rfl | ⟨hq, _⟩
    · exact hk.pgIn (hp.in_ hs hf) (fun i hi => hpb i (.inl hi)) (fun i hi => hpb i (.inr hi))
    · exact hk.pgIn (hM.pgs q hq) (fun i hi => (h.blk q hq i (.inl hi)).2) (fun i hi => (h.blk q hq i (.inr hi)).2)
  · rcases mem hq with rfl | ⟨hql, _⟩ <;> rcases mem hq2 with rfl | ⟨hql2, _⟩
    · exact hne rfl
    · have := hp.ge (.inl hi)
      have := h.lt hql2 (.inl hi2)
      omega
    · have := hp.ge (.inl hi2)
      have := h.lt hql (.inl hi)
      omega
    · exact h.apart q hql q2 hql2 hne i hi hi2
  · rcases mem hq with rfl | ⟨hql, _⟩ <;> rcases mem hq2 with rfl | ⟨hql2, _⟩
    · exact hp.ro i hi hi2
    · have := hp.ge (.inr hi)
      have := h.lt hql2 (.inl hi2)
      omega
    · have := hp.ge (.inl hi2)
      have := h.lt hql (.inr hi)
      omega
    · exact h.still q hql q2 hql2 i hi hi2
  · rcases mem hq with rfl | ⟨hql, _⟩
    · exact ⟨Nat.le_trans hB (hp.ge hi), hpb i hi⟩
    · exact h.blk q hql i hi
/-- .. put into a book's cell. -/
theorem Mp.bk {B b q : Nat} {w : World} {l : List Pg} (h : Mp B w b l) (hc : Cel w q [.map (some b)]) (hq : q < B) (hf : l.length ≤ 6) : BkC w q (some b) l ∧ ∀ x, Foot q (some b) l x → x = q ∨ B ≤ x := by
  refine ⟨⟨hc, h.asc, .inr ⟨b, rfl, h.own⟩, h.pgs, h.apart, h.still, fun p hp i hi => ⟨fun e => by have := (h.blk p hp i hi).1; omega, fun e => (h.blk p hp i hi).2 (Option.some.inj e).symm⟩, hf⟩, fun x hx => ?_⟩
  rcases hx with (rfl | hx | ⟨p, hp, hx⟩) | ⟨p, hp, hx⟩
  · exact .inl rfl
  · have := Option.some.inj hx
    exact .inr (by have := h.bB; omega)
  · exact .inr (h.blk p hp x (.inl hx)).1
  · exact .inr (h.blk p hp x (.inr hx)).1
end Ag
end Go.Proofs.Ytfpennnbicclfaa
