/- Package again: both books beside each other. -/
import Derived.Test.YtfpennnbicclfaaAhd
namespace Go.Proofs.Ytfpennnbicclfaa
open Go.RowKit

namespace Ag
theorem DcC.lt {w : World} {x : Nat} {A : Option Addr} {n c : Nat} {ps : List Pg} (h : DcC w x A n c ps) (h0 : A = none ∨ 0 < n) (hf : ∀ p ∈ ps, 1 ≤ p.keys.length) {i : Nat} (hi : DR A ps i) : i < w.heap.size := by
  rcases hi with ⟨a, rfl, rfl⟩ | ⟨p, hp, hi⟩
  · rcases h0 with h0 | h0
    · cases h0
    · obtain ⟨b, off, he, hb, _⟩ := h.row.2 h0
      obtain rfl := Option.some.inj he
      exact hb
  · obtain ⟨hq, hl, _⟩ := h.pgs p hp
    have h1 := hf p hp
    rcases hi with (⟨a, ha, rfl⟩ | ⟨a, ha, rfl⟩) | ⟨r, hr, h0r, a, ha, rfl⟩
    · obtain ⟨b, off, he, hb, _⟩ := hq.keys.2 h1
      rw [ha] at he
      obtain rfl := Option.some.inj he
      exact hb
    · obtain ⟨b, off, he, hb, _⟩ := hq.rows.2 (by omega)
      rw [ha] at he
      obtain rfl := Option.some.inj he
      exact hb
    · exact (hq.rep r hr).lt h0r a ha
theorem keep_ne {M : List Ab} (h : FitM M) (s : ByteArray) (i k : Int) (r : List UInt8) : keep M s i k r ≠ [] := by
  unfold keep
  split
  · exact List.ne_nil_of_mem ((mem_ins Ab.wkr h.1).2 (.inl rfl))
  · rename_i h0
    rintro rfl
    exact h0 rfl
/-- Both books: the program's pages are M, the document's N. -/
structure Bth (B : Nat) (w : World) (q : Nat) (m : Option Nat) (ls : List Pg) (x : Nat) (A : Option Addr) (n c : Nat) (ps : List Pg) (M N : List Ab) : Prop where
  bk : BkC w q m ls
  dc : DcC w x A n c ps
  ok : A = none ∨ 0 < n
  em : ls.map Pg.ab = M
  en : ps.map Pg.ab = N
  fm : FitM M
  fn : FitM N
  foot : ∀ i, Foot q m ls i → B ≤ i ∧ i ≠ x ∧ ¬ DR A ps i
  dr : ∀ i, i = x ∨ DR A ps i → B ≤ i
section
variable {B : Nat} {w w' : World} {q : Nat} {m : Option Nat} {ls : List Pg} {x : Nat} {A : Option Addr} {n c : Nat} {ps : List Pg} {M N : List Ab}
theorem Bth.zero (hq : Cel w q [.map none]) (hx : Cel w x [.slice none 0 0]) (hB : B ≤ q) (hB' : B ≤ x) (hne : q ≠ x) : Bth B w q none [] x none 0 0 [] [] [] := by
  have hd : ∀ i, ¬ DR none ([] : List Pg) i := fun i hi => by
    rcases hi with ⟨a, h, _⟩ | ⟨_, h, _⟩
    · cases h
    · cases h
  refine ⟨BkC.zero hq, ⟨hx, RowS.nil _ _ _ _, .inl ⟨rfl, rfl, rfl⟩, ⟨Nat.le_refl _, by decide⟩, fun _ h => (by cases h), by decide, fun i hi => absurd hi (hd i)⟩, .inl rfl, rfl, rfl, ⟨List.Pairwise.nil, by decide, fun _ h => (by cases h)⟩, ⟨List.Pairwise.nil, by decide, fun _ h => (by cases h)⟩, fun i hi => ?_, fun i hi => ?_⟩
  · obtain rfl := foot_nil hi
    exact ⟨hB, hne, hd _⟩
  · rcases hi with rfl | hi
    · exact hB'
    · exact absurd hi (hd i)
theorem Bth.len (h : Bth B w q m ls x A n c ps M N) : n = N.length ∧ n ≤ 6 := by
  have h1 := h.dc.len
  have h2 := congrArg List.length h.en
  rw [List.length_map] at h2
  have := h.fn.2.1
  omega
theorem Bth.keys (h : Bth B w q m ls x A n c ps M N) : ∀ p ∈ ps, 1 ≤ p.keys.length ∧ p.keys.length ≤ 4 := fun p hp => by
  have h1 : p.ab ∈ N := by rw [← h.en]; exact List.mem_map_of_mem hp
  obtain ⟨_, h2, h3, _⟩ := fits_iff.1 (h.fn.2.2 _ h1)
  exact ⟨h2, h3⟩
theorem Bth.asc (h : Bth B w q m ls x A n c ps M N) : Asc Pg.wkr ps := by
  have h1 := h.fn.1
  rw [← h.en] at h1
  unfold Asc at h1 ⊢
  rw [List.pairwise_map] at h1
  exact h1
theorem Bth.dlt (h : Bth B w q m ls x A n c ps M N) {i : Nat} (hi : DR A ps i) : i < w.heap.size := h.dc.lt h.ok (fun p hp => (h.keys p hp).1) hi
theorem Bth.kp {S : Nat → Prop} (h : Bth B w q m ls x A n c ps M N) (hk : Kp S w w') (hs : ∀ i, Foot q m ls i ∨ i = x ∨ DR A ps i → ¬ S i) : Bth B w' q m ls x A n c ps M N :=
  ⟨hk.bk h.bk (fun i hi => hs i (.inl hi)), h.dc.kp hk (fun i hi => hs i (.inr hi)), h.ok, h.em, h.en, h.fm, h.fn, h.foot, h.dr⟩
theorem Bth.below (h : Bth B w q m ls x A n c ps M N) (hb : Below w.heap.size w w') : Bth B w' q m ls x A n c ps M N :=
  h.kp (Kp.of_below (fun _ => False) hb (Nat.le_refl _)) fun _ _ => id
theorem Bth.keepP (h : Bth B w q m ls x A n c ps M N) (s : ByteArray) (i k : Int) (C : Option Addr) (rn rc : Nat) (rep : List UInt8) (hs : s.size ≤ 1000000) (hr : Bytes w w.heap.size C rn rep) (hC : C = none → rn = 0 ∧ rc = 0) (hn : rn ≤ 1000000) (hl : 0 < rn → ∀ a, C = some a → a.block < B) :
    Calls Try.prog 12 #[.pointer (some ⟨q, 0, none⟩), .agg #[.string s, .int .i64 i, .int .i64 k], .slice C rn rc] w fun e w' => e = .returned (.bool (decide ((look M s i k).1 = 0))) ∧ ∃ m' l', Bth B w' q m' l' x A n c ps (keep M s i k rep) N ∧ Kp (Wr q m ls) w w' := by
  have h1 := keep_any q m ls s i k C rn rc rep w h.bk hs hr hC hn (fun h0 a ha hw => by
    have := hl h0 a ha
    have := (h.foot _ (.inl hw)).1
    omega)
  rw [h.em] at h1
  refine h1.mono ?_
  rintro e w' ⟨rfl, m', l', hb', hab, hkp, hf⟩
  have hq : B ≤ q := (h.foot q (.inl (.inl rfl))).1
  have hql := h.bk.cel.lt
  have hxl := h.dc.cel.lt
  refine ⟨rfl, m', l', ⟨hb', h.dc.kp hkp (fun j hj hw => ?_), h.ok, hab, h.en, fit_keep h.fm s i k rep, h.fn, fun j hj => ?_, h.dr⟩, hkp⟩
  · obtain ⟨_, h2, h3⟩ := h.foot j (.inl hw)
    exact hj.elim h2 h3
  · rcases hf j hj with hj | hj
    · exact h.foot j hj
    · exact ⟨by omega, by omega, fun hd => by have := h.dlt hd; omega⟩
theorem Bth.keepD (h : Bth B w q m ls x A n c ps M N) (s : ByteArray) (i k : Int) (C : Option Addr) (rn rc : Nat) (rep : List UInt8) (hs : s.size ≤ 1000000) (hr : Bytes w w.heap.size C rn rep) (hn : rn ≤ 1000000) :
    Calls Try.prog 13 #[.pointer (some ⟨x, 0, none⟩), .agg #[.string s, .int .i64 i, .int .i64 k], .slice C rn rc] w fun e w' => e = .returned (.bool (decide ((look N s i k).1 = 0))) ∧ ∃ A' n' c' ps', Bth B w' q m ls x A' n' c' ps' M (keep N s i k rep) ∧ Kp (fun i => i = x) w w' := by
  have h1 := dkeep_any x A n c ps s i k C rn rc rep w h.dc h.asc hs (fun p hp => (h.keys p hp).2) hr hn h.len.2
  rw [h.en] at h1
  refine h1.mono ?_
  rintro e w' ⟨rfl, A', n', c', ps', hd', hab, hkp, hf⟩
  have hxB : B ≤ x := h.dr x (.inl rfl)
  have hxl := h.dc.cel.lt
  have hn' : 0 < n' := by
    rw [← hd'.len]
    cases ps' with
    | nil => exact absurd hab.symm (keep_ne h.fn s i k rep)
    | cons _ _ => exact Nat.succ_pos _
  refine ⟨rfl, A', n', c', ps', ⟨hkp.bk h.bk (fun j hj => (h.foot j hj).2.1), hd', .inr hn', h.em, hab, h.fm, fit_keep h.fn s i k rep, fun j hj => ?_, fun j hj => ?_⟩, hkp⟩
  · obtain ⟨h2, h3, h4⟩ := h.foot j hj
    refine ⟨h2, h3, fun hd => ?_⟩
    rcases hf j hd with hd | hd
    · exact h4 hd
    · have := h.bk.lt hj
      omega
  · rcases hj with rfl | hj
    · exact hxB
    · rcases hf j hj with hj | hj
      · exact h.dr j (.inr hj)
      · omega
theorem Bth.load (h : Bth B w q m ls x A n c ps M N) (q' : Nat) (hq : Cel w q' [.map none]) (hB : B ≤ q') (hx : q' ≠ x) (hd : ¬ DR A ps q') (C : Option Addr) (n5 c5 : Nat) (qs : List Pg) (hr : KRow rκ w w.heap.size C n5 (qs.map Pg.raw)) (hp : ∀ p ∈ qs, PgAt w p) (he : qs.map Pg.ab = ls.map Pg.ab) :
    Calls Try.prog 17 #[.pointer (some ⟨q', 0, none⟩), .slice C n5 c5] w fun e w' => e = .returned (.bool true) ∧ ∃ m' l', Bth B w' q' m' l' x A n c ps M N ∧ Kp (fun i => i = q') w w' := by
  have h1 := load_any q' none [] C n5 c5 qs w (BkC.zero hq) hr (fun p hp' => ⟨(hp p hp').arg, by
    have h2 : p.ab ∈ ls.map Pg.ab := by rw [← he]; exact List.mem_map_of_mem hp'
    obtain ⟨y, hy, h3⟩ := List.mem_map.1 h2
    have h4 : y.wkr = p.wkr := congrArg Ab.wkr h3
    rw [← h4]
    exact (h.bk.pgs y hy).wkr⟩)
  rw [he, h.em, loadA_self h.fm] at h1
  refine h1.mono ?_
  rintro e w' ⟨rfl, m', l', hb', hab, hkp, hf⟩
  have hxl := h.dc.cel.lt
  have hql := hq.lt
  refine ⟨rfl, m', l', ⟨hb', h.dc.kp hkp (fun j hj e => ?_), h.ok, hab, h.en, h.fm, h.fn, fun j hj => ?_, h.dr⟩, hkp⟩
  · subst e
    exact hj.elim hx hd
  · rcases hf j hj with rfl | hj
    · exact ⟨hB, hx, hd⟩
    · exact ⟨by omega, by omega, fun hd => by have := h.dlt hd; omega⟩
end
/-- What stands by: a copy, a head. -/
structure Oth (S0 : Nat) (w : World) (cb : Nat) (m : Option Nat) (l : List Pg) (z : Nat) (cs : List Value) : Prop where
  bk : BkC w cb m l
  ft : ∀ i, Foot cb m l i → S0 ≤ i
  hd : Cel w z cs
  hz : S0 ≤ z
theorem Oth.kp {S : Nat → Prop} {S0 : Nat} {w w' : World} {cb z : Nat} {m : Option Nat} {l : List Pg} {cs : List Value} (h : Oth S0 w cb m l z cs) (hk : Kp S w w') (hs : ∀ i, Foot cb m l i ∨ i = z → ¬ S i) : Oth S0 w' cb m l z cs :=
  ⟨hk.bk h.bk (fun i hi => hs i (.inl hi)), h.ft, hk.cel h.hd (hs z (.inr rfl)), h.hz⟩
theorem Oth.kp0 {S : Nat → Prop} {S0 : Nat} {w w' : World} {cb z : Nat} {m : Option Nat} {l : List Pg} {cs : List Value} (h : Oth S0 w cb m l z cs) (hk : Kp S w w') (hs : ∀ i, S0 ≤ i → ¬ S i) : Oth S0 w' cb m l z cs :=
  h.kp hk fun i hi => by
    rcases hi with hi | rfl
    · exact hs i (h.ft i hi)
    · exact hs _ h.hz
theorem Oth.below {S0 : Nat} {w w' : World} {cb z : Nat} {m : Option Nat} {l : List Pg} {cs : List Value} (h : Oth S0 w cb m l z cs) (hb : Below w.heap.size w w') : Oth S0 w' cb m l z cs :=
  h.kp (Kp.of_below (fun _ => False) hb (Nat.le_refl _)) fun _ _ => id
theorem few_of {qs : List Pg} {M : List Ab} (he : qs.map Pg.ab = M) (hf : FitM M) : ∀ p ∈ qs, p.keys.length ≤ 1000 ∧ p.rows.length ≤ 1000 := fun p hp => by
  have h1 : p.ab ∈ M := by rw [← he]; exact List.mem_map_of_mem hp
  obtain ⟨h2, _, h3, _⟩ := fits_iff.1 (hf.2.2 _ h1)
  have h4 : p.ab.reps.length = p.rows.length := List.length_map ..
  have h5 : p.ab.keys.length = p.keys.length := rfl
  omega
end Ag
end Go.Proofs.Ytfpennnbicclfaa
