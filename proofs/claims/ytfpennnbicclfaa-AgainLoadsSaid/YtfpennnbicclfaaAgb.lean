/- Package again: a book in memory; what turns. -/
import Derived.Test.YtfpennnbicclfaaAga
import Derived.Test.YtfpennnbicclfaaSet
import Derived.Deep.RegionLaw
import Derived.Deep.CutBlock
namespace Go.Proofs.Ytfpennnbicclfaa
open Go.RowKit

namespace Ag
section
variable {S S' : Nat → Prop} {w w' w'' : World}
theorem Kp.refl (S : Nat → Prop) (w : World) : Kp S w w := ⟨rfl, rfl, rfl, Nat.le_refl _, fun _ _ _ => rfl⟩
theorem Kp.trans (h : Kp S w w') (k : Kp S w' w'') : Kp S w w'' :=
  ⟨k.os.trans h.os, k.tape.trans h.tape, k.output.trans h.output, Nat.le_trans h.size k.size, fun i hi hs => (k.block i (Nat.lt_of_lt_of_le hi h.size) hs).trans (h.block i hi hs)⟩
/-- .. what the second one turns is new, or the first one may turn it. -/
theorem Kp.past (h : Kp S w w') (k : Kp S' w' w'') (hs : ∀ i, i < w.heap.size → S' i → S i) : Kp S w w'' :=
  ⟨k.os.trans h.os, k.tape.trans h.tape, k.output.trans h.output, Nat.le_trans h.size k.size, fun i hi hn => (k.block i (Nat.lt_of_lt_of_le hi h.size) (fun e => hn (hs i hi e))).trans (h.block i hi hn)⟩
theorem Kp.mono (h : Kp S w w') (hs : ∀ i, i < w.heap.size → S i → S' i) : Kp S' w w' := ⟨h.os, h.tape, h.output, h.size, fun i hi hn => h.block i hi (fun e => hn (hs i hi e))⟩
theorem Kp.of_below {B : Nat} (S : Nat → Prop) (h : Below B w w') (hB : w.heap.size ≤ B) : Kp S w w' := ⟨h.os, h.tape, h.output, h.size, fun i hi _ => h.block i (Nat.lt_of_lt_of_le hi hB)⟩
theorem Kp.of_grown {row : Option Nat} (h : w.grownBy w' row) (hs : ∀ i, i < w.heap.size → row = some i → S i) : Kp S w w' := ⟨h.os, h.tape, h.output, h.size, fun i hi hn => h.block i hi (fun e => hn (hs i hi e.symm))⟩
theorem Kp.of_grew {v v' : Value} (h : Grew w w' v v') (hs : ∀ i, i < w.heap.size → v.ownBlock = some i → S i) : Kp S w w' := Kp.of_grown h.grown hs
theorem Kp.below {B : Nat} (h : Kp S w w') (hB : B ≤ w.heap.size) (hs : ∀ i, i < B → ¬ S i) : Below B w w' := ⟨h.os, h.tape, h.output, h.size, fun i hi => h.block i (Nat.lt_of_lt_of_le hi hB) (hs i hi)⟩
theorem Kp.cell (h : Kp S w w') {a : Addr} (ha : a.block < w.heap.size) (hs : ¬ S a.block) : w'.cell? a = w.cell? a := World.cell?_of_block (h.block _ ha hs)
theorem Kp.cel {q : Nat} {cs : List Value} (h : Kp S w w') (hc : Cel w q cs) (hs : ¬ S q) : Cel w' q cs := by
  have hb := h.block q hc.lt hs
  exact ⟨fun i v hi => (World.cell?_of_block (a := ⟨q, i, none⟩) hb).trans (hc.cell i v hi), fun i hi => (World.frozen?_of_block (a := ⟨q, i, none⟩) hb).trans (hc.froz i hi), Nat.lt_of_lt_of_le hc.lt h.size⟩
theorem Kp.rowOwn {base n sz : Nat} {e : TypeId} {v : Value} {xs : List Value} (h : Kp S w w') (ho : w.ownsRow base e sz v n xs) (hs : ∀ i, v.ownBlock = some i → ¬ S i) : w'.ownsRow base e sz v n xs := by
  refine ⟨ho.1, ?_⟩
  rcases ho.2 with h0 | ⟨g, cap, cur, hv, hg, hh, hr⟩
  · exact .inl h0
  · subst hv
    exact .inr ⟨g, cap, cur, rfl, hg, (h.block g (Array.getElem?_eq_some_iff.1 hh).1 (hs g rfl)).trans hh, hr⟩
theorem Kp.own {α : Type} {κ : Cs α} {base n c : Nat} {e : TypeId} {A : Option Addr} {l : List α} (h : Kp S w w') (ho : OwnK κ w base e A n c l) (hs : ∀ a, A = some a → ¬ S a.block) : OwnK κ w' base e A n c l :=
  ⟨ho.1, h.rowOwn ho.2 fun i hi => by
    cases A with
    | none => cases hi
    | some a =>
      obtain rfl := Option.some.inj hi
      exact hs a rfl⟩
theorem Kp.row {B n sz : Nat} {A : Option Addr} {l : List Value} (h : Kp S w w') (ho : RowS w B sz A n l) (hB : B ≤ w.heap.size) (hs : 0 < n → ∀ a, A = some a → ¬ S a.block) : RowS w' B sz A n l := by
  refine ⟨ho.1, fun hn => ?_⟩
  obtain ⟨b, off, rfl, hb, hc⟩ := ho.2 hn
  exact ⟨b, off, rfl, hb, fun k v hk => (h.cell (a := ⟨b, off + k, none⟩) (Nat.lt_of_lt_of_le hb hB) (hs hn ⟨b, off, none⟩ rfl)).trans (hc k v hk)⟩
theorem Owns.lt {b : Nat} {l : List Pg} (h : Owns w b l) : b < w.heap.size := World.ownsMap.lt h
theorem Kp.owns {b : Nat} {l : List Pg} (h : Kp S w w') (ho : Owns w b l) (hs : ¬ S b) : Owns w' b l := by
  have hlt := Owns.lt ho
  obtain ⟨es, clock, hb, F, hsz, hD⟩ := ho
  exact ⟨es, clock, (h.block b hlt hs).trans hb, F, hsz, hD⟩
theorem Owns.ne {b q : Nat} {l : List Pg} {v : Value} {cs : List Value} (h : Owns w b l) (hc : Cel w q (v :: cs)) : b ≠ q := by
  rintro rfl
  obtain ⟨es, clock, hb, _⟩ := h
  have := hc.cell 0 v rfl
  simp [World.cell?, hb] at this
end
theorem Owns.made (w : World) : Owns (w.alloc (.map #[] 0)) w.heap.size [] := World.ownsMap_made w _ _ _
theorem key_str {s : ByteArray} (h : s.size ≤ maxLen) : keyOf Try.prog 9 (.string s) = some (key s) := by
  simp [keyOf, mapKey, Try.underlying9, h, key]
/-- The store into the map. -/
theorem Owns.put {w : World} {b : Nat} {l : List Pg} (h : Owns w b l) (ha : Asc Pg.wkr l) (hn : l.length < maxLen) (x : Pg) (hx : x.wkr.size ≤ maxLen) :
    ∃ w', (Instr.mapUpdate 25 (.map (some b)) (.string x.wkr) x.raw.val).run Try.prog w = .ok () w' ∧ Owns w' b (ins Pg.wkr x l) ∧ w.grownBy w' (some b) := by
  obtain ⟨w', h1, h2, h3⟩ := World.ownsMap.update h law Try.underlying25 hn (key_str hx) (rwR_mk x.raw)
  rw [put_mapD x ha] at h2
  have h4 := own_tight h2
  rw [size_mapD] at h4
  exact ⟨w', h1, h4, h3⟩
/-- Rows of numbers; of slices of bytes. -/
def iκ : Cs Int := ⟨1, fun x => [.int .i64 x], fun _ => rfl, fun x u hu => by
  rw [List.mem_singleton] at hu
  subst hu
  rfl⟩
def pκ : Cs Part := ⟨1, fun x => [x.val], fun _ => rfl, fun x u hu => by
  rw [List.mem_singleton] at hu
  subst hu
  rfl⟩
theorem i_flat (l : List Int) : l.flatMap iκ.cs = l.map (Value.int .i64) := by
  induction l with
  | nil => rfl
  | cons y r ih =>
    rw [List.flatMap_cons, ih]
    rfl
theorem p_flat (l : List Part) : l.flatMap pκ.cs = l.map Part.val := by
  induction l with
  | nil => rfl
  | cons y r ih =>
    rw [List.flatMap_cons, ih]
    rfl
/-- A page's own blocks: those of its two rows. -/
def Pg.own (p : Pg) (i : Nat) : Prop := (∃ a, p.ka = some a ∧ a.block = i) ∨ (∃ a, p.ra = some a ∧ a.block = i)
/-- The blocks that its replies lie in: nobody writes there. -/
def Pg.rd (p : Pg) (i : Nat) : Prop := ∃ r ∈ p.rows, 0 < r.n ∧ ∃ a, r.a = some a ∧ a.block = i
/-- A reply in memory. -/
structure RpIn (w : World) (r : Part) : Prop where
  row : Bytes w w.heap.size r.a r.n r.l
  nn : r.a = none → r.n = 0 ∧ r.c = 0
  len : r.n ≤ 140737488355328
  lt : 0 < r.n → ∀ a, r.a = some a → a.block < w.heap.size
/-- A page in memory. -/
structure PgIn (w : World) (p : Pg) : Prop where
  keys : OwnK iκ w 0 3 p.ka p.keys.length p.kc p.keys
  rows : OwnK pκ w 0 32 p.ra p.rows.length p.rc p.rows
  rep : ∀ r ∈ p.rows, RpIn w r
  wkr : p.wkr.size ≤ 1000000
  few : p.keys.length ≤ 4 ∧ p.rows.length = p.keys.length
theorem Kp.rpIn {S : Nat → Prop} {w w' : World} {r : Part} (h : Kp S w w') (hr : RpIn w r) (hs : 0 < r.n → ∀ a, r.a = some a → ¬ S a.block) : RpIn w' r :=
  ⟨RowS.mono (h.row hr.row (Nat.le_refl _) hs) h.size, hr.nn, hr.len, fun h0 a ha => Nat.lt_of_lt_of_le (hr.lt h0 a ha) h.size⟩
theorem Kp.pgIn {S : Nat → Prop} {w w' : World} {p : Pg} (h : Kp S w w') (hp : PgIn w p) (h1 : ∀ i, p.own i → ¬ S i) (h2 : ∀ i, p.rd i → ¬ S i) : PgIn w' p :=
  ⟨h.own hp.keys fun a ha => h1 _ (.inl ⟨a, ha, rfl⟩), h.own hp.rows fun a ha => h1 _ (.inr ⟨a, ha, rfl⟩), fun r hr => h.rpIn (hp.rep r hr) fun h0 a ha => h2 _ ⟨r, hr, h0, a, ha, rfl⟩, hp.wkr, hp.few⟩
theorem PgIn.own_lt {w : World} {p : Pg} (h : PgIn w p) {i : Nat} (hi : p.own i) : i < w.heap.size := by
  rcases hi with ⟨a, ha, rfl⟩ | ⟨a, ha, rfl⟩
  · exact (h.keys.block ha).2
  · exact (h.rows.block ha).2
theorem PgIn.rd_lt {w : World} {p : Pg} (h : PgIn w p) {i : Nat} (hi : p.rd i) : i < w.heap.size := by
  obtain ⟨r, hr, h0, a, ha, rfl⟩ := hi
  exact (h.rep r hr).lt h0 a ha
/-- A book in memory: one cell, a map; each page's rows its own. -/
structure BkC (w : World) (q : Nat) (m : Option Nat) (l : List Pg) : Prop where
  cel : Cel w q [.map m]
  asc : Asc Pg.wkr l
  own : (m = none ∧ l = []) ∨ ∃ b, m = some b ∧ Owns w b l
  pgs : ∀ p ∈ l, PgIn w p
  apart : ∀ p ∈ l, ∀ p' ∈ l, p.wkr ≠ p'.wkr → ∀ i, p.own i → ¬ p'.own i
  still : ∀ p ∈ l, ∀ p' ∈ l, ∀ i, p.rd i → ¬ p'.own i
  sep : ∀ p ∈ l, ∀ i, p.own i ∨ p.rd i → i ≠ q ∧ m ≠ some i
  few : l.length ≤ 6
/-- The blocks that a book may write. -/
def Wr (q : Nat) (m : Option Nat) (l : List Pg) (i : Nat) : Prop := i = q ∨ m = some i ∨ ∃ p ∈ l, p.own i
/-- All of its blocks. -/
def Foot (q : Nat) (m : Option Nat) (l : List Pg) (i : Nat) : Prop := Wr q m l i ∨ ∃ p ∈ l, p.rd i
section
variable {S : Nat → Prop} {w w' : World} {q : Nat} {m : Option Nat} {l : List Pg}
theorem Kp.bk (h : Kp S w w') (hb : BkC w q m l) (hs : ∀ i, Foot q m l i → ¬ S i) : BkC w' q m l :=
  ⟨h.cel hb.cel (hs q (.inl (.inl rfl))), hb.asc, hb.own.imp id fun ⟨b, hm, ho⟩ => ⟨b, hm, h.owns ho (hs b (.inl (.inr (.inl hm))))⟩,
   fun p hp => h.pgIn (hb.pgs p hp) (fun i hi => hs i (.inl (.inr (.inr ⟨p, hp, hi⟩)))) (fun i hi => hs i (.inr ⟨p, hp, hi⟩)), hb.apart, hb.still, hb.sep, hb.few⟩
theorem BkC.below (hb : BkC w q m l) (h : Below w.heap.size w w') : BkC w' q m l := (Kp.of_below (fun _ => False) h (Nat.le_refl _)).bk hb fun _ _ => id
theorem BkC.mlt {b : Nat} (hb : BkC w q m l) (hm : m = some b) : b < w.heap.size ∧ b ≠ q := by
  rcases hb.own with ⟨h, _⟩ | ⟨b', h, ho⟩
  · rw [h] at hm
    cases hm
  · rw [h] at hm
    cases hm
    exact ⟨ho.lt, ho.ne hb.cel⟩
theorem BkC.lt (hb : BkC w q m l) {i : Nat} (hi : Foot q m l i) : i < w.heap.size := by
  rcases hi with (rfl | hi | ⟨p, hp, hi⟩) | ⟨p, hp, hi⟩
  · exact hb.cel.lt
  · exact (hb.mlt hi).1
  · exact (hb.pgs p hp).own_lt hi
  · exact (hb.pgs p hp).rd_lt hi
end
end Ag
end Go.Proofs.Ytfpennnbicclfaa
