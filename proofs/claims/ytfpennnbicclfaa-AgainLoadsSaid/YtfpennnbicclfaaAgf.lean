/- Package again: mathematics of Keep; a page put into a book in memory. -/
import Derived.Test.YtfpennnbicclfaaAge
namespace Go.Proofs.Ytfpennnbicclfaa
open Go.RowKit

namespace Ag
/-- The page that a reply is put to: a life's own, or a new one. -/
def baseA (M : List Ab) (s : ByteArray) (i : Int) : Ab :=
  match at? Ab.wkr s M with
  | none => ⟨s, i, [], []⟩
  | some p => if p.inc < i then ⟨s, i, [], []⟩ else p
def kept (M : List Ab) (s : ByteArray) (i k : Int) (r : List UInt8) : List Ab :=
  ins Ab.wkr ⟨s, i, pushed (baseA M s i).keys k, pushed (baseA M s i).reps r⟩ M
def keep (M : List Ab) (s : ByteArray) (i k : Int) (r : List UInt8) : List Ab := if (look M s i k).1 = 0 then kept M s i k r else M
/-- What Keep may turn. -/
def KS (q : Nat) (m : Option Nat) (l : List Pg) (s : ByteArray) (x : Nat) : Prop := x = q ∨ m = some x ∨ ∃ p ∈ l, p.wkr = s ∧ p.own x
theorem KS.wr {q : Nat} {m : Option Nat} {l : List Pg} {s : ByteArray} {x : Nat} (h : KS q m l s x) : Wr q m l x := by
  rcases h with h | h | ⟨p, hp, _, h⟩
  · exact .inl h
  · exact .inr (.inl h)
  · exact .inr (.inr ⟨p, hp, h⟩)
structure PutC (w w' : World) (q b : Nat) (m : Option Nat) (l : List Pg) (p' : Pg) : Prop where
  cel : Cel w' q [.map (some b)]
  own : Owns w' b (ins Pg.wkr p' l)
  pg : PgIn w' p'
  kp : Kp (KS q m l p'.wkr) w w'
  o : ∀ x, p'.own x → (∃ p ∈ l, p.wkr = p'.wkr ∧ p.own x) ∨ w.heap.size ≤ x
  r : ∀ x, p'.rd x → (∃ p ∈ l, p.wkr = p'.wkr ∧ p.rd x) ∨ w.heap.size ≤ x
  ro : ∀ x, p'.rd x → ¬ p'.own x
  mb : m = some b ∨ (m = none ∧ w.heap.size ≤ b)
  bo : ∀ x, p'.own x ∨ p'.rd x → x ≠ b
  room : (∃ p ∈ l, p.wkr = p'.wkr) ∨ l.length < 6
theorem PutC.bk {w w' : World} {q b : Nat} {m : Option Nat} {l : List Pg} {p' : Pg} (h : PutC w w' q b m l p') (hb : BkC w q m l) :
    BkC w' q (some b) (ins Pg.wkr p' l) ∧ ∀ x, Foot q (some b) (ins Pg.wkr p' l) x → Foot q m l x ∨ w.heap.size ≤ x := by
  have mem : ∀ {p}, p ∈ ins Pg.wkr p' l → p = p' ∨ (p ∈ l ∧ p.wkr ≠ p'.wkr) := fun hp => (mem_ins Pg.wkr hb.asc).1 hp
  have old : ∀ {p}, p ∈ l → p.wkr ≠ p'.wkr → ∀ x, p.own x ∨ p.rd x → ¬ KS q m l p'.wkr x := by
    intro p hp hne x hx hk
    have hsep := hb.sep p hp x hx
    rcases hk with hk | hk | ⟨p2, hp2, he, ho⟩
    · exact hsep.1 hk
    · exact hsep.2 hk
    · rcases hx with hx | hx
      · exact hb.apart p hp p2 hp2 (fun e => hne (e.trans he)) x hx ho
      · exact hb.still p hp p2 hp2 x hx ho
  have olt : ∀ {p}, p ∈ l → ∀ x, p.own x ∨ p.rd x → x < w.heap.size := fun hp x hx => hx.elim (fun h => (hb.pgs _ hp).own_lt h) (fun h => (hb.pgs _ hp).rd_lt h)
  refine ⟨⟨h.cel, asc_ins Pg.wkr hb.asc, .inr ⟨b, rfl, h.own⟩, fun p hp => ?_, fun p hp p2 hp2 hne x hx hx2 => ?_, fun p hp p2 hp2 x hx hx2 => ?_, fun p hp x hx => ?_, ?_⟩, fun x hx => ?_⟩
  · rcases mem hp with rfl | ⟨hp, hne⟩
    · exact h.pg
    · exact h.kp.pgIn (hb.pgs p hp) (fun x hx => old hp hne x (.inl hx)) (fun x hx => old hp hne x (.inr hx))
  · rcases mem hp with rfl | ⟨hpl, hn1⟩ <;> rcases mem hp2 with rfl | ⟨hpl2, hn2⟩
    · exact hne rfl
    · rcases h.o x hx with ⟨p3, hp3, he, ho⟩ | hge
      · exact hb.apart p3 hp3 p2 hpl2 (fun e => hn2 (e.symm.trans he)) x ho hx2
      · exact absurd (olt hpl2 x (.inl hx2)) (by omega)
    · rcases h.o x hx2 with ⟨p3, hp3, he, ho⟩ | hge
      · exact hb.apart p hpl p3 hp3 (fun e => hn1 (e.trans he)) x hx ho
      · exact absurd (olt hpl x (.inl hx)) (by omega)
    · exact hb.apart p hpl p2 hpl2 hne x hx hx2
  · rcases mem hp with rfl | ⟨hpl, hn1⟩ <;> rcases mem hp2 with rfl | ⟨hpl2, hn2⟩
    · exact h.ro x hx hx2
    · rcases h.r x hx with ⟨p3, hp3, he, ho⟩ | hge
      · exact hb.still p3 hp3 p2 hpl2 x ho hx2
      · exact absurd (olt hpl2 x (.inl hx2)) (by omega)
    · rcases h.o x hx2 with ⟨p3, hp3, he, ho⟩ | hge
      · exact hb.still p hpl p3 hp3 x hx ho
      · exact absurd (olt hpl x (.inr hx)) (by omega)
    · exact hb.still p hpl p2 hpl2 x hx hx2
  · rcases mem hp with rfl | ⟨hp, hn1⟩
    · refine ⟨fun e => ?_, fun e => h.bo x hx (Option.some.inj e).symm⟩
      subst e
      have hq := hb.cel.lt
      rcases hx with hx | hx
      · rcases h.o x hx with ⟨p3, hp3, _, ho⟩ | hge
        · exact (hb.sep p3 hp3 x (.inl ho)).1 rfl
        · omega
      · rcases h.r x hx with ⟨p3, hp3, _, ho⟩ | hge
        · exact (hb.sep p3 hp3 x (.inr ho)).1 rfl
        · omega
    · refine ⟨(hb.sep p hp x hx).1, fun e => ?_⟩
      rcases h.mb with h1 | ⟨_, h1⟩
      · exact (hb.sep p hp x hx).2 (h1.trans e)
      · have := olt hp x hx
        have := Option.some.inj e
        omega
  · rcases h.room with ⟨p, hp, he⟩ | hlt
    · rw [len_ins_old Pg.wkr hb.asc ⟨p, hp, he⟩]
      exact hb.few
    · have := (len_ins Pg.wkr (x := p') l).2
      omega
  · rcases hx with (rfl | hx | ⟨p, hp, hx⟩) | ⟨p, hp, hx⟩
    · exact .inl (.inl (.inl rfl))
    · rcases h.mb with h1 | ⟨_, h1⟩
      · exact .inl (.inl (.inr (.inl (h1.trans hx))))
      · have := Option.some.inj hx
        exact .inr (by omega)
    · rcases mem hp with rfl | ⟨hp, _⟩
      · rcases h.o x hx with ⟨p3, hp3, _, ho⟩ | hge
        · exact .inl (.inl (.inr (.inr ⟨p3, hp3, ho⟩)))
        · exact .inr hge
      · exact .inl (.inl (.inr (.inr ⟨p, hp, hx⟩)))
    · rcases mem hp with rfl | ⟨hp, _⟩
      · rcases h.r x hx with ⟨p3, hp3, _, ho⟩ | hge
        · exact .inl (.inr ⟨p3, hp3, ho⟩)
        · exact .inr hge
      · exact .inl (.inr ⟨p, hp, hx⟩)
/-- The page that Keep begins with, and which way it goes. -/
theorem base_of {l : List Pg} {M : List Ab} {s : ByteArray} {i k : Int} {r2 : List UInt8} {X : Rw} {B : Bool} (hM : l.map Pg.ab = M) (h0 : look M s i k = (0, r2)) (hX : rawAt s l = X) (hB : hasAt s l = B) :
    ∃ bp : Pg, bp.wkr = s ∧ bp.inc = i ∧ baseA M s i = ⟨s, i, bp.keys, bp.rows.map Part.l⟩ ∧
      (((!B || decide (X.inc < i)) = true ∧ bp = ⟨s, i, none, 0, [], none, 0, []⟩) ∨ ((!B || decide (X.inc < i)) = false ∧ bp ∈ l ∧ bp.raw = X)) ∧ ((∃ p ∈ l, p.wkr = s) ∨ l.length < 6) := by
  have hml := map_at Pg.wkr Ab.wkr Pg.ab ab_wkr s l
  rw [hM] at hml
  unfold look at h0
  unfold baseA
  unfold rawAt at hX
  unfold hasAt at hB
  rw [hml] at h0 ⊢
  cases hf : at? Pg.wkr s l with
  | none =>
    rw [hf] at h0 hX hB
    subst hB
    refine ⟨⟨s, i, none, 0, [], none, 0, []⟩, rfl, rfl, rfl, .inl ⟨rfl, rfl⟩, .inr ?_⟩
    rw [← hM] at h0
    dsimp only [Option.map_none] at h0
    split at h0
    · rename_i h
      rwa [List.length_map] at h
    · cases h0
  | some p =>
    obtain ⟨hp, hw⟩ := at_some Pg.wkr hf
    rw [hf] at h0 hX hB
    subst hB
    have hX : p.raw = X := hX
    subst hX
    dsimp only [Option.map_some] at h0 ⊢
    have hin : (Pg.ab p).inc = p.inc := rfl
    have hir : p.raw.inc = p.inc := rfl
    by_cases h1 : p.inc < i
    · rw [hin, if_pos h1]
      exact ⟨⟨s, i, none, 0, [], none, 0, []⟩, rfl, rfl, rfl, .inl ⟨by rw [hir, decide_eq_true h1]; rfl, rfl⟩, .inl ⟨p, hp, hw⟩⟩
    · rw [hin, if_neg h1] at h0 ⊢
      by_cases h2 : i < p.inc
      · rw [if_pos h2] at h0
        cases h0
      · refine ⟨p, hw, by omega, ?_, .inr ⟨by rw [hir, decide_eq_false h1]; rfl, hp, rfl⟩, .inl ⟨p, hp, hw⟩⟩
        show (⟨p.wkr, p.inc, p.keys, p.rows.map Part.l⟩ : Ab) = _
        rw [hw, show p.inc = i by omega]
/-- What Keep leaves. -/
def KeepOut (q : Nat) (m : Option Nat) (l : List Pg) (M : List Ab) (w w' : World) : Prop :=
  ∃ m' l', BkC w' q m' l' ∧ l'.map Pg.ab = M ∧ Kp (Wr q m l) w w' ∧ ∀ x, Foot q m' l' x → Foot q m l x ∨ w.heap.size ≤ x
end Ag
end Go.Proofs.Ytfpennnbicclfaa
