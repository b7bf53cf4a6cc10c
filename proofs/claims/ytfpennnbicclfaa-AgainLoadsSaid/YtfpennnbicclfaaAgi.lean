/- Package again: own: a page in memory of its own. -/
import Derived.Test.YtfpennnbicclfaaAgh
namespace Go.Proofs.Ytfpennnbicclfaa
open Go.RowKit

namespace Ag
theorem own1_set {α : Type} {enc : α → Value} {w : World} {base n c g : Nat} {e : TypeId} {l : List α} (h : w.ownsRow base e 1 (.slice (some ⟨g, 0, none⟩) n c) n (l.map enc)) (j : Nat) (x : α) :
    (w.setCell ⟨g, j, none⟩ (enc x)).ownsRow base e 1 (.slice (some ⟨g, 0, none⟩) n c) n ((l.set j x).map enc) := by
  rw [List.map_set]
  exact (World.ownsRow.stored h j (enc x)).1
theorem own1_frozen {w : World} {base n c g sz : Nat} {e : TypeId} {xs : List Value} (h : w.ownsRow base e sz (.slice (some ⟨g, 0, none⟩) n c) n xs) (o : Nat) : w.frozen? ⟨g, o, none⟩ = false := by
  rcases h.2 with ⟨hv, _⟩ | ⟨g', cap, cur, hv, hg, hh, _⟩
  · cases hv
  · obtain rfl : g = g' := by injection hv with hA; injection hA with hA; injection hA
    unfold World.frozen?
    rw [hh]; rfl
/-- A slice's place: none, or one without a spot. -/
def Pl (A : Option Addr) (n c : Nat) : Prop := (A = none ∧ n = 0 ∧ c = 0) ∨ ∃ b off, A = some ⟨b, off, none⟩
theorem OwnK.pl {α : Type} {κ : Cs α} {w : World} {base n c : Nat} {e : TypeId} {A : Option Addr} {l : List α} (h : OwnK κ w base e A n c l) : Pl A n c := by
  rcases h.2.2 with ⟨hv, h0⟩ | ⟨g, cap, cur, hv, _⟩
  · injection hv with e1 e2 e3
    exact .inl ⟨e1, e2, e3⟩
  · injection hv with e1 e2 e3
    exact .inr ⟨g, 0, e1⟩
set_option maxRecDepth 20000 in
theorem clonei_any (A : Option Addr) (n c : Nat) (l : List Int) (w : World) (hA : Pl A n c) (h : KRow iκ w w.heap.size A n l) (hn : n ≤ 1000) :
    Calls Try.prog 35 #[.slice A n c] w fun e w' => ∃ A' c', e = .returned (.slice A' n c') ∧ OwnK iκ w' w.heap.size 3 A' n c' l ∧ Below w.heap.size w w' := by
  obtain ⟨i0, hi0, hz0, hz1, hz2⟩ := info_parts info_int
  have hl := h.len (by decide)
  rcases hA with ⟨rfl, rfl, rfl⟩ | ⟨b, off, rfl⟩
  · obtain rfl : l = [] := List.eq_nil_of_length_eq_zero hl
    refine Calls.mono (AnyE.slices_Clone_nil sgCi 0 0 w) ?_
    rintro e w' ⟨rfl, rfl⟩
    exact ⟨none, 0, rfl, ⟨by decide, World.ownsRow_nil _ _ _ _⟩, Below.refl _ _⟩
  · have hc : ∀ j u, (l.map (Value.int .i64))[j]? = some u → w.cell? ⟨b, off + j, none⟩ = some u := by
      intro j u hu
      have hjl : j < l.length := by simpa using (List.getElem?_eq_some_iff.1 hu).1
      obtain ⟨b', off', he, _, hcc⟩ := h.2 (by omega)
      injection he with he
      injection he with e1 e2
      subst e1
      subst e2
      rw [i_flat] at hcc
      exact hcc j u hu
    refine Calls.mono (AnyE.slices_Clone sgCi i0 _ 1 8 hi0 hz0 hz1 hz2 rfl (by decide) (fun W => by exact Try.sizeOf3 W) b off n c (l.map (Value.int .i64)) w (by simp [hl]) (by unfold maxLen; omega) (by omega) hc (fun u hu => by
      obtain ⟨x, _, rfl⟩ := List.mem_map.1 hu
      rfl)) ?_
    rintro e w' ⟨v, rfl, ho, _, hb⟩
    have ho2 : w'.ownsRow w.heap.size 3 1 v n (l.map (Value.int .i64)) := ho
    obtain ⟨A', c', rfl, _⟩ := own_form ho2
    exact ⟨A', c', rfl, ⟨by decide, by rw [i_flat]; exact ho2⟩, hb⟩
set_option maxRecDepth 20000 in
theorem clonep_any (A : Option Addr) (n c : Nat) (l : List Part) (w : World) (hA : Pl A n c) (h : KRow pκ w w.heap.size A n l) (hn : n ≤ 1000) :
    Calls Try.prog 36 #[.slice A n c] w fun e w' => ∃ A' c', e = .returned (.slice A' n c') ∧ OwnK pκ w' w.heap.size 32 A' n c' l ∧ Below w.heap.size w w' := by
  obtain ⟨i0, hi0, hz0, hz1, hz2⟩ := info_parts info_sl
  have hl := h.len (by decide)
  rcases hA with ⟨rfl, rfl, rfl⟩ | ⟨b, off, rfl⟩
  · obtain rfl : l = [] := List.eq_nil_of_length_eq_zero hl
    refine Calls.mono (AnyE.slices_Clone_nil sgCp 0 0 w) ?_
    rintro e w' ⟨rfl, rfl⟩
    exact ⟨none, 0, rfl, ⟨by decide, World.ownsRow_nil _ _ _ _⟩, Below.refl _ _⟩
  · have hc : ∀ j u, (l.map Part.val)[j]? = some u → w.cell? ⟨b, off + j, none⟩ = some u := by
      intro j u hu
      have hjl : j < l.length := by simpa using (List.getElem?_eq_some_iff.1 hu).1
      obtain ⟨b', off', he, _, hcc⟩ := h.2 (by omega)
      injection he with he
      injection he with e1 e2
      subst e1
      subst e2
      rw [p_flat] at hcc
      exact hcc j u hu
    refine Calls.mono (AnyE.slices_Clone sgCp i0 _ 1 24 hi0 hz0 hz1 hz2 rfl (by decide) (fun W => by exact Try.sizeOf32 W) b off n c (l.map Part.val) w (by simp [hl]) (by unfold maxLen; omega) (by omega) hc (fun u hu => by
      obtain ⟨x, _, rfl⟩ := List.mem_map.1 hu
      rfl)) ?_
    rintro e w' ⟨v, rfl, ho, _, hb⟩
    have ho2 : w'.ownsRow w.heap.size 32 1 v n (l.map Part.val) := ho
    obtain ⟨A', c', rfl, _⟩ := own_form ho2
    exact ⟨A', c', rfl, ⟨by decide, by rw [p_flat]; exact ho2⟩, hb⟩
/-- A page that lies somewhere. -/
structure PgAt (w : World) (p : Pg) : Prop where
  kp : Pl p.ka p.keys.length p.kc
  rp : Pl p.ra p.rows.length p.rc
  keys : KRow iκ w w.heap.size p.ka p.keys.length p.keys
  rows : KRow pκ w w.heap.size p.ra p.rows.length p.rows
  rep : ∀ r ∈ p.rows, RpIn w r
  few : p.keys.length ≤ 1000 ∧ p.rows.length ≤ 1000
  cap : p.keys.length ≤ p.kc ∧ p.kc ≤ maxLen
theorem OwnK.caps {α : Type} {κ : Cs α} {w : World} {base n c : Nat} {e : TypeId} {A : Option Addr} {l : List α} (h : OwnK κ w base e A n c l) : n ≤ c ∧ c ≤ maxLen := by
  rcases h.2.2 with ⟨hv, h0⟩ | ⟨g, cap, cur, hv, _, _, h1, h2, _⟩
  · injection hv with e1 e2 e3
    subst e3
    omega
  · injection hv with e1 e2 e3
    subst e3
    exact ⟨h1, h2⟩
theorem PgIn.at_ {w : World} {p : Pg} (h : PgIn w p) : PgAt w p := ⟨OwnK.pl h.keys, OwnK.pl h.rows, h.keys.row, h.rows.row, h.rep, by have := h.few; omega, OwnK.caps h.keys⟩
/-- A page in memory that nobody else has: from base on. -/
structure PgOwn (w : World) (base : Nat) (p : Pg) : Prop where
  keys : OwnK iκ w base 3 p.ka p.keys.length p.kc p.keys
  rows : OwnK pκ w base 32 p.ra p.rows.length p.rc p.rows
  rep : ∀ r ∈ p.rows, OwnBytes w base 5 r.a r.n r.c r.l ∧ r.n ≤ 140737488355328
theorem PgAt.below {w w' : World} {p : Pg} (h : PgAt w p) (hb : Below w.heap.size w w') : PgAt w' p :=
  ⟨h.kp, h.rp, (h.keys.below hb (Nat.le_refl _)).mono hb.size, (h.rows.below hb (Nat.le_refl _)).mono hb.size, fun r hr => (Kp.of_below (fun _ => False) hb (Nat.le_refl _)).rpIn (h.rep r hr) (fun _ _ _ => id), h.few, h.cap⟩
theorem PgOwn.below {w w' : World} {base : Nat} {p : Pg} (h : PgOwn w base p) (hb : Below w.heap.size w w') : PgOwn w' base p :=
  ⟨h.keys.below hb (Nat.le_refl _), h.rows.below hb (Nat.le_refl _), fun r hr => ⟨own_below (h.rep r hr).1 hb (Nat.le_refl _), (h.rep r hr).2⟩⟩
end Ag
end Go.Proofs.Ytfpennnbicclfaa
