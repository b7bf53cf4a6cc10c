/- What the listed package-level variables give a walk: each sentinel error's variable holds a pointer of its own, no two the same; a table of integers holds its numbers. -/
import Derived.Test.YtggplgmjonnliaaGreatDoorRows
import Derived.Test.YtggplgmjonnliaaGreatDoorBase
import Derived.ProofKit
import Derived.LaidLaws
import Derived.Stop.LaidErr
import Derived.Lib.LaidTab
import Derived.KernelRfl
namespace Go.Proofs.YtggplgmjonnliaaGreatDoor
open Go.RowKit Go.ChangeShapes

/-- A sentinel's datum. -/
def errD (text : List UInt8) : DataW Unit := .iface "*errors.errorString" (.ptr (.agg [.lit (.string text)]))

/-- The variable g holds the sentinel whose text lies at a. -/
structure ErrAt (w : World) (tp : TypeId) (g : Nat) (a : Addr) : Prop where
  var : w.cell? ⟨g, 0, none⟩ = some (.iface tp (.pointer (some a)))
  row : ∃ c t, w.heap[a.block]? = some (.cells c t (0, 0))
  txt : ∃ s, w.cell? a = some (.string s)

theorem ErrAt.lt {w : World} {tp : TypeId} {g : Nat} {a : Addr} (h : ErrAt w tp g a) : g < w.heap.size := by
  have := h.var
  rcases Nat.lt_or_ge g w.heap.size with h' | h'
  · exact h'
  · simp [World.cell?, Array.getElem?_eq_none h'] at this
theorem ErrAt.blt {w : World} {tp : TypeId} {g : Nat} {a : Addr} (h : ErrAt w tp g a) : a.block < w.heap.size := by
  obtain ⟨c, t, h⟩ := h.row
  rcases Nat.lt_or_ge a.block w.heap.size with h' | h'
  · exact h'
  · simp [Array.getElem?_eq_none h'] at h
theorem ErrAt.below {w w' : World} {tp : TypeId} {g : Nat} {a : Addr} (h : ErrAt w tp g a) {B : Nat} (hb : Below B w w') (hB : w.heap.size ≤ B) : ErrAt w' tp g a :=
  ⟨(hb.cell (p := ⟨g, 0, none⟩) (Nat.lt_of_lt_of_le h.lt hB)).trans h.var, by
    obtain ⟨c, t, hr⟩ := h.row
    exact ⟨c, t, (hb.block a.block (Nat.lt_of_lt_of_le h.blt hB)).trans hr⟩, by
    obtain ⟨s, hs⟩ := h.txt
    exact ⟨s, (hb.cell (Nat.lt_of_lt_of_le h.blt hB)).trans hs⟩⟩

/-- The program's tables say of the error types what errors.New wants. -/
structure ErrTypes (P : Program) (ti tp te ts : TypeId) : Prop where
  iface : ∃ ms, P.underlying ti = some (.interface ms)
  uniq : ∀ u, P.typeName? 3 u = some "*errors.errorString" → u = tp
  ptr : P.underlying tp = some (.pointer te)
  str : ∃ f : Field, P.underlying te = some (.struct #[f]) ∧ f.type = ts ∧ f.offset = 0
  string : P.underlying ts = some .string
  ce : P.cellsOf te = 1
  cs : P.cellsOf ts = 1

/-- ALL THE SENTINELS OF A LIST AT ONCE: each has its pointer, no two the same. -/
theorem laid_errs {P : Program} {W : World} {ti tp te ts : TypeId} (T : ErrTypes P ti tp te ts) {rest : List (String × DataW Unit)} :
    ∀ {l : List (String × List UInt8)} {gs : List Nat}, gs.length = l.length → (∀ (i : Nat) (n : String) (x : List UInt8), l[i]? = some (n, x) → ∃ g, gs[i]? = some g ∧ P.globalNamed n = some g ∧ (P.globals[g]?).map (·.type) = some ti) →
    ∀ {ps : List MemPlace}, DataW.LaidVars P W (l.map (fun x => (x.1, errD x.2)) ++ rest) ps → ps.Nodup →
      (∀ b off, MemPlace.cell b off ∈ ps → (∃ c t, W.heap[b]? = some (.cells c t (0, 0))) ∧ ∀ u v, W.cell? ⟨b, off, none⟩ = some (.iface u v) → Value.okWide P W .any 0 u v) →
      ∃ ads : List Addr, ads.length = l.length ∧ ads.Nodup ∧ (∀ (i : Nat) (g : Nat) (a : Addr), gs[i]? = some g → ads[i]? = some a → ErrAt W tp g a) ∧ ∀ a ∈ ads, a.spot = none ∧ MemPlace.cell a.block a.off ∈ ps
  | [], [], _, _, _, _, _, _ => ⟨[], rfl, List.nodup_nil, (fun i g a h => by simp at h), fun a h => by cases h⟩
  | (n, x) :: l, g :: gs, hlen, hg, ps, hv, hnd, hrows => by
    obtain ⟨g0, t0, cs0, f0, p0, q0, hg0, ht0, hv0, hd0, hq, rfl⟩ := hv
    obtain ⟨g', hgg, hgn, hgt⟩ := hg 0 n x rfl
    obtain rfl : g = g' := by simpa using hgg
    obtain rfl := Option.some.inj (hgn.symm.trans hg0)
    obtain rfl := Option.some.inj (hgt.symm.trans ht0)
    obtain ⟨ms, hi⟩ := T.iface
    obtain ⟨f, hf1, hf2, hf3⟩ := T.str
    obtain ⟨l0⟩ := cs0
    have ok0 : ∀ u v, l0 = [.iface u v] → Value.okWide P W .any 0 u v := fun u v e => by
      subst e
      exact (hrows g 0 (by simp [MemPlace.row])).2 u v (by simpa using World.var?_cell hg0 hv0 0)
    obtain ⟨a0, s0, rfl, hc0, _, _, rfl⟩ := errorString_of_trod hi T.uniq T.ptr hf1 hf2 hf3 T.string T.ce T.cs hd0 ok0
    have hnd' : q0.Nodup := List.Nodup.sublist (List.sublist_append_right _ _) hnd
    obtain ⟨ads, hl, hn, hall, hin⟩ := laid_errs T (l := l) (gs := gs) (by simpa using hlen) (fun i n x h => hg (i + 1) n x (by simpa using h)) hq hnd' (fun b off h => hrows b off (List.mem_append_right _ h))
    have hs0 : a0.spot = none := World.cell?_spot hc0
    have hrow := (hrows a0.block a0.off (by simp [MemPlace.row])).1
    refine ⟨a0 :: ads, by simp [hl], List.nodup_cons.2 ⟨fun hm => ?_, hn⟩, ?_, ?_⟩
    · have h1 := (hin a0 hm).2
      exact (List.nodup_append.1 hnd).2.2 _ (by simp [MemPlace.row]) _ h1 rfl
    · intro i g1 a hgi hai
      cases i with
      | zero =>
        simp at hgi hai
        subst hgi; subst hai
        exact ⟨by simpa using World.var?_cell hg0 hv0 0, hrow, s0, hc0⟩
      | succ i => exact hall i g1 a (by simpa using hgi) (by simpa using hai)
    · intro a ha
      rcases List.mem_cons.1 ha with rfl | ha
      · exact ⟨hs0, by simp [MemPlace.row]⟩
      · exact ⟨(hin a ha).1, List.mem_append_right _ (hin a ha).2⟩

/-- The sentinels of the variables gs lie at ads, no two at one place. -/
structure Errs (w : World) (tp : TypeId) (gs : List Nat) (ads : List Addr) : Prop where
  len : ads.length = gs.length
  nodup : ads.Nodup
  all : ∀ (i : Nat) (g : Nat) (a : Addr), gs[i]? = some g → ads[i]? = some a → ErrAt w tp g a
theorem Errs.below {w w' : World} {tp : TypeId} {gs : List Nat} {ads : List Addr} (h : Errs w tp gs ads) {B : Nat} (hb : Below B w w') (hB : w.heap.size ≤ B) : Errs w' tp gs ads :=
  ⟨h.len, h.nodup, fun i g a h1 h2 => (h.all i g a h1 h2).below hb hB⟩
theorem errs_of_laid {P : Program} {W : World} {ti tp te ts : TypeId} (T : ErrTypes P ti tp te ts) {rest : List (String × DataW Unit)} (l : List (String × List UInt8)) (gs : List Nat) (hlen : gs.length = l.length)
    (hg : ((l.zip gs).all fun x => P.globalNamed x.1.1 == some x.2 && (P.globals[x.2]?).map (·.type) == some ti) = true) (h : laidMet P (l.map (fun x => (x.1, errD x.2)) ++ rest) W) : ∃ ads, Errs W tp gs ads := by
  obtain ⟨ps, hv, hnd, hrows⟩ := h
  obtain ⟨ads, h1, h2, h3, _⟩ := laid_errs T (l := l) (gs := gs) hlen (fun i n x hi => by
    have hlt := (List.getElem?_eq_some_iff.1 hi).1
    have hgi : gs[i]? = some gs[i] := List.getElem?_eq_getElem (by omega)
    have hm : ((n, x), gs[i]) ∈ l.zip gs := by
      refine List.mem_iff_getElem?.2 ⟨i, ?_⟩
      rw [List.getElem?_zip_eq_some]
      exact ⟨hi, hgi⟩
    have := List.all_eq_true.1 hg _ hm
    simp only [Bool.and_eq_true, beq_iff_eq] at this
    exact ⟨gs[i], hgi, this.1, this.2⟩) hv hnd hrows
  exact ⟨ads, by omega, h2, h3⟩
theorem rest_of_laid {P : Program} {W : World} : ∀ (l : List (String × DataW Unit)) {rest : List (String × DataW Unit)}, laidMet P (l ++ rest) W → laidMet P rest W
  | [], _, h => h
  | _ :: l, _, h => rest_of_laid l h.tail

theorem errTypes : ErrTypes Tryz.prog 36 224 226 9 where
  iface := ⟨_, Tryz.underlying36⟩
  uniq := fun u h => typeName_ptr_named (nm := "errors.errorString") (by rw [show "*" ++ "errors.errorString" = "*errors.errorString" by decide]; kernel_rfl) (by kernel_rfl) (by decide) u (by rw [show "*" ++ "errors.errorString" = "*errors.errorString" by decide]; exact h)
  ptr := Tryz.underlying224
  str := ⟨_, Tryz.underlying226, rfl, rfl⟩
  string := Tryz.underlying9
  ce := by kernel_rfl
  cs := by kernel_rfl

theorem own : ownKnob Tryz.prog.godebug = none := by kernel_rfl
theorem laidOut : laidOutB Tryz.prog = true := by kernel_rfl

/-- The size of the heap that the program begins with. -/
noncomputable def low : Nat := (World.holding Tryz.prog default ⟨#[], #[], []⟩).heap.size
end Go.Proofs.YtggplgmjonnliaaGreatDoor
