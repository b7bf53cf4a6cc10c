/- Package again: mathematics of a book (pages by worker); how a map of pages reads; what turns. -/
import Derived.Test.YtfpennnbicclfaaProg
import Derived.Test.YtfpennnbicclfaaGq
import Derived.Test.YtfpennnbicclfaaPart
import Derived.Maps.OwnSet
import Derived.Maps.RangeWalk
import Derived.Maps.Ext
import Derived.ChangeMaps
import Derived.StringKeys
import Derived.Sort.KeysCollected
namespace Go.Proofs.Ytfpennnbicclfaa
open Go.RowKit

namespace Ag
/-- A page as it lies in the map: four fields, six words. -/
structure Rw where
  wkr : ByteArray
  inc : Int
  ka : Option Addr
  kn : Nat
  kc : Nat
  ra : Option Addr
  rn : Nat
  rc : Nat
def Rw.val (x : Rw) : Value := .agg #[.string x.wkr, .int .i64 x.inc, .slice x.ka x.kn x.kc, .slice x.ra x.rn x.rc]
def Rw.cells (x : Rw) : List Value := [.string x.wkr, .int .i64 x.inc, .slice x.ka x.kn x.kc, .slice x.ra x.rn x.rc]
def Rw.zero : Rw := ⟨⟨#[]⟩, 0, none, 0, 0, none, 0, 0⟩
theorem val_inj {x y : Rw} (h : x.val = y.val) : x = y := by
  cases x
  cases y
  simp [Rw.val] at h
  obtain ⟨h1, h2, ⟨h3, h4, h5⟩, h6, h7, h8⟩ := h
  simp only [Rw.mk.injEq]
  exact ⟨h1, h2, h3, h4, h5, h6, h7, h8⟩
open Classical in
/-- How a page in a map reads. -/
noncomputable def rwR (v : Value) : Option (DataW Rw × List MemPlace) := if h : ∃ x : Rw, x.val = v then some (.held h.choose, []) else none
theorem rwR_mk (x : Rw) : rwR x.val = some (.held x, []) := by
  have h : ∃ y : Rw, y.val = x.val := ⟨x, rfl⟩
  unfold rwR
  rw [dif_pos h, val_inj h.choose_spec]
theorem rwR_inv {v : Value} {y : DataW Rw × List MemPlace} (h : rwR v = some y) : ∃ x : Rw, v = x.val ∧ y = (.held x, []) := by
  unfold rwR at h
  split at h
  · rename_i he
    exact ⟨he.choose, he.choose_spec.symm, (Option.some.inj h).symm⟩
  · cases h
/-- Which of two texts stands first. -/
def ltb (a b : ByteArray) : Bool := bytesBefore a.data.toList b.data.toList
theorem data_inj {a b : ByteArray} (h : a.data.toList = b.data.toList) : a = b := by
  cases a
  cases b
  simp only [ByteArray.mk.injEq]
  exact Array.toList_inj.1 h
theorem ltb_irrefl (a : ByteArray) : ltb a a = false := WideShapes.before_irrefl (.string a.data.toList)
theorem ltb_trans {a b c : ByteArray} (h1 : ltb a b = true) (h2 : ltb b c = true) : ltb a c = true := WideShapes.before_trans (a := .string a.data.toList) (b := .string b.data.toList) (c := .string c.data.toList) h1 h2
theorem ltb_total {a b : ByteArray} (h : a ≠ b) : ltb a b = true ∨ ltb b a = true := ChangeMaps.before_total (a := .string a.data.toList) (b := .string b.data.toList) ⟨_, rfl⟩ ⟨_, rfl⟩ (fun e => h (data_inj (by injection e)))
theorem ltb_ne {a b : ByteArray} (h : ltb a b = true) : a ≠ b := fun e => by rw [e, ltb_irrefl] at h; cases h
section
variable {α : Type} (k : α → ByteArray)
def Asc (l : List α) : Prop := l.Pairwise fun a b => ltb (k a) (k b) = true
def ins (x : α) : List α → List α
  | [] => [x]
  | y :: r => if ltb (k x) (k y) = true then x :: y :: r else if k x = k y then x :: r else y :: ins x r
def at? (s : ByteArray) (l : List α) : Option α := l.find? fun y => decide (k y = s)
theorem mem_ins {x y : α} : ∀ {l : List α}, Asc k l → (y ∈ ins k x l ↔ y = x ∨ (y ∈ l ∧ k y ≠ k x))
  | [], _ => by simp [ins]
  | z :: r, h => by
    obtain ⟨h1, h2⟩ := List.pairwise_cons.1 h
    unfold ins
    split
    · rename_i hlt
      have h3 : ∀ u ∈ z :: r, k u ≠ k x := by
        intro u hu e
        rcases List.mem_cons.1 hu with rfl | hu
        · exact ltb_ne hlt e.symm
        · exact ltb_ne (ltb_trans hlt (h1 u hu)) e.symm
      rw [List.mem_cons]
      exact ⟨fun hy => hy.elim .inl (fun hy => .inr ⟨hy, h3 y hy⟩), fun hy => hy.elim .inl (fun hy => .inr hy.1)⟩
    · split
      · rename_i heq
        rw [List.mem_cons]
        constructor
        · rintro (rfl | hy)
          · exact .inl rfl
          · exact .inr ⟨List.mem_cons_of_mem _ hy, fun e => ltb_ne (h1 y hy) (by rw [← heq, e])⟩
        · rintro (rfl | ⟨hy, hn⟩)
          · exact .inl rfl
          · rcases List.mem_cons.1 hy with rfl | hy
            · exact absurd heq.symm hn
            · exact .inr hy
      · rename_i hn1 hn2
        rw [List.mem_cons, mem_ins h2]
        constructor
        · rintro (rfl | rfl | ⟨hy, hn⟩)
          · exact .inr ⟨List.mem_cons_self, fun e => hn2 e.symm⟩
          · exact .inl rfl
          · exact .inr ⟨List.mem_cons_of_mem _ hy, hn⟩
        · rintro (rfl | ⟨hy, hn⟩)
          · exact .inr (.inl rfl)
          · rcases List.mem_cons.1 hy with rfl | hy
            · exact .inl rfl
            · exact .inr (.inr ⟨hy, hn⟩)
theorem asc_ins {x : α} : ∀ {l : List α}, Asc k l → Asc k (ins k x l)
  | [], _ => by simp [ins, Asc]
  | z :: r, h => by
    obtain ⟨h1, h2⟩ := List.pairwise_cons.1 h
    unfold ins
    split
    · rename_i hlt
      exact List.pairwise_cons.2 ⟨fun u hu => by
        rcases List.mem_cons.1 hu with rfl | hu
        · exact hlt
        · exact ltb_trans hlt (h1 u hu), h⟩
    · split
      · rename_i heq
        exact List.pairwise_cons.2 ⟨fun u hu => by rw [heq]; exact h1 u hu, h2⟩
      · rename_i hn1 hn2
        have hz : ltb (k z) (k x) = true := (ltb_total hn2).resolve_left hn1
        exact List.pairwise_cons.2 ⟨fun u hu => by
          rcases (mem_ins k h2).1 hu with rfl | ⟨hu, _⟩
          · exact hz
          · exact h1 u hu, asc_ins h2⟩
theorem len_ins {x : α} : ∀ (l : List α), l.length ≤ (ins k x l).length ∧ (ins k x l).length ≤ l.length + 1
  | [] => by simp [ins]
  | z :: r => by
    have := len_ins (x := x) r
    unfold ins
    split
    · simp
    · split
      · simp
      · simp only [List.length_cons]
        omega
theorem len_ins_old {x : α} : ∀ {l : List α}, Asc k l → (∃ y ∈ l, k y = k x) → (ins k x l).length = l.length
  | [], _, ⟨_, h, _⟩ => by cases h
  | z :: r, h, ⟨y, hy, e⟩ => by
    obtain ⟨h1, h2⟩ := List.pairwise_cons.1 h
    unfold ins
    split
    · rename_i hlt
      rcases List.mem_cons.1 hy with rfl | hy
      · exact absurd e.symm (ltb_ne hlt)
      · exact absurd e.symm (ltb_ne (ltb_trans hlt (h1 y hy)))
    · split
      · simp
      · rename_i hn1 hn2
        rcases List.mem_cons.1 hy with rfl | hy
        · exact absurd e.symm hn2
        · rw [List.length_cons, List.length_cons, len_ins_old h2 ⟨y, hy, e⟩]
theorem len_ins_new {x : α} : ∀ {l : List α}, (∀ y ∈ l, k y ≠ k x) → (ins k x l).length = l.length + 1
  | [], _ => rfl
  | z :: r, h => by
    unfold ins
    split
    · rfl
    · rw [if_neg (fun e => h z List.mem_cons_self e.symm), List.length_cons, List.length_cons, len_ins_new fun y hy => h y (List.mem_cons_of_mem _ hy)]
theorem asc_inj : ∀ {l : List α}, Asc k l → ∀ {a b : α}, a ∈ l → b ∈ l → k a = k b → a = b
  | [], _, _, _, ha, _, _ => by cases ha
  | x :: r, h, a, b, ha, hb, e => by
    have h1 := (List.pairwise_cons.1 h).1
    rcases List.mem_cons.1 ha with rfl | ha2 <;> rcases List.mem_cons.1 hb with rfl | hb2
    · rfl
    · exact absurd e (ltb_ne (h1 _ hb2))
    · exact absurd e.symm (ltb_ne (h1 _ ha2))
    · exact asc_inj (List.pairwise_cons.1 h).2 ha2 hb2 e
theorem at_some {l : List α} {s : ByteArray} {x : α} (h : at? k s l = some x) : x ∈ l ∧ k x = s := ⟨List.mem_of_find?_eq_some h, by simpa using List.find?_some h⟩
theorem at_of {l : List α} (h : Asc k l) {x : α} (hx : x ∈ l) : at? k (k x) l = some x := by
  cases hf : at? k (k x) l with
  | none =>
    have := List.find?_eq_none.1 hf x hx
    simp at this
  | some y =>
    obtain ⟨h1, h2⟩ := at_some k hf
    rw [asc_inj k h h1 hx h2]
theorem at_none {l : List α} {s : ByteArray} : at? k s l = none ↔ ∀ y ∈ l, k y ≠ s := by
  unfold at?
  rw [List.find?_eq_none]
  simp
theorem at_ins {l : List α} (h : Asc k l) (x : α) (s : ByteArray) : at? k s (ins k x l) = if k x = s then some x else at? k s l := by
  by_cases e : k x = s
  · rw [if_pos e, ← e]
    exact at_of k (asc_ins k h) ((mem_ins k h).2 (.inl rfl))
  · rw [if_neg e]
    cases hf : at? k s l with
    | none =>
      rw [at_none] at hf ⊢
      intro y hy
      rcases (mem_ins k h).1 hy with rfl | ⟨hy, _⟩
      · exact e
      · exact hf y hy
    | some y =>
      obtain ⟨h1, h2⟩ := at_some k hf
      rw [← h2]
      exact at_of k (asc_ins k h) ((mem_ins k h).2 (.inr ⟨h1, fun h3 => e (h3 ▸ h2)⟩))
theorem asc_nodup {l : List α} (h : Asc k l) : (l.map k).Nodup := by
  unfold List.Nodup
  rw [List.pairwise_map]
  exact h.imp ltb_ne
variable {β : Type} (k' : β → ByteArray) (f : α → β) (hf : ∀ x, k' (f x) = k x)
include hf
theorem map_ins (x : α) : ∀ l : List α, (ins k x l).map f = ins k' (f x) (l.map f)
  | [] => rfl
  | y :: r => by
    unfold ins
    rw [List.map_cons]
    simp only [hf]
    split
    · rfl
    · split
      · rfl
      · rw [List.map_cons, map_ins x r]
theorem map_at (s : ByteArray) (l : List α) : at? k' s (l.map f) = (at? k s l).map f := by
  unfold at?
  rw [List.find?_map]
  congr 2
  funext y
  simp [hf]
theorem map_asc {l : List α} (h : Asc k l) : Asc k' (l.map f) := by
  unfold Asc at *
  rw [List.pairwise_map]
  exact h.imp fun {a b} hab => by rw [hf, hf]; exact hab
end
/-- A page: where its keys and replies lie, and what they are. -/
structure Pg where
  wkr : ByteArray
  inc : Int
  ka : Option Addr
  kc : Nat
  keys : List Int
  ra : Option Addr
  rc : Nat
  rows : List Part
def Pg.raw (p : Pg) : Rw := ⟨p.wkr, p.inc, p.ka, p.keys.length, p.kc, p.ra, p.rows.length, p.rc⟩
/-- What is plain of it. -/
structure Ab where
  wkr : ByteArray
  inc : Int
  keys : List Int
  reps : List (List UInt8)
def Pg.ab (p : Pg) : Ab := ⟨p.wkr, p.inc, p.keys, p.rows.map Part.l⟩
def key (s : ByteArray) : Lit := .string s.data.toList
def ent (p : Pg) : Lit × DataW Rw := (key p.wkr, .held p.raw)
def mapD (l : List Pg) : DataW Rw := .map (l.map ent)
theorem same_key (a b : ByteArray) : (key a).sameKey (key b) = decide (a = b) := by
  rw [Bool.eq_iff_iff]
  show (a.data.toList == b.data.toList) = true ↔ _
  rw [beq_iff_eq, decide_eq_true_iff]
  exact ⟨data_inj, fun e => by rw [e]⟩
theorem insert_all {s : ByteArray} : ∀ {l : List Pg}, (∀ y ∈ l, y.wkr ≠ s) → (l.map ent).filter (fun p => !p.1.sameKey (key s)) = l.map ent := fun {l} h => by
  rw [List.filter_eq_self]
  intro p hp
  obtain ⟨y, hy, rfl⟩ := List.mem_map.1 hp
  show (!(key y.wkr).sameKey (key s)) = true
  rw [same_key, decide_eq_false (h y hy)]
  rfl
theorem insert_first (x : Pg) : ∀ {l : List Pg}, (∀ y ∈ l, ltb x.wkr y.wkr = true) → DataW.insert (ent x) (l.map ent) = (x :: l).map ent
  | [], _ => rfl
  | z :: r, h => by
    show (if ltb x.wkr z.wkr = true then _ else _) = _
    rw [if_pos (h z List.mem_cons_self)]
    rfl
theorem insert_mapD (x : Pg) : ∀ {l : List Pg}, Asc Pg.wkr l → DataW.insert (ent x) ((l.map ent).filter fun p => !p.1.sameKey (key x.wkr)) = (ins Pg.wkr x l).map ent
  | [], _ => rfl
  | z :: r, h => by
    obtain ⟨h1, h2⟩ := List.pairwise_cons.1 h
    have e1 : (!(ent z).1.sameKey (key x.wkr)) = !decide (z.wkr = x.wkr) := by
      show (!(key z.wkr).sameKey (key x.wkr)) = _
      rw [same_key]
    unfold ins
    rw [List.map_cons, List.filter_cons, e1]
    by_cases hlt : ltb x.wkr z.wkr = true
    · rw [if_pos hlt, decide_eq_false (fun e => ltb_ne hlt e.symm), if_pos (show (!false) = true from rfl), insert_all (fun y hy e => ltb_ne (ltb_trans hlt (h1 y hy)) e.symm)]
      exact insert_first x (l := z :: r) (fun y hy => by
        rcases List.mem_cons.1 hy with rfl | hy
        · exact hlt
        · exact ltb_trans hlt (h1 y hy))
    · rw [if_neg hlt]
      by_cases heq : x.wkr = z.wkr
      · rw [if_pos heq, decide_eq_true heq.symm, if_neg (by decide), insert_all (fun y hy e => ltb_ne (h1 y hy) (by rw [← heq, e]))]
        exact insert_first x (fun y hy => by rw [heq]; exact h1 y hy)
      · rw [if_neg heq, decide_eq_false (fun e => heq e.symm), if_pos (show (!false) = true from rfl)]
        show (if ltb x.wkr z.wkr = true then _ else _) = _
        rw [if_neg hlt, insert_mapD x h2]
        rfl
theorem put_mapD (x : Pg) {l : List Pg} (h : Asc Pg.wkr l) : (mapD l).put (key x.wkr) (.held x.raw) = mapD (ins Pg.wkr x l) := congrArg DataW.map (insert_mapD x h)
theorem has_mapD (s : ByteArray) (l : List Pg) : Maps.has (mapD l) (key s) = (at? Pg.wkr s l).isSome := by
  show (l.map ent).any (fun p => p.1.sameKey (key s)) = _
  rw [List.any_map]
  unfold at?
  rw [Bool.eq_iff_iff, List.any_eq_true, List.find?_isSome]
  constructor
  · rintro ⟨x, hx, h⟩
    have h : (key x.wkr).sameKey (key s) = true := h
    rw [same_key] at h
    exact ⟨x, hx, h⟩
  · rintro ⟨x, hx, h⟩
    refine ⟨x, hx, ?_⟩
    show (key x.wkr).sameKey (key s) = true
    rw [same_key]
    exact h
theorem size_mapD (l : List Pg) : Maps.size (mapD l) = l.length := List.length_map ..
theorem at_mapD (z : DataW Rw) (s : ByteArray) (l : List Pg) : (mapD l).atKey (key s) z = ((at? Pg.wkr s l).map fun p => DataW.held p.raw).getD z := by
  unfold mapD DataW.atKey at?
  have e : ((fun p : Lit × DataW Rw => p.1.sameKey (key s)) ∘ ent) = fun y : Pg => decide (y.wkr = s) := funext fun y => by
    show (key y.wkr).sameKey (key s) = _
    rw [same_key]
  dsimp only
  rw [List.find?_map, e]
  cases l.find? (fun y => decide (y.wkr = s)) <;> rfl
theorem keys_mapD (l : List Pg) : strKeys (mapD l) = l.map fun p => p.wkr.data.toList := by
  show (l.map ent).map (fun p => strOf p.1) = _
  rw [List.map_map]
  rfl
/-- The bound on a map's entries is how many it reads. -/
theorem own_tight {H : Type} {P : Program} {k : TypeId} {R : Value → Option (DataW H × List MemPlace)} {w : World} {b n : Nat} {D : DataW H} (h : w.ownsMap P k R b n D) : w.ownsMap P k R b (Maps.size D) D := by
  obtain ⟨es, clock, hb, F, hs, rfl⟩ := h
  exact ⟨es, clock, hb, F, by rw [Maps.size_eq, length_read]; exact Nat.le_refl _, rfl⟩
theorem law : Maps.Keyed Try.prog 9 := Maps.string_keyed Try.underlying9
def Owns (w : World) (b : Nat) (l : List Pg) : Prop := w.ownsMap Try.prog 9 rwR b l.length (mapD l)
/-- What turns: at most the blocks of which S holds, and what is new. -/
structure Kp (S : Nat → Prop) (w w' : World) : Prop where
  os : w'.os = w.os
  tape : w'.tape = w.tape
  output : w'.output = w.output
  size : w.heap.size ≤ w'.heap.size
  block : ∀ i, i < w.heap.size → ¬ S i → w'.heap[i]? = w.heap[i]?
end Ag
end Go.Proofs.Ytfpennnbicclfaa
