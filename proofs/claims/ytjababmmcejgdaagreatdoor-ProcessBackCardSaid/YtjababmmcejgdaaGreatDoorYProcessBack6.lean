/- Mathematics of package cond: the words of a text, the condition that they tell, what it comes to. What the listed package-level variables give a walk: each sentinel error's variable holds a pointer of its own, no two the same; a table of integers holds its numbers. From the reading of an argument to what a walk is told of it. Rows of structs of one's own: what is appended; a cell that is written; beside others. -/
import Derived.Test.YtjababmmcejgdaaGreatDoorYProcessBack1
import Derived.Test.YtjababmmcejgdaaGreatDoorRows
import Derived.ProofKit
import Derived.LaidLaws
import Derived.Stop.LaidErr
import Derived.Lib.LaidTab
import Derived.KernelRfl
import Derived.OpenShut
import Derived.ShutString
import Derived.ChangeOld
import Derived.Test.YtjababmmcejgdaaGreatDoorYProcessBack8
import Derived.Maps.AppendAt
namespace Go.Proofs.YtjababmmcejgdaaGreatDoor
open Go.RowKit

namespace Co
/-- Where a parser stands: its word, from where till where; its first error, and the place. -/
structure St where
  kind : Nat
  frm : Nat
  till : Nat
  err : Option (Int × Nat)

def digit (c : UInt8) : Bool := decide (48 ≤ c.toNat) && decide (c.toNat ≤ 57)
def ofWord (c : UInt8) : Bool := (decide (97 ≤ c.toNat) && decide (c.toNat ≤ 122)) || digit c || decide (c.toNat = 95)
def blank (c : UInt8) : Bool := decide (c.toNat = 32)
def inText (c : UInt8) : Bool := decide (32 ≤ c.toNat) && decide (c.toNat ≤ 126) && !decide (c.toNat = 34)
/-- The first place from k on that is not so. -/
def ends (p : UInt8 → Bool) (l : List UInt8) (k : Nat) : Nat := k + ((l.drop k).takeWhile p).length
theorem takeWhile_len {p : UInt8 → Bool} : ∀ (l : List UInt8) (n : Nat), n ≤ l.length → (∀ j, j < n → p l[j]! = true) → (n = l.length ∨ p l[n]! = false) → (l.takeWhile p).length = n
  | [], n, hn, _, _ => by simp at hn; simp [hn]
  | c :: l, 0, _, _, h => by
    rcases h with h | h
    · simp at h
    · simp only [List.getElem!_cons_zero] at h
      simp [h]
  | c :: l, n + 1, hn, ha, h => by
    have h0 : p c = true := by simpa using ha 0 (by omega)
    have := takeWhile_len l n (by simpa using hn) (fun j hj => by simpa using ha (j + 1) (by omega)) (by simpa using h)
    simp [h0, this]
theorem ends_eq {p : UInt8 → Bool} {l : List UInt8} {k m : Nat} (hk : k ≤ m) (hm : m ≤ l.length) (ha : ∀ j, k ≤ j → j < m → p l[j]! = true) (h : m = l.length ∨ p l[m]! = false) : ends p l k = m := by
  unfold ends
  have hd : ∀ j, (l.drop k)[j]! = l[k + j]! := fun j => by simp [List.getElem!_eq_getElem?_getD]
  rw [takeWhile_len (l.drop k) (m - k) (by simp; omega) (fun j hj => by rw [hd]; exact ha _ (by omega) (by omega))
    (by rcases h with h | h
        · left; simp; omega
        · right; rw [hd, show k + (m - k) = m from by omega]; exact h)]
  omega

/-- What a word of letters, digits and _ is. -/
def kindOf (t : List UInt8) : Nat :=
  if t = [111, 114] ∨ t = [97, 110, 100] ∨ t = [110, 111, 116] then 6
  else if t = [116, 114, 117, 101] ∨ t = [102, 97, 108, 115, 101] then 4
  else if t.length ≤ 9 ∧ t.all digit = true then 2
  else if digit t[0]! = false ∧ t[0]! ≠ 95 ∧ Vr.name t = true then 5 else 0
def marks : List UInt8 := [40, 41, 60, 62, 43, 45, 42, 47, 37]
def markLen (t : List UInt8) : Nat :=
  if 1 < t.length ∧ t[1]! = 61 ∧ ([61, 33, 60, 62] : List UInt8).contains (t[0]!) = true then 2
  else if marks.contains (t[0]!) = true then 1 else 0
/-- The word that begins there: what it is, from where till where. -/
def textAt (l : List UInt8) (k : Nat) : Nat × Nat × Nat :=
  if ends inText l (k + 1) < l.length ∧ l[ends inText l (k + 1)]! = 34 then (3, k, ends inText l (k + 1) + 1) else (0, k, k)
def wordAt (l : List UInt8) (k : Nat) : Nat × Nat × Nat :=
  if k = l.length then (1, k, k)
  else if ofWord l[k]! = true then (kindOf ((l.drop k).take (ends ofWord l k - k)), k, ends ofWord l k)
  else if l[k]! = 34 then textAt l k
  else if markLen (l.drop k) = 0 then (0, k, k) else (6, k, k + markLen (l.drop k))

def next (l : List UInt8) (st : St) : St :=
  if st.err.isSome = true then st else ⟨(wordAt l (ends blank l st.till)).1, (wordAt l (ends blank l st.till)).2.1, (wordAt l (ends blank l st.till)).2.2, none⟩
def fail (c : Int) (st : St) : St := if st.err.isSome = true then st else ⟨0, st.frm, st.till, some (c, st.frm)⟩
def text (l : List UInt8) (st : St) : List UInt8 := (l.drop st.frm).take (st.till - st.frm)
def isM (l : List UInt8) (st : St) (m : List UInt8) : Bool := decide (st.kind = 6) && decide (text l st = m)
def words : List (List UInt8) := [[], [], [], [111, 114], [97, 110, 100], [110, 111, 116], [61, 61], [33, 61], [60], [60, 61], [62], [62, 61], [43], [45], [42], [47], [37], [45]]
def opGo (l : List UInt8) (st : St) : Nat → Nat → Nat
  | 0, _ => 0
  | n + 1, a => if isM l st (words[a]!) = true then a else opGo l st n (a + 1)
/-- Which of the operators a to b stands there; 0: none. -/
def op (l : List UInt8) (st : St) (a b : Nat) : Nat := opGo l st (b + 1 - a) a

/-- A number's value. -/
def numOf (t : List UInt8) : Int := ((t.foldl (fun a c => a * 10 + (c.toNat - 48)) 0 : Nat) : Int)

/-- A condition. -/
inductive Tr where
  | leaf (op kind num : Int) (txt name : List UInt8)
  | one (op : Int) (a : Tr)
  | two (op : Int) (a b : Tr)
def Tr.none : Tr := .leaf 0 0 0 [] []
abbrev Out := Option (Tr × St)
def row (l : List UInt8) (part : St → Out) (a b : Nat) : Nat → Tr → St → Out
  | 0, _, _ => .none
  | f + 1, e, st => if op l st a b = 0 then some (e, st) else match part (next l st) with
    | .none => .none
    | some (r, st2) => row l part a b f (.two (op l st a b) e r) st2
def rowAll (l : List UInt8) (part : St → Out) (a b : Nat) (st : St) : Out := match part st with
  | .none => .none
  | some (e, st1) => row l part a b 60 e st1
def deeper (l : List UInt8) (part : Nat → St → Out) (d : Nat) (st : St) : Out :=
  if d = 12 then some (.none, fail 112 st) else part (d + 1) (next l st)
def compared (l : List UInt8) (part : St → Out) (st : St) : Out := match part st with
  | .none => .none
  | some (e, st1) => if op l st1 6 11 = 0 then some (e, st1) else match part (next l st1) with
    | .none => .none
    | some (r, st2) => some (.two (op l st1 6 11) e r, st2)
def under (l : List UInt8) (m : List UInt8) (o : Int) (part : Nat → St → Out) (other : St → Out) (d : Nat) (st : St) : Out :=
  if isM l st m = true then match deeper l part d st with
    | .none => .none
    | some (e, st1) => some (.one o e, st1)
  else other st
def behind (part : St → Out) (st : St) : Out := part (if st.kind = 3 ∨ st.kind = 4 then fail 111 st else st)
def single (l : List UInt8) (bracket : St → Out) (st : St) : Out :=
  if isM l st [40] = true then bracket st
  else if st.kind = 2 then if 1 ≤ (text l st).length ∧ (text l st).length ≤ 9 ∧ (text l st).all digit = true then some (.leaf 1 1 (numOf (text l st)) [] [], next l st) else .none
  else if st.kind = 3 then if 2 ≤ (text l st).length then some (.leaf 1 3 0 (((text l st).drop 1).take ((text l st).length - 2)) [], next l st) else .none
  else if st.kind = 4 then some (.leaf 1 2 (if text l st = [116, 114, 117, 101] then 1 else 0) [] [], next l st)
  else if st.kind = 5 then some (.leaf 2 0 0 [] (text l st), next l st)
  else some (.leaf 1 0 0 [] [], next l (fail 111 st))
def bracket (l : List UInt8) (part : Nat → St → Out) (d : Nat) (st : St) : Out := match deeper l part d st with
  | .none => .none
  | some (e, st1) => some (e, next l (if isM l st1 [41] = true then st1 else fail 111 st1))
/-- One part of the parser (0 to 9), by those beneath. -/
def step (l : List UInt8) (ih : Nat → Nat → St → Out) (which d : Nat) (st : St) : Out :=
  match which with
  | 0 => rowAll l (ih 1 d) 3 3 st
  | 1 => rowAll l (ih 2 d) 4 4 st
  | 2 => under l [110, 111, 116] 5 (ih 2) (ih 3 d) d st
  | 3 => compared l (ih 4 d) st
  | 4 => rowAll l (ih 5 d) 12 13 st
  | 5 => rowAll l (ih 6 d) 14 16 st
  | 6 => under l [45] 17 (ih 7) (ih 8 d) d st
  | 7 => behind (ih 6 d) st
  | 8 => single l (ih 9 d) st
  | _ => bracket l (ih 0) d st
def parts (l : List UInt8) : Nat → Nat → Nat → St → Out
  | 0 => fun _ _ _ => .none
  | f + 1 => step l (parts l f)
def parse (l : List UInt8) : Option (Tr × Option (Int × Nat)) :=
  if 80 < l.length then some (.none, some (105, 80))
  else match parts l 140 0 0 (next l ⟨0, 0, 0, .none⟩) with
    | .none => .none
    | some (e, st) => match (if st.kind = 1 then st else fail 111 st).err with
      | some x => some (.none, some x)
      | .none => some (e, .none)
end Co
end Go.Proofs.YtjababmmcejgdaaGreatDoor
namespace Go.Proofs.YtjababmmcejgdaaGreatDoor
open Go.RowKit Go.ChangeShapes

/-- A sentinel's datum. -/
def errD (text : List UInt8) : DataW Unit := .iface "*errors.errorString" (.ptr (.agg [.lit (.string text)]))

/-- The variable g holds the sentinel whose text lies at a. -/
structure ErrAt (w : World) (tp : TypeId) (g : Nat) (a : Addr) : Prop where
  var : w.cell? ⟨g, 0, none⟩ = some (.iface tp (.pointer (some a)))
  row : ∃ c t, w.heap[a.block]? = some (.cells c t (0, 0))
  txt : ∃ s, w.cell? a = some (.string s)

theorem ErrAt.lt {w : World} {tp : TypeId} {g : Nat} {a : Addr} (h : ErrAt w tp g a) : g < w.heap.size := by
  have := h.var
  rcases Nat.lt_or_ge g w.heap.size with h' | h'
  · exact h'
  · simp [World.cell?, Array.getElem?_eq_none h'] at this
theorem ErrAt.blt {w : World} {tp : TypeId} {g : Nat} {a : Addr} (h : ErrAt w tp g a) : a.block < w.heap.size := by
  obtain ⟨c, t, h⟩ := h.row
  rcases Nat.lt_or_ge a.block w.heap.size with h' | h'
  · exact h'
  · simp [Array.getElem?_eq_none h'] at h
theorem ErrAt.below {w w' : World} {tp : TypeId} {g : Nat} {a : Addr} (h : ErrAt w tp g a) {B : Nat} (hb : Below B w w') (hB : w.heap.size ≤ B) : ErrAt w' tp g a :=
  ⟨(hb.cell (p := ⟨g, 0, none⟩) (Nat.lt_of_lt_of_le h.lt hB)).trans h.var, by
    obtain ⟨c, t, hr⟩ := h.row
    exact ⟨c, t, (hb.block a.block (Nat.lt_of_lt_of_le h.blt hB)).trans hr⟩, by
    obtain ⟨s, hs⟩ := h.txt
    exact ⟨s, (hb.cell (Nat.lt_of_lt_of_le h.blt hB)).trans hs⟩⟩

/-- The program's tables say of the error types what errors.New wants. -/
structure ErrTypes (P : Program) (ti tp te ts : TypeId) : Prop where
  iface : ∃ ms, P.underlying ti = some (.interface ms)
  uniq : ∀ u, P.typeName? 3 u = some "*errors.errorString" → u = tp
  ptr : P.underlying tp = some (.pointer te)
  str : ∃ f : Field, P.underlying te = some (.struct #[f]) ∧ f.type = ts ∧ f.offset = 0
  string : P.underlying ts = some .string
  ce : P.cellsOf te = 1
  cs : P.cellsOf ts = 1

/-- ALL THE SENTINELS OF A LIST AT ONCE: each has its pointer, no two the same. -/
theorem laid_errs {P : Program} {W : World} {ti tp te ts : TypeId} (T : ErrTypes P ti tp te ts) {rest : List (String × DataW Unit)} :
    ∀ {l : List (String × List UInt8)} {gs : List Nat}, gs.length = l.length → (∀ (i : Nat) (n : String) (x : List UInt8), l[i]? = some (n, x) → ∃ g, gs[i]? = some g ∧ P.globalNamed n = some g ∧ (P.globals[g]?).map (·.type) = some ti) →
    ∀ {ps : List MemPlace}, DataW.LaidVars P W (l.map (fun x => (x.1, errD x.2)) ++ rest) ps → ps.Nodup →
      (∀ b off, MemPlace.cell b off ∈ ps → (∃ c t, W.heap[b]? = some (.cells c t (0, 0))) ∧ ∀ u v, W.cell? ⟨b, off, none⟩ = some (.iface u v) → Value.okWide P W .any 0 u v) →
      ∃ ads : List Addr, ads.length = l.length ∧ ads.Nodup ∧ (∀ (i : Nat) (g : Nat) (a : Addr), gs[i]? = some g → ads[i]? = some a → ErrAt W tp g a) ∧ ∀ a ∈ ads, a.spot = none ∧ MemPlace.cell a.block a.off ∈ ps
  | [], [], _, _, _, _, _, _ => ⟨[], rfl, List.nodup_nil, (fun i g a h => by simp at h), fun a h => by cases h⟩
  | (n, x) :: l, g :: gs, hlen, hg, ps, hv, hnd, hrows => by
    obtain ⟨g0, t0, cs0, f0, p0, q0, hg0, ht0, hv0, hd0, hq, rfl⟩ := hv
    obtain ⟨g', hgg, hgn, hgt⟩ := hg 0 n x rfl
    obtain rfl : g = g' := by simpa using hgg
    obtain rfl := Option.some.inj (hgn.symm.trans hg0)
    obtain rfl := Option.some.inj (hgt.symm.trans ht0)
    obtain ⟨ms, hi⟩ := T.iface
    obtain ⟨f, hf1, hf2, hf3⟩ := T.str
    obtain ⟨l0⟩ := cs0
    have ok0 : ∀ u v, l0 = [.iface u v] → Value.okWide P W .any 0 u v := fun u v e => by
      subst e
      exact (hrows g 0 (by simp [MemPlace.row])).2 u v (by simpa using World.var?_cell hg0 hv0 0)
    obtain ⟨a0, s0, rfl, hc0, _, _, rfl⟩ := errorString_of_trod hi T.uniq T.ptr hf1 hf2 hf3 T.string T.ce T.cs hd0 ok0
    have hnd' : q0.Nodup := List.Nodup.sublist (List.sublist_append_right _ _) hnd
    obtain ⟨ads, hl, hn, hall, hin⟩ := laid_errs T (l := l) (gs := gs) (by simpa using hlen) (fun i n x h => hg (i + 1) n x (by simpa using h)) hq hnd' (fun b off h => hrows b off (List.mem_append_right _ h))
    have hs0 : a0.spot = none := World.cell?_spot hc0
    have hrow := (hrows a0.block a0.off (by simp [MemPlace.row])).1
    refine ⟨a0 :: ads, by simp [hl], List.nodup_cons.2 ⟨fun hm => ?_, hn⟩, ?_, ?_⟩
    · have h1 := (hin a0 hm).2
      exact (List.nodup_append.1 hnd).2.2 _ (by simp [MemPlace.row]) _ h1 rfl
    · intro i g1 a hgi hai
      cases i with
      | zero =>
        simp at hgi hai
        subst hgi; subst hai
        exact ⟨by simpa using World.var?_cell hg0 hv0 0, hrow, s0, hc0⟩
      | succ i => exact hall i g1 a (by simpa using hgi) (by simpa using hai)
    · intro a ha
      rcases List.mem_cons.1 ha with rfl | ha
      · exact ⟨hs0, by simp [MemPlace.row]⟩
      · exact ⟨(hin a ha).1, List.mem_append_right _ (hin a ha).2⟩

/-- The sentinels of the variables gs lie at ads, no two at one place. -/
structure Errs (w : World) (tp : TypeId) (gs : List Nat) (ads : List Addr) : Prop where
  len : ads.length = gs.length
  nodup : ads.Nodup
  all : ∀ (i : Nat) (g : Nat) (a : Addr), gs[i]? = some g → ads[i]? = some a → ErrAt w tp g a
theorem Errs.below {w w' : World} {tp : TypeId} {gs : List Nat} {ads : List Addr} (h : Errs w tp gs ads) {B : Nat} (hb : Below B w w') (hB : w.heap.size ≤ B) : Errs w' tp gs ads :=
  ⟨h.len, h.nodup, fun i g a h1 h2 => (h.all i g a h1 h2).below hb hB⟩
theorem errs_of_laid {P : Program} {W : World} {ti tp te ts : TypeId} (T : ErrTypes P ti tp te ts) {rest : List (String × DataW Unit)} (l : List (String × List UInt8)) (gs : List Nat) (hlen : gs.length = l.length)
    (hg : ((l.zip gs).all fun x => P.globalNamed x.1.1 == some x.2 && (P.globals[x.2]?).map (·.type) == some ti) = true) (h : laidMet P (l.map (fun x => (x.1, errD x.2)) ++ rest) W) : ∃ ads, Errs W tp gs ads := by
  obtain ⟨ps, hv, hnd, hrows⟩ := h
  obtain ⟨ads, h1, h2, h3, _⟩ := laid_errs T (l := l) (gs := gs) hlen (fun i n x hi => by
    have hlt := (List.getElem?_eq_some_iff.1 hi).1
    have hgi : gs[i]? = some gs[i] := List.getElem?_eq_getElem (by omega)
    have hm : ((n, x), gs[i]) ∈ l.zip gs := by
      refine List.mem_iff_getElem?.2 ⟨i, ?_⟩
      rw [List.getElem?_zip_eq_some]
      exact ⟨hi, hgi⟩
    have := List.all_eq_true.1 hg _ hm
    simp only [Bool.and_eq_true, beq_iff_eq] at this
    exact ⟨gs[i], hgi, this.1, this.2⟩) hv hnd hrows
  exact ⟨ads, by omega, h2, h3⟩
theorem rest_of_laid {P : Program} {W : World} : ∀ (l : List (String × DataW Unit)) {rest : List (String × DataW Unit)}, laidMet P (l ++ rest) W → laidMet P rest W
  | [], _, h => h
  | _ :: l, _, h => rest_of_laid l h.tail

theorem errTypes : ErrTypes Tryz.prog 33 213 215 9 where
  iface := ⟨_, Tryz.underlying33⟩
  uniq := fun u h => typeName_ptr_named (nm := "errors.errorString") (by rw [show "*" ++ "errors.errorString" = "*errors.errorString" by decide]; kernel_rfl) (by kernel_rfl) (by decide) u (by rw [show "*" ++ "errors.errorString" = "*errors.errorString" by decide]; exact h)
  ptr := Tryz.underlying213
  str := ⟨_, Tryz.underlying215, rfl, rfl⟩
  string := Tryz.underlying9
  ce := by kernel_rfl
  cs := by kernel_rfl

theorem own : ownKnob Tryz.prog.godebug = none := by kernel_rfl
theorem laidOut : laidOutB Tryz.prog = true := by kernel_rfl

/-- The size of the heap that the program begins with. -/
noncomputable def low : Nat := (World.holding Tryz.prog default ⟨#[], #[], []⟩).heap.size
end Go.Proofs.YtjababmmcejgdaaGreatDoor
namespace Go.Proofs.YtjababmmcejgdaaGreatDoor
open Go.ChangeShapes Go.WideShapes Go.ChangeAt Go.RowKit
open Go.ChangeMaps (open_string shut_string)

theorem wf_u8 {z : Int} (h : (Lit.int .u8 z).wf = true) : 0 ≤ z ∧ z < 256 := by
  have := bounds_u8 h
  omega
theorem wf_byte {z : Int} (h : (Lit.int .u8 z).wf = true) : ∃ x : UInt8, z = (x.toNat : Int) := by
  have hb := wf_u8 h
  refine ⟨UInt8.ofNat z.toNat, ?_⟩
  rw [UInt8.toNat_ofNat', Nat.mod_eq_of_lt (by omega)]
  omega
theorem wf_i64 {z : Int} (h : (Lit.int .i64 z).wf = true) : -9223372036854775808 ≤ z ∧ z ≤ 9223372036854775807 := by
  have := bounds_i64 h
  omega

/-- A byte slice that came in. -/
structure InBytes (w : World) (A : Option Addr) (n c : Nat) (l : List UInt8) : Prop where
  bytes : Bytes w w.heap.size A n l
  nn : A = none → n = 0 ∧ c = 0
  cap : n ≤ c
  most : c ≤ maxLen

theorem open_bytes {H : Type} {enc : TypeId × Value → H} {P : Program} {W : World} {t e : TypeId} {a : Option Addr} {len cap : Nat} {d : DataW H} {ps : List MemPlace}
    (ht : P.underlying t = some (.slice e)) (he : P.underlying e = some (.int .u8)) (hc : P.cellsOf e = 1)
    (h : DataW.Trod enc P W 0 (fun _ => true) true t (.slice a len cap) d ps) : ∃ l, InBytes W a len cap l := by
  obtain ⟨fuel, hf⟩ := h
  rcases open_ints ht he hc hf with ⟨hcs, _⟩ | ⟨x, l, c, zs, hcs, _, hl, hm, hz, _, hcell, hwz⟩
  · simp [Value.cells] at hcs
    obtain ⟨rfl, rfl, rfl⟩ := hcs
    exact ⟨[], Bytes.nil _ _ _, fun _ => ⟨rfl, rfl⟩, Nat.le_refl _, by simp [maxLen]⟩
  · simp [Value.cells] at hcs
    obtain ⟨rfl, rfl, rfl⟩ := hcs
    have hz' : zs.length = cap := by simpa using hz
    have hb : ∀ i, i < zs.length → ((UInt8.ofNat (zs.getD i 0).toNat).toNat : Int) = zs.getD i 0 := by
      intro i hi
      have hwi := wf_u8 (hwz (zs.getD i 0) (by simp [List.getD, List.getElem?_eq_getElem hi]))
      rw [UInt8.toNat_ofNat', Nat.mod_eq_of_lt (by omega)]
      omega
    refine ⟨(zs.take len).map fun z => UInt8.ofNat z.toNat, ⟨by simp; omega, fun h0 => ?_⟩, (fun h => by cases h), hl, hm⟩
    have hc0 := hcell 0 (by omega)
    obtain ⟨b, off, spot⟩ := x
    obtain rfl : spot = none := by simpa [Addr.add] using World.cell?_spot hc0
    have hlt : b < W.heap.size := by
      have : W.cell? ⟨b, off, none⟩ = some (.int .u8 (zs.getD 0 0)) := by simpa [Addr.add] using hc0
      rcases Nat.lt_or_ge b W.heap.size with h' | h'
      · exact h'
      · simp [World.cell?, Array.getElem?_eq_none h'] at this
    refine ⟨b, off, rfl, hlt, fun k v hv => ?_⟩
    have hk : k < len := by
      have := (List.getElem?_eq_some_iff.1 hv).1
      simp at this; omega
    have hkz : k < zs.length := by omega
    rw [← addr_add b off k, hcell k hkz]
    simp only [List.map_map, List.getElem?_map, List.getElem?_take, if_pos hk, List.getElem?_eq_getElem hkz, Option.map_some, Option.some.injEq] at hv
    rw [← hv]
    have := hb k hkz
    simp only [List.getD, List.getElem?_eq_getElem hkz, Option.getD_some, Function.comp, bv] at this ⊢
    rw [this]
end Go.Proofs.YtjababmmcejgdaaGreatDoor
namespace Go.Proofs.YtjababmmcejgdaaGreatDoor
open Go.RowKit

section
variable {α : Type} {κ : Cs α} {w w' : World} {base n c : Nat} {e : TypeId} {A : Option Addr} {l : List α}
theorem OwnK.block (h : OwnK κ w base e A n c l) {a : Addr} (ha : A = some a) : base ≤ a.block ∧ a.block < w.heap.size := by
  rcases h.2.2 with ⟨hv, h0⟩ | ⟨g, cap, cur, hv, hg, hh, _⟩
  · injection hv with h1; subst h1; cases ha
  · injection hv with h1
    subst h1
    obtain rfl := Option.some.inj ha
    exact ⟨hg, blk_lt hh⟩
/-- Kept, where what changes is another block. -/
theorem OwnK.kept (h : OwnK κ w base e A n c l) {row : Option Nat} (hg : w.grownBy w' row) (hne : ∀ a, A = some a → row ≠ some a.block) : OwnK κ w' base e A n c l :=
  ⟨h.1, World.ownsRow.kept h.2 hg (by
    rcases h.2.2 with ⟨hv, h0⟩ | ⟨g, cap, cur, hv, _⟩
    · injection hv with h1; subst h1; exact .inl rfl
    · injection hv with h1
      subst h1
      exact .inr (fun e => hne _ rfl e.symm))⟩
/-- Where an append goes: its block, or a new one. -/
theorem grew_block {A' : Option Addr} {n' c' : Nat} (h : Grew w w' (.slice A n c) (.slice A' n' c')) {κ' : Cs α} {l' : List α} {base' : Nat} (ho : OwnK κ' w' base' e A' n' c' l') {a' : Addr} (ha : A' = some a') :
    (∃ a, A = some a ∧ a.block = a'.block) ∨ w.heap.size ≤ a'.block := by
  have key : (Value.slice A' n' c').ownBlock = some a'.block := by
    rcases ho.2.2 with ⟨hv, h0⟩ | ⟨g, cap, cur, hv, _⟩
    · injection hv with h1; subst h1; cases ha
    · injection hv with h1; subst h1; obtain rfl := Option.some.inj ha; rfl
  rcases h.block _ key with h1 | h1
  · refine .inl ?_
    cases A with
    | none => cases h1
    | some a =>
      exact ⟨a, rfl, Option.some.inj h1⟩
  · exact .inr h1
end
section
variable {α : Type} {κ : Cs α} {P : Program}
theorem step_append_k {ops : Array Oper} {o : Oper} {a : Act} {K : Act → World → Prop} {Q : Exit → Act → World → Prop} {E : Prop} (hgd : o.guard = none) (s x : Operand) (t e : TypeId) (i : TypeInfo) (z : Value) (bytes : Nat)
    (ht : P.underlying t = some (.slice e)) (hi : P.info? e = some i) (hz : i.zero = some z) (hsize : i.size = κ.k) (hby : i.bytes = bytes) (hzs : z.cells.size = κ.k)
    (ho : o.op = .call { callee := .builtin .append, args := #[s, x], argTypes := #[t, t] })
    (w : World) (base B : Nat) (A : Option Addr) (n c : Nat) (l : List α) (ad : Addr) (v : α) (hs : a.eval s = .slice A n c) (hown : OwnK κ w base e A n c l)
    (hx : a.eval x = .slice (some ad) 1 1) (hr : KRow κ w B (some ad) 1 [v]) (hn : n ≤ 1000000) (hb : bytes ≤ 1000) (hbase : base ≤ w.heap.size)
    (h : ∀ A' c' w', OwnK κ w' base e A' (n + 1) c' (l ++ [v]) → Grew w w' (.slice A n c) (.slice A' (n + 1) c') → K (a.put o.dst (.slice A' (n + 1) c')) w') :
    if Region.wanted o (yielded ops a.tmps) = true then Oper.wp P o a w K Q else E := by
  have hw : Region.wanted o (yielded ops a.tmps) = true := by simp [Region.wanted, hgd]
  rw [if_pos hw]
  obtain ⟨b, off, he, _, hc⟩ := hr.2 (by omega)
  obtain rfl := Option.some.inj he
  have hbb : (n + 1) * bytes ≤ 140737488355328 := Nat.le_trans (Nat.mul_le_mul (Nat.succ_le_succ hn) hb) (by decide)
  obtain ⟨v', w', hrun, h1, h2, _, h3⟩ := Go.run_append_own_at (P := P) (w := w) base t o.type e i z κ.k bytes ht hi hz hsize hby hzs hown.1 (.slice A n c) n (l.flatMap κ.cs) hown.2 ⟨b, off, none⟩ 1 1 ([v].flatMap κ.cs) hr.1 (fun j u hu => (congrArg w.cell? (addr_add b off j)).trans (hc j u hu)) (Cs.flat_one κ [v]) (by unfold maxLen; omega) hbb hbase
  obtain ⟨A', c', rfl, _⟩ := own_form h1
  unfold Oper.wp execOp
  simp only [ho, resolve, invoke, builtin, Sem.run_bind, Sem.run_pure, Result.andThen_ok, List.map_toArray, List.map_cons, List.map_nil, hs, hx, hrun]
  refine h A' c' w' ⟨hown.1, by rw [List.flatMap_append]; exact h1⟩ ⟨h2, fun g hg => ?_⟩
  rcases h3 with h3 | h3
  · exact .inl (h3.symm.trans hg)
  · rw [h3] at hg
    obtain rfl := Option.some.inj hg
    exact .inr (Nat.le_refl _)
theorem append_k {ops : Array Oper} {rest : List Oper} {o : Oper} {a : Act} {Q : Exit → Act → World → Prop} (hgd : o.guard = none) (s x : Operand) (t e : TypeId) (i : TypeInfo) (z : Value) (bytes : Nat)
    (ht : P.underlying t = some (.slice e)) (hi : P.info? e = some i) (hz : i.zero = some z) (hsize : i.size = κ.k) (hby : i.bytes = bytes) (hzs : z.cells.size = κ.k)
    (ho : o.op = .call { callee := .builtin .append, args := #[s, x], argTypes := #[t, t] })
    (w : World) (base B : Nat) (A : Option Addr) (n c : Nat) (l : List α) (ad : Addr) (v : α) (hs : a.eval s = .slice A n c) (hown : OwnK κ w base e A n c l)
    (hx : a.eval x = .slice (some ad) 1 1) (hr : KRow κ w B (some ad) 1 [v]) (hn : n ≤ 1000000) (hb : bytes ≤ 1000) (hbase : base ≤ w.heap.size)
    (h : ∀ A' c' w', OwnK κ w' base e A' (n + 1) c' (l ++ [v]) → Grew w w' (.slice A n c) (.slice A' (n + 1) c') → wpList P ops Q rest (a.put o.dst (.slice A' (n + 1) c')) w') :
    wpList P ops Q (o :: rest) a w := by
  have hbb : (n + 1) * bytes ≤ 140737488355328 := Nat.le_trans (Nat.mul_le_mul (Nat.succ_le_succ hn) hb) (by decide)
  refine append_row hgd s x t ho e i z κ.k bytes ht hi hz hsize hby hzs hown.1 base _ n (l.flatMap κ.cs) hs hown.2 B (some ad) 1 1 ([v].flatMap κ.cs) hx (fun h => by cases h) hr (Cs.flat_one κ [v]) (by unfold maxLen; omega) hbb hbase fun v' w' h1 h2 h3 => ?_
  obtain ⟨A', c', rfl, _⟩ := own_form h1
  refine h A' c' w' ⟨hown.1, by rw [List.flatMap_append]; exact h1⟩ ⟨h2, fun g hg => ?_⟩
  rcases h3 with h3 | h3
  · exact .inl (h3.symm.trans hg)
  · rw [h3] at hg
    obtain rfl := Option.some.inj hg
    exact .inr (Nat.le_refl _)
end
end Go.Proofs.YtjababmmcejgdaaGreatDoor
