/- Mathematics of package cond: the words of a text, the condition that they tell, what it comes to. An error as the document's number, by whatever sentinels a row lists; rows that are kept. The sentinels that package frame tells, by whatever sentinels a row lists. Rows of structs in memory, of whatever width. Variables in memory: rows of four cells each. Walks of package vars: what is amiss with variables. -/
import Derived.Test.YtlmlhjepolefaaaGreatDoorYTokenChoices1
import Derived.Test.YtlmlhjepolefaaaGreatDoorSeeY
import Derived.Test.YtlmlhjepolefaaaGreatDoorVnY
namespace Go.Proofs.YtlmlhjepolefaaaGreatDoor
open Go.RowKit

namespace Co
/-- Where a parser stands: its word, from where till where; its first error, and the place. -/
structure St where
  kind : Nat
  frm : Nat
  till : Nat
  err : Option (Int × Nat)

def digit (c : UInt8) : Bool := decide (48 ≤ c.toNat) && decide (c.toNat ≤ 57)
def ofWord (c : UInt8) : Bool := (decide (97 ≤ c.toNat) && decide (c.toNat ≤ 122)) || digit c || decide (c.toNat = 95)
def blank (c : UInt8) : Bool := decide (c.toNat = 32)
def inText (c : UInt8) : Bool := decide (32 ≤ c.toNat) && decide (c.toNat ≤ 126) && !decide (c.toNat = 34)
/-- The first place from k on that is not so. -/
def ends (p : UInt8 → Bool) (l : List UInt8) (k : Nat) : Nat := k + ((l.drop k).takeWhile p).length
theorem takeWhile_len {p : UInt8 → Bool} : ∀ (l : List UInt8) (n : Nat), n ≤ l.length → (∀ j, j < n → p l[j]! = true) → (n = l.length ∨ p l[n]! = false) → (l.takeWhile p).length = n
  | [], n, hn, _, _ => by simp at hn; simp [hn]
  | c :: l, 0, _, _, h => by
    rcases h with h | h
    · simp at h
    · simp only [List.getElem!_cons_zero] at h
      simp [h]
  | c :: l, n + 1, hn, ha, h => by
    have h0 : p c = true := by simpa using ha 0 (by omega)
    have := takeWhile_len l n (by simpa using hn) (fun j hj => by simpa using ha (j + 1) (by omega)) (by simpa using h)
    simp [h0, this]
theorem ends_eq {p : UInt8 → Bool} {l : List UInt8} {k m : Nat} (hk : k ≤ m) (hm : m ≤ l.length) (ha : ∀ j, k ≤ j → j < m → p l[j]! = true) (h : m = l.length ∨ p l[m]! = false) : ends p l k = m := by
  unfold ends
  have hd : ∀ j, (l.drop k)[j]! = l[k + j]! := fun j => by simp [List.getElem!_eq_getElem?_getD]
  rw [takeWhile_len (l.drop k) (m - k) (by simp; omega) (fun j hj => by rw [hd]; exact ha _ (by omega) (by omega))
    (by rcases h with h | h
        · left; simp; omega
        · right; rw [hd, show k + (m - k) = m from by omega]; exact h)]
  omega

/-- What a word of letters, digits and _ is. -/
def kindOf (t : List UInt8) : Nat :=
  if t = [111, 114] ∨ t = [97, 110, 100] ∨ t = [110, 111, 116] then 6
  else if t = [116, 114, 117, 101] ∨ t = [102, 97, 108, 115, 101] then 4
  else if t.length ≤ 9 ∧ t.all digit = true then 2
  else if digit t[0]! = false ∧ t[0]! ≠ 95 ∧ Vr.name t = true then 5 else 0
def marks : List UInt8 := [40, 41, 60, 62, 43, 45, 42, 47, 37]
def markLen (t : List UInt8) : Nat :=
  if 1 < t.length ∧ t[1]! = 61 ∧ ([61, 33, 60, 62] : List UInt8).contains (t[0]!) = true then 2
  else if marks.contains (t[0]!) = true then 1 else 0
/-- The word that begins there: what it is, from where till where. -/
def textAt (l : List UInt8) (k : Nat) : Nat × Nat × Nat :=
  if ends inText l (k + 1) < l.length ∧ l[ends inText l (k + 1)]! = 34 then (3, k, ends inText l (k + 1) + 1) else (0, k, k)
def wordAt (l : List UInt8) (k : Nat) : Nat × Nat × Nat :=
  if k = l.length then (1, k, k)
  else if ofWord l[k]! = true then (kindOf ((l.drop k).take (ends ofWord l k - k)), k, ends ofWord l k)
  else if l[k]! = 34 then textAt l k
  else if markLen (l.drop k) = 0 then (0, k, k) else (6, k, k + markLen (l.drop k))

def next (l : List UInt8) (st : St) : St :=
  if st.err.isSome = true then st else ⟨(wordAt l (ends blank l st.till)).1, (wordAt l (ends blank l st.till)).2.1, (wordAt l (ends blank l st.till)).2.2, none⟩
def fail (c : Int) (st : St) : St := if st.err.isSome = true then st else ⟨0, st.frm, st.till, some (c, st.frm)⟩
def text (l : List UInt8) (st : St) : List UInt8 := (l.drop st.frm).take (st.till - st.frm)
def isM (l : List UInt8) (st : St) (m : List UInt8) : Bool := decide (st.kind = 6) && decide (text l st = m)
def words : List (List UInt8) := [[], [], [], [111, 114], [97, 110, 100], [110, 111, 116], [61, 61], [33, 61], [60], [60, 61], [62], [62, 61], [43], [45], [42], [47], [37], [45]]
def opGo (l : List UInt8) (st : St) : Nat → Nat → Nat
  | 0, _ => 0
  | n + 1, a => if isM l st (words[a]!) = true then a else opGo l st n (a + 1)
/-- Which of the operators a to b stands there; 0: none. -/
def op (l : List UInt8) (st : St) (a b : Nat) : Nat := opGo l st (b + 1 - a) a

/-- A number's value. -/
def numOf (t : List UInt8) : Int := ((t.foldl (fun a c => a * 10 + (c.toNat - 48)) 0 : Nat) : Int)

/-- A condition. -/
inductive Tr where
  | leaf (op kind num : Int) (txt name : List UInt8)
  | one (op : Int) (a : Tr)
  | two (op : Int) (a b : Tr)
def Tr.none : Tr := .leaf 0 0 0 [] []
abbrev Out := Option (Tr × St)
def row (l : List UInt8) (part : St → Out) (a b : Nat) : Nat → Tr → St → Out
  | 0, _, _ => .none
  | f + 1, e, st => if op l st a b = 0 then some (e, st) else match part (next l st) with
    | .none => .none
    | some (r, st2) => row l part a b f (.two (op l st a b) e r) st2
def rowAll (l : List UInt8) (part : St → Out) (a b : Nat) (st : St) : Out := match part st with
  | .none => .none
  | some (e, st1) => row l part a b 60 e st1
def deeper (l : List UInt8) (part : Nat → St → Out) (d : Nat) (st : St) : Out :=
  if d = 12 then some (.none, fail 112 st) else part (d + 1) (next l st)
def compared (l : List UInt8) (part : St → Out) (st : St) : Out := match part st with
  | .none => .none
  | some (e, st1) => if op l st1 6 11 = 0 then some (e, st1) else match part (next l st1) with
    | .none => .none
    | some (r, st2) => some (.two (op l st1 6 11) e r, st2)
def under (l : List UInt8) (m : List UInt8) (o : Int) (part : Nat → St → Out) (other : St → Out) (d : Nat) (st : St) : Out :=
  if isM l st m = true then match deeper l part d st with
    | .none => .none
    | some (e, st1) => some (.one o e, st1)
  else other st
def behind (part : St → Out) (st : St) : Out := part (if st.kind = 3 ∨ st.kind = 4 then fail 111 st else st)
def single (l : List UInt8) (bracket : St → Out) (st : St) : Out :=
  if isM l st [40] = true then bracket st
  else if st.kind = 2 then if 1 ≤ (text l st).length ∧ (text l st).length ≤ 9 ∧ (text l st).all digit = true then some (.leaf 1 1 (numOf (text l st)) [] [], next l st) else .none
  else if st.kind = 3 then if 2 ≤ (text l st).length then some (.leaf 1 3 0 (((text l st).drop 1).take ((text l st).length - 2)) [], next l st) else .none
  else if st.kind = 4 then some (.leaf 1 2 (if text l st = [116, 114, 117, 101] then 1 else 0) [] [], next l st)
  else if st.kind = 5 then some (.leaf 2 0 0 [] (text l st), next l st)
  else some (.leaf 1 0 0 [] [], next l (fail 111 st))
def bracket (l : List UInt8) (part : Nat → St → Out) (d : Nat) (st : St) : Out := match deeper l part d st with
  | .none => .none
  | some (e, st1) => some (e, next l (if isM l st1 [41] = true then st1 else fail 111 st1))
/-- One part of the parser (0 to 9), by those beneath. -/
def step (l : List UInt8) (ih : Nat → Nat → St → Out) (which d : Nat) (st : St) : Out :=
  match which with
  | 0 => rowAll l (ih 1 d) 3 3 st
  | 1 => rowAll l (ih 2 d) 4 4 st
  | 2 => under l [110, 111, 116] 5 (ih 2) (ih 3 d) d st
  | 3 => compared l (ih 4 d) st
  | 4 => rowAll l (ih 5 d) 12 13 st
  | 5 => rowAll l (ih 6 d) 14 16 st
  | 6 => under l [45] 17 (ih 7) (ih 8 d) d st
  | 7 => behind (ih 6 d) st
  | 8 => single l (ih 9 d) st
  | _ => bracket l (ih 0) d st
def parts (l : List UInt8) : Nat → Nat → Nat → St → Out
  | 0 => fun _ _ _ => .none
  | f + 1 => step l (parts l f)
def parse (l : List UInt8) : Option (Tr × Option (Int × Nat)) :=
  if 80 < l.length then some (.none, some (105, 80))
  else match parts l 140 0 0 (next l ⟨0, 0, 0, .none⟩) with
    | .none => .none
    | some (e, st) => match (if st.kind = 1 then st else fail 111 st).err with
      | some x => some (.none, some x)
      | .none => some (e, .none)
end Co
end Go.Proofs.YtlmlhjepolefaaaGreatDoor
namespace Go.Proofs.YtlmlhjepolefaaaGreatDoor
open Go.RowKit

/-- What an error is seen as: none, or a sentinel's number; E: where the sentinel of a number lies. -/
inductive SeenBy (E : Int → Option Addr) : Value → Int → Prop
  | nil : SeenBy E .nilIface 0
  | err (c : Int) (a : Addr) (h : E c = some a) (hc : c ≠ 0) : SeenBy E (errV a) c
theorem seen_not {E : Int → Option Addr} {ev : Value} {e : Int} (h : SeenBy E ev e) (he : e ≠ 0) : ∃ a, ev = errV a := by
  cases h with
  | nil => exact absurd rfl he
  | err k a h => exact ⟨a, rfl⟩
theorem seen_nil {E : Int → Option Addr} {ev : Value} (h : SeenBy E ev 0) : ev = .nilIface := by
  generalize he : (0 : Int) = e at h
  cases h with
  | nil => rfl
  | err k a h hc => exact absurd he.symm hc
theorem seen_err {E : Int → Option Addr} {ev : Value} {e : Int} (h : SeenBy E ev e) (he : e ≠ 0) : ∃ a, ev = errV a ∧ E e = some a := by
  cases h with
  | nil => exact absurd rfl he
  | err k a h => exact ⟨a, rfl, h⟩
/-- The sentinel of the number c is in variable g. -/
def ErrIn (W : World) (E : Int → Option Addr) (c : Int) (g : Nat) : Prop := ∃ a, E c = some a ∧ W.cell? ⟨g, 0, none⟩ = some (errV a)
theorem ErrIn.below {W w : World} {E : Int → Option Addr} {c : Int} {g : Nat} (h : ErrIn W E c g) (hb : Below W.heap.size W w) : ErrIn w E c g := by
  obtain ⟨a, h1, h2⟩ := h
  exact ⟨a, h1, (hb.cell (p := ⟨g, 0, none⟩) (cell_lt h2)).trans h2⟩
theorem errIn_of {W : World} {E : Int → Option Addr} {gs : List Nat} {ads : List Addr} (hE : Errs W 185 gs ads) (c : Int) (i g : Nat) (hg : gs[i]? = some g) (hc : E c = ads[i]?) : ErrIn W E c g := by
  have hi : i < ads.length := by rw [hE.len]; exact (List.getElem?_eq_some_iff.1 hg).1
  have ha : ads[i]? = some ads[i] := List.getElem?_eq_getElem hi
  exact ⟨ads[i], hc.trans ha, (hE.all i g _ hg ha).var⟩

theorem rowS_kept {w w' : World} {n sz : Nat} {A : Option Addr} {l : List Value} {row : Option Nat} (h : RowS w w.heap.size sz A n l) (hg : w.grownBy w' row) (ha : 0 < n → ∀ a, A = some a → row ≠ some a.block) : RowS w' w'.heap.size sz A n l := by
  refine ⟨h.1, fun hn => ?_⟩
  obtain ⟨b, off, rfl, hlt, hc⟩ := h.2 hn
  refine ⟨b, off, rfl, Nat.lt_of_lt_of_le hlt hg.size, fun k v hv => ?_⟩
  exact (World.cell?_of_block (a := ⟨b, off + k, none⟩) (hg.block b hlt (fun e => ha hn _ rfl e.symm))).trans (hc k v hv)
theorem bytes_kept {w w' : World} {n : Nat} {A : Option Addr} {l : List UInt8} {row : Option Nat} (h : Bytes w w.heap.size A n l) (hg : w.grownBy w' row) (ha : 0 < n → ∀ a, A = some a → row ≠ some a.block) : Bytes w' w'.heap.size A n l := rowS_kept h hg ha
end Go.Proofs.YtlmlhjepolefaaaGreatDoor
namespace Go.Proofs.YtlmlhjepolefaaaGreatDoor
open Go.RowKit

structure FrErrs (W : World) (E : Int → Option Addr) : Prop where
  e101 : ErrIn W E 101 3
  e102 : ErrIn W E 102 4
  e103 : ErrIn W E 103 5
  e105 : ErrIn W E 105 6
  row : ∀ c a, E c = some a → ∃ cs t, W.heap[a.block]? = some (.cells cs t (0, 0))
  inj : ∀ c d a, E c = some a → E d = some a → c = d
theorem FrErrs.below {W w : World} {E : Int → Option Addr} (h : FrErrs W E) (hb : Below W.heap.size W w) : FrErrs w E :=
  ⟨h.e101.below hb, h.e102.below hb, h.e103.below hb, h.e105.below hb, (fun c a ha => by
    obtain ⟨cs, t, hr⟩ := h.row c a ha
    refine ⟨cs, t, (hb.block a.block ?_).trans hr⟩
    rcases Nat.lt_or_ge a.block W.heap.size with h' | h'
    · exact h'
    · rw [Array.getElem?_eq_none h'] at hr; cases hr), h.inj⟩

/-- Where the sentinel of a number lies, by its place in the row. -/
def errMap (pos : Int → Nat) (ads : List Addr) (c : Int) : Option Addr := ads[pos c]?
theorem errMap_inj {pos : Int → Nat} {W : World} {gs : List Nat} {ads : List Addr} (hE : Errs W 185 gs ads) (hp : ∀ c d, pos c < gs.length → pos c = pos d → c = d) :
    ∀ c d a, errMap pos ads c = some a → errMap pos ads d = some a → c = d := by
  intro c d a h1 h2
  unfold errMap at h1 h2
  obtain ⟨hc, e1⟩ := List.getElem?_eq_some_iff.1 h1
  obtain ⟨hd, e2⟩ := List.getElem?_eq_some_iff.1 h2
  exact hp c d (by rw [← hE.len]; exact hc) ((List.getElem_inj hE.nodup).1 (e1.trans e2.symm))
theorem errMap_row {pos : Int → Nat} {W : World} {gs : List Nat} {ads : List Addr} (hE : Errs W 185 gs ads) :
    ∀ c a, errMap pos ads c = some a → ∃ cs t, W.heap[a.block]? = some (.cells cs t (0, 0)) := by
  intro c a h
  unfold errMap at h
  obtain ⟨hc, _⟩ := List.getElem?_eq_some_iff.1 h
  exact (hE.all _ _ a (List.getElem?_eq_getElem (by rw [← hE.len]; exact hc)) h).row
def pos4 (c : Int) : Nat := if c = 101 then 0 else if c = 102 then 1 else if c = 103 then 2 else if c = 105 then 3 else 1000
def pos16 (c : Int) : Nat := if 101 ≤ c then (c - 101).toNat else 1000
theorem pos4_inv {c : Int} (h : pos4 c < 4) : c = [101, 102, 103, 105].getD (pos4 c) 0 := by
  by_cases h1 : c = 101
  · subst h1; rfl
  · by_cases h2 : c = 102
    · subst h2; rfl
    · by_cases h3 : c = 103
      · subst h3; rfl
      · by_cases h4 : c = 105
        · subst h4; rfl
        · simp [pos4, h1, h2, h3, h4] at h
theorem frErrs4 {W : World} {ads : List Addr} (hE : Errs W 185 [3, 4, 5, 6] ads) : FrErrs W (errMap pos4 ads) where
  e101 := errIn_of hE 101 0 _ rfl rfl
  e102 := errIn_of hE 102 1 _ rfl rfl
  e103 := errIn_of hE 103 2 _ rfl rfl
  e105 := errIn_of hE 105 3 _ rfl rfl
  row := errMap_row hE
  inj := errMap_inj hE fun c d h1 h2 => by
    have hc : c = [101, 102, 103, 105].getD (pos4 c) 0 := pos4_inv h1
    have hd : d = [101, 102, 103, 105].getD (pos4 d) 0 := pos4_inv (h2 ▸ h1)
    rw [hc, hd, h2]
theorem frErrs16 {W : World} {ads : List Addr} (hE : Errs W 185 sents ads) : FrErrs W (errMap pos16 ads) where
  e101 := errIn_of hE 101 0 _ rfl rfl
  e102 := errIn_of hE 102 1 _ rfl rfl
  e103 := errIn_of hE 103 2 _ rfl rfl
  e105 := errIn_of hE 105 4 _ rfl rfl
  row := errMap_row hE
  inj := errMap_inj hE fun c d h1 h2 => by
    unfold pos16 at h1 h2
    have h1 : (if 101 ≤ c then (c - 101).toNat else 1000) < 16 := h1
    by_cases k1 : 101 ≤ c
    · rw [if_pos k1] at h1 h2
      by_cases k2 : 101 ≤ d
      · rw [if_pos k2] at h2; omega
      · rw [if_neg k2] at h2; omega
    · rw [if_neg k1] at h1; omega
theorem seenAs_of {W : World} {ads : List Addr} {ev : Value} {c : Int} (hE : Errs W 185 sents ads) (h : SeenBy (errMap pos16 ads) ev c) : SeenAs ads ev c := by
  have hl := sents_row hE
  cases h with
  | nil => exact .nil
  | err c a h hc =>
    unfold errMap pos16 at h
    split at h
    · rename_i h1
      have := SeenAs.err (ads := ads) (c - 101).toNat a h
      rwa [show (101 : Int) + ((c - 101).toNat : Nat) = c from by omega] at this
    · rw [List.getElem?_eq_none (by omega)] at h; cases h
end Go.Proofs.YtlmlhjepolefaaaGreatDoor
namespace Go.Proofs.YtlmlhjepolefaaaGreatDoor
open Go.RowKit

/-- How a struct lies: k cells. -/
structure Cs (α : Type) where
  k : Nat
  cs : α → List Value
  len : ∀ x, (cs x).length = k
  one : ∀ x, ∀ u ∈ cs x, u.oneCell' = true
section
variable {α : Type} (κ : Cs α)
theorem Cs.flat_len (l : List α) : (l.flatMap κ.cs).length = l.length * κ.k := by
  induction l with
  | nil => simp
  | cons y l ih => rw [List.flatMap_cons, List.length_append, List.length_cons, ih, κ.len, Nat.succ_mul, Nat.add_comm]
theorem Cs.flat_at : ∀ (l : List α) (j i : Nat) (hj : j < l.length), i < κ.k → (l.flatMap κ.cs)[j * κ.k + i]? = (κ.cs l[j])[i]?
  | y :: l, 0, i, _, hi => by
    rw [List.flatMap_cons, List.getElem?_append_left (by rw [κ.len]; omega)]
    simp
  | y :: l, j + 1, i, hj, hi => by
    rw [List.flatMap_cons, List.getElem?_append_right (by rw [κ.len, Nat.succ_mul]; omega)]
    have := Cs.flat_at l j i (by simpa using hj) hi
    rw [show (j + 1) * κ.k + i - (κ.cs y).length = j * κ.k + i from by rw [κ.len, Nat.succ_mul]; omega, this]
    simp
theorem Cs.flat_one (l : List α) : ∀ u ∈ l.flatMap κ.cs, u.oneCell' = true := by
  intro u hu
  obtain ⟨v, _, hv⟩ := List.mem_flatMap.1 hu
  exact κ.one v u hv
/-- A slice of them. -/
def KRow (w : World) (B : Nat) (A : Option Addr) (n : Nat) (l : List α) : Prop := RowS w B κ.k A n (l.flatMap κ.cs)
/-- One of one's own. -/
def OwnK (w : World) (base : Nat) (e : TypeId) (A : Option Addr) (n c : Nat) (l : List α) : Prop := 0 < κ.k ∧ w.ownsRow base e κ.k (.slice A n c) n (l.flatMap κ.cs)
end
section
variable {α : Type} {κ : Cs α} {w w' : World} {B B' n : Nat} {A : Option Addr} {l : List α}
theorem KRow.len (h : KRow κ w B A n l) (hk : 0 < κ.k) : l.length = n := by
  have := h.1
  rw [Cs.flat_len] at this
  exact Nat.eq_of_mul_eq_mul_right hk this
theorem KRow.nil (w : World) (B : Nat) (A : Option Addr) : KRow κ w B A 0 [] := RowS.nil w B κ.k A
theorem KRow.below (h : KRow κ w B A n l) {b0 : Nat} (hb : Below b0 w w') (hB : B ≤ b0) : KRow κ w' B A n l := RowS.below h hb hB
theorem KRow.mono (h : KRow κ w B A n l) (hB : B ≤ B') : KRow κ w B' A n l := RowS.mono h hB
theorem KRow.at_ [Inhabited α] (h : KRow κ w B A n l) (hkp : 0 < κ.k) {j : Nat} (hj : j < n) :
    ∃ b off, A = some ⟨b, off, none⟩ ∧ b < B ∧ ∀ (i : Nat) (v : Value), (κ.cs l[j]!)[i]? = some v → w.cell? ⟨b, off + j * κ.k + i, none⟩ = some v := by
  have hl := h.len hkp
  have hjl : j < l.length := by omega
  obtain ⟨b, off, rfl, hb, hc⟩ := h.2 (by omega)
  rw [show l[j]! = l[j] from getElem!_pos l j hjl]
  refine ⟨b, off, rfl, hb, fun i v hv => ?_⟩
  have hi : i < κ.k := by
    have := List.getElem?_eq_some_iff.1 hv
    obtain ⟨h1, _⟩ := this
    rwa [κ.len] at h1
  have := hc (j * κ.k + i) v (by rw [Cs.flat_at κ l j i hjl hi]; exact hv)
  rwa [← Nat.add_assoc] at this
/-- The same for a place known. -/
theorem KRow.of [Inhabited α] {b off : Nat} (h : KRow κ w B (some ⟨b, off, none⟩) n l) (hkp : 0 < κ.k) {j : Nat} (hj : j < n) :
    ∀ (i : Nat) (v : Value), (κ.cs l[j]!)[i]? = some v → w.cell? ⟨b, off + j * κ.k + i, none⟩ = some v := by
  obtain ⟨b', off', he, _, h1⟩ := h.at_ hkp hj
  injection he with he
  injection he with e1 e2
  subst e1; subst e2
  exact h1
/-- One that was just laid. -/
theorem KRow.lit (w : World) (t : TypeId) (l : List α) (cs : Array Value) (hc : cs.toList = l.flatMap κ.cs) : KRow κ (w.alloc (.cells cs t)) (w.heap.size + 1) (some ⟨w.heap.size, 0, none⟩) l.length l := by
  refine ⟨Cs.flat_len κ l, fun _ => ⟨w.heap.size, 0, rfl, by omega, fun k v hk => ?_⟩⟩
  have := cell_of_row (w.alloc (.cells cs t)) w.heap.size k cs t (0, 0) (heap_alloc_new w _)
  rw [Nat.zero_add]
  rw [← hc] at hk
  exact this.trans (by simpa using hk)
end
section
variable {α : Type} {κ : Cs α} {w w' : World} {base n c : Nat} {e : TypeId} {A : Option Addr} {l : List α}
theorem OwnK.row (h : OwnK κ w base e A n c l) : KRow κ w w.heap.size A n l := RowS.own h.2
theorem OwnK.len (h : OwnK κ w base e A n c l) : l.length = n := h.row.len h.1
theorem OwnK.below (h : OwnK κ w base e A n c l) {B : Nat} (hb : Below B w w') (hB : w.heap.size ≤ B) : OwnK κ w' base e A n c l := ⟨h.1, own_below h.2 hb hB⟩
theorem OwnK.lower {base' : Nat} (h : OwnK κ w base e A n c l) (hb : base' ≤ base) : OwnK κ w base' e A n c l := ⟨h.1, own_base h.2 hb⟩
theorem OwnK.nn (h : OwnK κ w base e A n c l) : A = none → n = 0 ∧ c = 0 := by
  obtain ⟨A', c', he, hA⟩ := own_form h.2
  injection he with h1 h2 h3
  subst h1; subst h3
  exact hA
theorem OwnK.most (h : OwnK κ w base e A n c l) : c ≤ maxLen := by
  rcases h.2.2 with ⟨hv, h0⟩ | ⟨g, cap, cur, hv, _, _, _, hc, _⟩
  · injection hv with _ _ h3; subst h3; simp [maxLen]
  · injection hv with _ _ h3; omega
/-- One's own rows of unlike types do not lie in one block. -/
theorem OwnK.apart {β : Type} {κ' : Cs β} {base' n' c' : Nat} {e' : TypeId} {A' : Option Addr} {l' : List β} (h : OwnK κ w base e A n c l) (h' : OwnK κ' w base' e' A' n' c' l') (hne : e ≠ e') {a a' : Addr} (ha : A = some a) (ha' : A' = some a') : a.block ≠ a'.block := by
  intro hbl
  rcases h.2.2 with ⟨hv, h0⟩ | ⟨g, cap, cur, hv, _, hh, _⟩
  · injection hv with h1; subst h1; cases ha
  rcases h'.2.2 with ⟨hv', h0'⟩ | ⟨g', cap', cur', hv', _, hh', _⟩
  · injection hv' with h1; subst h1; cases ha'
  injection hv with h1
  injection hv' with h2
  subst h1; subst h2
  obtain rfl := Option.some.inj ha
  obtain rfl := Option.some.inj ha'
  have hbl : g = g' := hbl
  subst hbl
  rw [hh] at hh'
  injection hh' with hh'
  injection hh' with _ ht
  exact hne ht
end
end Go.Proofs.YtlmlhjepolefaaaGreatDoor
namespace Go.Proofs.YtlmlhjepolefaaaGreatDoor
open Go.RowKit

theorem flat4_len (l : List Vr.V) : (l.flatMap Vr.V.cells).length = l.length * 4 := by
  induction l with
  | nil => rfl
  | cons y l ih => simp only [List.flatMap_cons, List.length_append, List.length_cons, ih, Vr.V.cells_len]; omega
theorem flat4_at : ∀ (l : List Vr.V) (j i : Nat) (hj : j < l.length), i < 4 → (l.flatMap Vr.V.cells)[j * 4 + i]? = (l[j].cells)[i]?
  | y :: l, 0, i, _, hi => by
    rw [List.flatMap_cons, List.getElem?_append_left (by simp; omega)]
    simp
  | y :: l, j + 1, i, hj, hi => by
    rw [List.flatMap_cons, List.getElem?_append_right (by simp; omega)]
    have := flat4_at l j i (by simpa using hj) hi
    rw [show (j + 1) * 4 + i - y.cells.length = j * 4 + i from by simp; omega, this]
    simp
theorem flat4_one (l : List Vr.V) : ∀ u ∈ l.flatMap Vr.V.cells, u.oneCell' = true := by
  intro u hu
  obtain ⟨v, _, hv⟩ := List.mem_flatMap.1 hu
  simp only [Vr.V.cells, List.mem_cons, List.not_mem_nil, or_false] at hv
  rcases hv with rfl | rfl | rfl | rfl <;> rfl

/-- A slice of variables. -/
def VRow (w : World) (B : Nat) (A : Option Addr) (n : Nat) (l : List Vr.V) : Prop := RowS w B 4 A n (l.flatMap Vr.V.cells)
/-- One of one's own. -/
def OwnVars (w : World) (base : Nat) (e : TypeId) (A : Option Addr) (n c : Nat) (l : List Vr.V) : Prop := w.ownsRow base e 4 (.slice A n c) n (l.flatMap Vr.V.cells)
section
variable {w w' : World} {B B' n : Nat} {A : Option Addr} {l : List Vr.V}
theorem VRow.len (h : VRow w B A n l) : l.length = n := by
  have := h.1
  rw [flat4_len] at this
  omega
theorem VRow.nil (w : World) (B : Nat) (A : Option Addr) : VRow w B A 0 [] := RowS.nil w B 4 A
theorem VRow.below (h : VRow w B A n l) {b0 : Nat} (hb : Below b0 w w') (hB : B ≤ b0) : VRow w' B A n l := RowS.below h hb hB
theorem VRow.mono (h : VRow w B A n l) (hB : B ≤ B') : VRow w B' A n l := RowS.mono h hB
theorem VRow.drew (h : VRow w B A n l) : VRow w.drew B A n l := h
theorem VRow.at_ (h : VRow w B A n l) {k : Nat} (hk : k < n) :
    ∃ b off, A = some ⟨b, off, none⟩ ∧ b < B ∧ w.cell? ⟨b, off + k * 4, none⟩ = some (.string l[k]!.name) ∧ w.cell? ⟨b, off + k * 4 + 1, none⟩ = some (.int .i64 l[k]!.kind) ∧
      w.cell? ⟨b, off + k * 4 + 2, none⟩ = some (.int .i64 l[k]!.num) ∧ w.cell? ⟨b, off + k * 4 + 3, none⟩ = some (.string l[k]!.text) := by
  have hl := h.len
  have hkl : k < l.length := by omega
  obtain ⟨b, off, rfl, hb, hc⟩ := h.2 (by omega)
  rw [show l[k]! = l[k] from getElem!_pos l k hkl]
  exact ⟨b, off, rfl, hb, hc _ _ (flat4_at l k 0 hkl (by decide)), hc _ _ (flat4_at l k 1 hkl (by decide)), hc _ _ (flat4_at l k 2 hkl (by decide)), hc _ _ (flat4_at l k 3 hkl (by decide))⟩
/-- The same for a place known. -/
theorem VRow.of {b off : Nat} (h : VRow w B (some ⟨b, off, none⟩) n l) {k : Nat} (hk : k < n) :
    w.cell? ⟨b, off + k * 4, none⟩ = some (.string l[k]!.name) ∧ w.cell? ⟨b, off + k * 4 + 1, none⟩ = some (.int .i64 l[k]!.kind) ∧
      w.cell? ⟨b, off + k * 4 + 2, none⟩ = some (.int .i64 l[k]!.num) ∧ w.cell? ⟨b, off + k * 4 + 3, none⟩ = some (.string l[k]!.text) := by
  obtain ⟨b', off', he, _, h1, h2, h3, h4⟩ := h.at_ hk
  injection he with he
  injection he with e1 e2
  subst e1; subst e2
  exact ⟨h1, h2, h3, h4⟩
end
section
variable {w w' : World} {base n c : Nat} {e : TypeId} {A : Option Addr} {l : List Vr.V}
theorem OwnVars.row (h : OwnVars w base e A n c l) : VRow w w.heap.size A n l := RowS.own h
theorem OwnVars.len (h : OwnVars w base e A n c l) : l.length = n := h.row.len
theorem OwnVars.below (h : OwnVars w base e A n c l) {B : Nat} (hb : Below B w w') (hB : w.heap.size ≤ B) : OwnVars w' base e A n c l := own_below h hb hB
theorem OwnVars.lower {base' : Nat} (h : OwnVars w base e A n c l) (hb : base' ≤ base) : OwnVars w base' e A n c l := own_base h hb
theorem OwnVars.nn (h : OwnVars w base e A n c l) : A = none → n = 0 ∧ c = 0 := by
  obtain ⟨A', c', he, hA⟩ := own_form h
  injection he with h1 h2 h3
  subst h1; subst h3
  exact hA
theorem OwnVars.cap (h : OwnVars w base e A n c l) : n ≤ c := by
  rcases h.2 with ⟨hv, h0⟩ | ⟨g, cap, cur, hv, _, _, hc, _⟩
  · injection hv with _ _ h3; omega
  · injection hv with _ _ h3; omega
theorem OwnVars.most (h : OwnVars w base e A n c l) : c ≤ maxLen := by
  rcases h.2 with ⟨hv, h0⟩ | ⟨g, cap, cur, hv, _, _, _, hc, _⟩
  · injection hv with _ _ h3; subst h3; simp [maxLen]
  · injection hv with _ _ h3; omega
end
/-- A variable as a value. -/
def Vr.V.val (v : Vr.V) : Value := .agg #[.string v.name, .int .i64 v.kind, .int .i64 v.num, .string v.text]
/-- Its value alone. -/
def Vr.V.inner (v : Vr.V) : Value := .agg #[.int .i64 v.kind, .int .i64 v.num, .string v.text]
end Go.Proofs.YtlmlhjepolefaaaGreatDoor
namespace Go.Proofs.YtlmlhjepolefaaaGreatDoor
open Go.RowKit

/-- The sentinels that vars tells. -/
structure VaErrs (W : World) (E : Int → Option Addr) : Prop where
  e104 : ErrIn W E 104 1
  e105 : ErrIn W E 105 6
  e106 : ErrIn W E 106 7
  e109 : ErrIn W E 109 9
  e110 : ErrIn W E 110 10
theorem VaErrs.below {W w : World} {E : Int → Option Addr} (h : VaErrs W E) (hb : Below W.heap.size W w) : VaErrs w E :=
  ⟨h.e104.below hb, h.e105.below hb, h.e106.below hb, h.e109.below hb, h.e110.below hb⟩
def pos5 (c : Int) : Nat := if c = 104 then 0 else if c = 105 then 1 else if c = 106 then 2 else if c = 109 then 3 else if c = 110 then 4 else 1000
theorem vaErrs5 {W : World} {ads : List Addr} (hE : Errs W 185 [1, 6, 7, 9, 10] ads) : VaErrs W (errMap pos5 ads) where
  e104 := errIn_of hE 104 0 _ rfl rfl
  e105 := errIn_of hE 105 1 _ rfl rfl
  e106 := errIn_of hE 106 2 _ rfl rfl
  e109 := errIn_of hE 109 3 _ rfl rfl
  e110 := errIn_of hE 110 4 _ rfl rfl
theorem vaErrs16 {W : World} {ads : List Addr} (hE : Errs W 185 sents ads) : VaErrs W (errMap pos16 ads) where
  e104 := errIn_of hE 104 3 _ rfl rfl
  e105 := errIn_of hE 105 4 _ rfl rfl
  e106 := errIn_of hE 106 5 _ rfl rfl
  e109 := errIn_of hE 109 8 _ rfl rfl
  e110 := errIn_of hE 110 9 _ rfl rfl

/-- An error around a place, as a value: its block. -/
def atV (q : Nat) : Value := .iface 96 (.pointer (some ⟨q, 0, none⟩))
/-- What an error is seen as: none; a sentinel; one around a place. -/
inductive SeenF (E : Int → Option Addr) (w : World) : Value → Int → Option Nat → Prop
  | nil : SeenF E w .nilIface 0 none
  | bare (c : Int) (a : Addr) (h : E c = some a) (hc : c ≠ 0) : SeenF E w (errV a) c none
  | at_ (q : Nat) (c : Int) (a : Addr) (k : Nat) (h : E c = some a) (hc : c ≠ 0) (h0 : w.cell? ⟨q, 0, none⟩ = some (.int .i64 k)) (h1 : w.cell? ⟨q, 1, none⟩ = some (errV a)) : SeenF E w (atV q) c (some k)
theorem SeenF.below {E : Int → Option Addr} {w w' : World} {v : Value} {c : Int} {p : Option Nat} (h : SeenF E w v c p) {B : Nat} (hb : Below B w w') (hB : w.heap.size ≤ B) : SeenF E w' v c p := by
  cases h with
  | nil => exact .nil
  | bare c a h hc => exact .bare c a h hc
  | at_ q c a k h hc h0 h1 =>
    have hq : q < B := Nat.lt_of_lt_of_le (cell_lt h0) hB
    exact .at_ q c a k h hc ((hb.cell (p := ⟨q, 0, none⟩) hq).trans h0) ((hb.cell (p := ⟨q, 1, none⟩) hq).trans h1)
theorem SeenF.none_of {E : Int → Option Addr} {w : World} {v : Value} {p : Option Nat} (h : SeenF E w v 0 p) : v = .nilIface := by
  generalize hc : (0 : Int) = c at h
  cases h with
  | nil => rfl
  | bare c a h h0 => exact absurd hc.symm h0
  | at_ q c a k h h0 _ _ => exact absurd hc.symm h0
/-- One that is there: an interface value with a pointer in it. -/
theorem SeenF.some_of {E : Int → Option Addr} {w : World} {v : Value} {c : Int} {p : Option Nat} (h : SeenF E w v c p) (hc : c ≠ 0) : ∃ t a, v = .iface t (.pointer (some a)) := by
  cases h with
  | nil => exact absurd rfl hc
  | bare c a h h0 => exact ⟨_, _, rfl⟩
  | at_ q c a k h h0 _ _ => exact ⟨_, _, rfl⟩


end Go.Proofs.YtlmlhjepolefaaaGreatDoor
