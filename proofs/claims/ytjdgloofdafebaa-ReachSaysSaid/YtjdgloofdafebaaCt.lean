/- Mathematics of package cond: the words of a text, the condition that they tell, what it comes to. -/
import Derived.Test.YtjdgloofdafebaaVr
namespace Go.Proofs.Ytjdgloofdafebaa
open Go.RowKit

namespace Co
/-- Where a parser stands: its word, from where till where; its first error, and the place. -/
structure St where
  kind : Nat
  frm : Nat
  till : Nat
  err : Option (Int × Nat)

def digit (c : UInt8) : Bool := decide (48 ≤ c.toNat) && decide (c.toNat ≤ 57)
def ofWord (c : UInt8) : Bool := (decide (97 ≤ c.toNat) && decide (c.toNat ≤ 122)) || digit c || decide (c.toNat = 95)
def blank (c : UInt8) : Bool := decide (c.toNat = 32)
def inText (c : UInt8) : Bool := decide (32 ≤ c.toNat) && decide (c.toNat ≤ 126) && !decide (c.toNat = 34)
/-- The first place from k on that is not so. -/
def ends (p : UInt8 → Bool) (l : List UInt8) (k : Nat) : Nat := k + ((l.drop k).takeWhile p).length
theorem takeWhile_len {p : UInt8 → Bool} : ∀ (l : List UInt8) (n : Nat), n ≤ l.length → (∀ j, j < n → p l[j]! = true) → (n = l.length ∨ p l[n]! = false) → (l.takeWhile p).length = n
  | [], n, hn, _, _ => by simp at hn; simp [hn]
  | c :: l, 0, _, _, h => by
    rcases h with h | h
    · simp at h
    · simp only [List.getElem!_cons_zero] at h
      simp [h]
  | c :: l, n + 1, hn, ha, h => by
    have h0 : p c = true := by simpa using ha 0 (by omega)
    have := takeWhile_len l n (by simpa using hn) (fun j hj => by simpa using ha (j + 1) (by omega)) (by simpa using h)
    simp [h0, this]
theorem ends_eq {p : UInt8 → Bool} {l : List UInt8} {k m : Nat} (hk : k ≤ m) (hm : m ≤ l.length) (ha : ∀ j, k ≤ j → j < m → p l[j]! = true) (h : m = l.length ∨ p l[m]! = false) : ends p l k = m := by
  unfold ends
  have hd : ∀ j, (l.drop k)[j]! = l[k + j]! := fun j => by simp [List.getElem!_eq_getElem?_getD]
  rw [takeWhile_len (l.drop k) (m - k) (by simp; omega) (fun j hj => by rw [hd]; exact ha _ (by omega) (by omega))
    (by rcases h with h | h
        · left; simp; omega
        · right; rw [hd, show k + (m - k) = m from by omega]; exact h)]
  omega

/-- What a word of letters, digits and _ is. -/
def kindOf (t : List UInt8) : Nat :=
  if t = [111, 114] ∨ t = [97, 110, 100] ∨ t = [110, 111, 116] then 6
  else if t = [116, 114, 117, 101] ∨ t = [102, 97, 108, 115, 101] then 4
  else if t.length ≤ 9 ∧ t.all digit = true then 2
  else if digit t[0]! = false ∧ t[0]! ≠ 95 ∧ Vr.name t = true then 5 else 0
def marks : List UInt8 := [40, 41, 60, 62, 43, 45, 42, 47, 37]
def markLen (t : List UInt8) : Nat :=
  if 1 < t.length ∧ t[1]! = 61 ∧ ([61, 33, 60, 62] : List UInt8).contains (t[0]!) = true then 2
  else if marks.contains (t[0]!) = true then 1 else 0
/-- The word that begins there: what it is, from where till where. -/
def textAt (l : List UInt8) (k : Nat) : Nat × Nat × Nat :=
  if ends inText l (k + 1) < l.length ∧ l[ends inText l (k + 1)]! = 34 then (3, k, ends inText l (k + 1) + 1) else (0, k, k)
def wordAt (l : List UInt8) (k : Nat) : Nat × Nat × Nat :=
  if k = l.length then (1, k, k)
  else if ofWord l[k]! = true then (kindOf ((l.drop k).take (ends ofWord l k - k)), k, ends ofWord l k)
  else if l[k]! = 34 then textAt l k
  else if markLen (l.drop k) = 0 then (0, k, k) else (6, k, k + markLen (l.drop k))

def next (l : List UInt8) (st : St) : St :=
  if st.err.isSome = true then st else ⟨(wordAt l (ends blank l st.till)).1, (wordAt l (ends blank l st.till)).2.1, (wordAt l (ends blank l st.till)).2.2, none⟩
def fail (c : Int) (st : St) : St := if st.err.isSome = true then st else ⟨0, st.frm, st.till, some (c, st.frm)⟩
def text (l : List UInt8) (st : St) : List UInt8 := (l.drop st.frm).take (st.till - st.frm)
def isM (l : List UInt8) (st : St) (m : List UInt8) : Bool := decide (st.kind = 6) && decide (text l st = m)
def words : List (List UInt8) := [[], [], [], [111, 114], [97, 110, 100], [110, 111, 116], [61, 61], [33, 61], [60], [60, 61], [62], [62, 61], [43], [45], [42], [47], [37], [45]]
def opGo (l : List UInt8) (st : St) : Nat → Nat → Nat
  | 0, _ => 0
  | n + 1, a => if isM l st (words[a]!) = true then a else opGo l st n (a + 1)
/-- Which of the operators a to b stands there; 0: none. -/
def op (l : List UInt8) (st : St) (a b : Nat) : Nat := opGo l st (b + 1 - a) a

/-- A number's value. -/
def numOf (t : List UInt8) : Int := ((t.foldl (fun a c => a * 10 + (c.toNat - 48)) 0 : Nat) : Int)

/-- A condition. -/
inductive Tr where
  | leaf (op kind num : Int) (txt name : List UInt8)
  | one (op : Int) (a : Tr)
  | two (op : Int) (a b : Tr)
def Tr.none : Tr := .leaf 0 0 0 [] []
abbrev Out := Option (Tr × St)
def row (l : List UInt8) (part : St → Out) (a b : Nat) : Nat → Tr → St → Out
  | 0, _, _ => .none
  | f + 1, e, st => if op l st a b = 0 then some (e, st) else match part (next l st) with
    | .none => .none
    | some (r, st2) => row l part a b f (.two (op l st a b) e r) st2
def rowAll (l : List UInt8) (part : St → Out) (a b : Nat) (st : St) : Out := match part st with
  | .none => .none
  | some (e, st1) => row l part a b 60 e st1
def deeper (l : List UInt8) (part : Nat → St → Out) (d : Nat) (st : St) : Out :=
  if d = 12 then some (.none, fail 112 st) else part (d + 1) (next l st)
def compared (l : List UInt8) (part : St → Out) (st : St) : Out := match part st with
  | .none => .none
  | some (e, st1) => if op l st1 6 11 = 0 then some (e, st1) else match part (next l st1) with
    | .none => .none
    | some (r, st2) => some (.two (op l st1 6 11) e r, st2)
def under (l : List UInt8) (m : List UInt8) (o : Int) (part : Nat → St → Out) (other : St → Out) (d : Nat) (st : St) : Out :=
  if isM l st m = true then match deeper l part d st with
    | .none => .none
    | some (e, st1) => some (.one o e, st1)
  else other st
def behind (part : St → Out) (st : St) : Out := part (if st.kind = 3 ∨ st.kind = 4 then fail 111 st else st)
def single (l : List UInt8) (bracket : St → Out) (st : St) : Out :=
  if isM l st [40] = true then bracket st
  else if st.kind = 2 then if 1 ≤ (text l st).length ∧ (text l st).length ≤ 9 ∧ (text l st).all digit = true then some (.leaf 1 1 (numOf (text l st)) [] [], next l st) else .none
  else if st.kind = 3 then if 2 ≤ (text l st).length then some (.leaf 1 3 0 (((text l st).drop 1).take ((text l st).length - 2)) [], next l st) else .none
  else if st.kind = 4 then some (.leaf 1 2 (if text l st = [116, 114, 117, 101] then 1 else 0) [] [], next l st)
  else if st.kind = 5 then some (.leaf 2 0 0 [] (text l st), next l st)
  else some (.leaf 1 0 0 [] [], next l (fail 111 st))
def bracket (l : List UInt8) (part : Nat → St → Out) (d : Nat) (st : St) : Out := match deeper l part d st with
  | .none => .none
  | some (e, st1) => some (e, next l (if isM l st1 [41] = true then st1 else fail 111 st1))
/-- One part of the parser (0 to 9), by those beneath. -/
def step (l : List UInt8) (ih : Nat → Nat → St → Out) (which d : Nat) (st : St) : Out :=
  match which with
  | 0 => rowAll l (ih 1 d) 3 3 st
  | 1 => rowAll l (ih 2 d) 4 4 st
  | 2 => under l [110, 111, 116] 5 (ih 2) (ih 3 d) d st
  | 3 => compared l (ih 4 d) st
  | 4 => rowAll l (ih 5 d) 12 13 st
  | 5 => rowAll l (ih 6 d) 14 16 st
  | 6 => under l [45] 17 (ih 7) (ih 8 d) d st
  | 7 => behind (ih 6 d) st
  | 8 => single l (ih 9 d) st
  | _ => bracket l (ih 0) d st
def parts (l : List UInt8) : Nat → Nat → Nat → St → Out
  | 0 => fun _ _ _ => .none
  | f + 1 => step l (parts l f)
def parse (l : List UInt8) : Option (Tr × Option (Int × Nat)) :=
  if 80 < l.length then some (.none, some (105, 80))
  else match parts l 140 0 0 (next l ⟨0, 0, 0, .none⟩) with
    | .none => .none
    | some (e, st) => match (if st.kind = 1 then st else fail 111 st).err with
      | some x => some (.none, some x)
      | .none => some (e, .none)
end Co
end Go.Proofs.Ytjdgloofdafebaa
