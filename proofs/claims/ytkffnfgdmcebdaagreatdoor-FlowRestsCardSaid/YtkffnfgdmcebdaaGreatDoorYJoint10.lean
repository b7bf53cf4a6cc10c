/- Mathematics of package cond: the words of a text, the condition that they tell, what it comes to. Rows of structs of one's own: what is appended; a cell that is written; beside others. Walks of package vars: values of numbers, flags, texts; the chapter's examples. Walks of package vars: the place of a variable; Get. -/
import Derived.Test.YtkffnfgdmcebdaaGreatDoorYJoint1
import Derived.Test.YtkffnfgdmcebdaaGreatDoorYJoint22
import Derived.Maps.AppendAt
import Derived.Deep.LoopGhost
import Derived.Shelf.Abstract
namespace Go.Proofs.YtkffnfgdmcebdaaGreatDoor
open Go.RowKit

namespace Co
/-- Where a parser stands: its word, from where till where; its first error, and the place. -/
structure St where
  kind : Nat
  frm : Nat
  till : Nat
  err : Option (Int × Nat)

def digit (c : UInt8) : Bool := decide (48 ≤ c.toNat) && decide (c.toNat ≤ 57)
def ofWord (c : UInt8) : Bool := (decide (97 ≤ c.toNat) && decide (c.toNat ≤ 122)) || digit c || decide (c.toNat = 95)
def blank (c : UInt8) : Bool := decide (c.toNat = 32)
def inText (c : UInt8) : Bool := decide (32 ≤ c.toNat) && decide (c.toNat ≤ 126) && !decide (c.toNat = 34)
/-- The first place from k on that is not so. -/
def ends (p : UInt8 → Bool) (l : List UInt8) (k : Nat) : Nat := k + ((l.drop k).takeWhile p).length
theorem takeWhile_len {p : UInt8 → Bool} : ∀ (l : List UInt8) (n : Nat), n ≤ l.length → (∀ j, j < n → p l[j]! = true) → (n = l.length ∨ p l[n]! = false) → (l.takeWhile p).length = n
  | [], n, hn, _, _ => by simp at hn; simp [hn]
  | c :: l, 0, _, _, h => by
    rcases h with h | h
    · simp at h
    · simp only [List.getElem!_cons_zero] at h
      simp [h]
  | c :: l, n + 1, hn, ha, h => by
    have h0 : p c = true := by simpa using ha 0 (by omega)
    have := takeWhile_len l n (by simpa using hn) (fun j hj => by simpa using ha (j + 1) (by omega)) (by simpa using h)
    simp [h0, this]
theorem ends_eq {p : UInt8 → Bool} {l : List UInt8} {k m : Nat} (hk : k ≤ m) (hm : m ≤ l.length) (ha : ∀ j, k ≤ j → j < m → p l[j]! = true) (h : m = l.length ∨ p l[m]! = false) : ends p l k = m := by
  unfold ends
  have hd : ∀ j, (l.drop k)[j]! = l[k + j]! := fun j => by simp [List.getElem!_eq_getElem?_getD]
  rw [takeWhile_len (l.drop k) (m - k) (by simp; omega) (fun j hj => by rw [hd]; exact ha _ (by omega) (by omega))
    (by rcases h with h | h
        · left; simp; omega
        · right; rw [hd, show k + (m - k) = m from by omega]; exact h)]
  omega

/-- What a word of letters, digits and _ is. -/
def kindOf (t : List UInt8) : Nat :=
  if t = [111, 114] ∨ t = [97, 110, 100] ∨ t = [110, 111, 116] then 6
  else if t = [116, 114, 117, 101] ∨ t = [102, 97, 108, 115, 101] then 4
  else if t.length ≤ 9 ∧ t.all digit = true then 2
  else if digit t[0]! = false ∧ t[0]! ≠ 95 ∧ Vr.name t = true then 5 else 0
def marks : List UInt8 := [40, 41, 60, 62, 43, 45, 42, 47, 37]
def markLen (t : List UInt8) : Nat :=
  if 1 < t.length ∧ t[1]! = 61 ∧ ([61, 33, 60, 62] : List UInt8).contains (t[0]!) = true then 2
  else if marks.contains (t[0]!) = true then 1 else 0
/-- The word that begins there: what it is, from where till where. -/
def textAt (l : List UInt8) (k : Nat) : Nat × Nat × Nat :=
  if ends inText l (k + 1) < l.length ∧ l[ends inText l (k + 1)]! = 34 then (3, k, ends inText l (k + 1) + 1) else (0, k, k)
def wordAt (l : List UInt8) (k : Nat) : Nat × Nat × Nat :=
  if k = l.length then (1, k, k)
  else if ofWord l[k]! = true then (kindOf ((l.drop k).take (ends ofWord l k - k)), k, ends ofWord l k)
  else if l[k]! = 34 then textAt l k
  else if markLen (l.drop k) = 0 then (0, k, k) else (6, k, k + markLen (l.drop k))

def next (l : List UInt8) (st : St) : St :=
  if st.err.isSome = true then st else ⟨(wordAt l (ends blank l st.till)).1, (wordAt l (ends blank l st.till)).2.1, (wordAt l (ends blank l st.till)).2.2, none⟩
def fail (c : Int) (st : St) : St := if st.err.isSome = true then st else ⟨0, st.frm, st.till, some (c, st.frm)⟩
def text (l : List UInt8) (st : St) : List UInt8 := (l.drop st.frm).take (st.till - st.frm)
def isM (l : List UInt8) (st : St) (m : List UInt8) : Bool := decide (st.kind = 6) && decide (text l st = m)
def words : List (List UInt8) := [[], [], [], [111, 114], [97, 110, 100], [110, 111, 116], [61, 61], [33, 61], [60], [60, 61], [62], [62, 61], [43], [45], [42], [47], [37], [45]]
def opGo (l : List UInt8) (st : St) : Nat → Nat → Nat
  | 0, _ => 0
  | n + 1, a => if isM l st (words[a]!) = true then a else opGo l st n (a + 1)
/-- Which of the operators a to b stands there; 0: none. -/
def op (l : List UInt8) (st : St) (a b : Nat) : Nat := opGo l st (b + 1 - a) a

/-- A number's value. -/
def numOf (t : List UInt8) : Int := ((t.foldl (fun a c => a * 10 + (c.toNat - 48)) 0 : Nat) : Int)

/-- A condition. -/
inductive Tr where
  | leaf (op kind num : Int) (txt name : List UInt8)
  | one (op : Int) (a : Tr)
  | two (op : Int) (a b : Tr)
def Tr.none : Tr := .leaf 0 0 0 [] []
abbrev Out := Option (Tr × St)
def row (l : List UInt8) (part : St → Out) (a b : Nat) : Nat → Tr → St → Out
  | 0, _, _ => .none
  | f + 1, e, st => if op l st a b = 0 then some (e, st) else match part (next l st) with
    | .none => .none
    | some (r, st2) => row l part a b f (.two (op l st a b) e r) st2
def rowAll (l : List UInt8) (part : St → Out) (a b : Nat) (st : St) : Out := match part st with
  | .none => .none
  | some (e, st1) => row l part a b 60 e st1
def deeper (l : List UInt8) (part : Nat → St → Out) (d : Nat) (st : St) : Out :=
  if d = 12 then some (.none, fail 112 st) else part (d + 1) (next l st)
def compared (l : List UInt8) (part : St → Out) (st : St) : Out := match part st with
  | .none => .none
  | some (e, st1) => if op l st1 6 11 = 0 then some (e, st1) else match part (next l st1) with
    | .none => .none
    | some (r, st2) => some (.two (op l st1 6 11) e r, st2)
def under (l : List UInt8) (m : List UInt8) (o : Int) (part : Nat → St → Out) (other : St → Out) (d : Nat) (st : St) : Out :=
  if isM l st m = true then match deeper l part d st with
    | .none => .none
    | some (e, st1) => some (.one o e, st1)
  else other st
def behind (part : St → Out) (st : St) : Out := part (if st.kind = 3 ∨ st.kind = 4 then fail 111 st else st)
def single (l : List UInt8) (bracket : St → Out) (st : St) : Out :=
  if isM l st [40] = true then bracket st
  else if st.kind = 2 then if 1 ≤ (text l st).length ∧ (text l st).length ≤ 9 ∧ (text l st).all digit = true then some (.leaf 1 1 (numOf (text l st)) [] [], next l st) else .none
  else if st.kind = 3 then if 2 ≤ (text l st).length then some (.leaf 1 3 0 (((text l st).drop 1).take ((text l st).length - 2)) [], next l st) else .none
  else if st.kind = 4 then some (.leaf 1 2 (if text l st = [116, 114, 117, 101] then 1 else 0) [] [], next l st)
  else if st.kind = 5 then some (.leaf 2 0 0 [] (text l st), next l st)
  else some (.leaf 1 0 0 [] [], next l (fail 111 st))
def bracket (l : List UInt8) (part : Nat → St → Out) (d : Nat) (st : St) : Out := match deeper l part d st with
  | .none => .none
  | some (e, st1) => some (e, next l (if isM l st1 [41] = true then st1 else fail 111 st1))
/-- One part of the parser (0 to 9), by those beneath. -/
def step (l : List UInt8) (ih : Nat → Nat → St → Out) (which d : Nat) (st : St) : Out :=
  match which with
  | 0 => rowAll l (ih 1 d) 3 3 st
  | 1 => rowAll l (ih 2 d) 4 4 st
  | 2 => under l [110, 111, 116] 5 (ih 2) (ih 3 d) d st
  | 3 => compared l (ih 4 d) st
  | 4 => rowAll l (ih 5 d) 12 13 st
  | 5 => rowAll l (ih 6 d) 14 16 st
  | 6 => under l [45] 17 (ih 7) (ih 8 d) d st
  | 7 => behind (ih 6 d) st
  | 8 => single l (ih 9 d) st
  | _ => bracket l (ih 0) d st
def parts (l : List UInt8) : Nat → Nat → Nat → St → Out
  | 0 => fun _ _ _ => .none
  | f + 1 => step l (parts l f)
def parse (l : List UInt8) : Option (Tr × Option (Int × Nat)) :=
  if 80 < l.length then some (.none, some (105, 80))
  else match parts l 140 0 0 (next l ⟨0, 0, 0, .none⟩) with
    | .none => .none
    | some (e, st) => match (if st.kind = 1 then st else fail 111 st).err with
      | some x => some (.none, some x)
      | .none => some (e, .none)
end Co
end Go.Proofs.YtkffnfgdmcebdaaGreatDoor
namespace Go.Proofs.YtkffnfgdmcebdaaGreatDoor
open Go.RowKit

section
variable {α : Type} {κ : Cs α} {w w' : World} {base n c : Nat} {e : TypeId} {A : Option Addr} {l : List α}
theorem OwnK.block (h : OwnK κ w base e A n c l) {a : Addr} (ha : A = some a) : base ≤ a.block ∧ a.block < w.heap.size := by
  rcases h.2.2 with ⟨hv, h0⟩ | ⟨g, cap, cur, hv, hg, hh, _⟩
  · injection hv with h1; subst h1; cases ha
  · injection hv with h1
    subst h1
    obtain rfl := Option.some.inj ha
    exact ⟨hg, blk_lt hh⟩
/-- Kept, where what changes is another block. -/
theorem OwnK.kept (h : OwnK κ w base e A n c l) {row : Option Nat} (hg : w.grownBy w' row) (hne : ∀ a, A = some a → row ≠ some a.block) : OwnK κ w' base e A n c l :=
  ⟨h.1, World.ownsRow.kept h.2 hg (by
    rcases h.2.2 with ⟨hv, h0⟩ | ⟨g, cap, cur, hv, _⟩
    · injection hv with h1; subst h1; exact .inl rfl
    · injection hv with h1
      subst h1
      exact .inr (fun e => hne _ rfl e.symm))⟩
/-- Where an append goes: its block, or a new one. -/
theorem grew_block {A' : Option Addr} {n' c' : Nat} (h : Grew w w' (.slice A n c) (.slice A' n' c')) {κ' : Cs α} {l' : List α} {base' : Nat} (ho : OwnK κ' w' base' e A' n' c' l') {a' : Addr} (ha : A' = some a') :
    (∃ a, A = some a ∧ a.block = a'.block) ∨ w.heap.size ≤ a'.block := by
  have key : (Value.slice A' n' c').ownBlock = some a'.block := by
    rcases ho.2.2 with ⟨hv, h0⟩ | ⟨g, cap, cur, hv, _⟩
    · injection hv with h1; subst h1; cases ha
    · injection hv with h1; subst h1; obtain rfl := Option.some.inj ha; rfl
  rcases h.block _ key with h1 | h1
  · refine .inl ?_
    cases A with
    | none => cases h1
    | some a =>
      exact ⟨a, rfl, Option.some.inj h1⟩
  · exact .inr h1
end
section
variable {α : Type} {κ : Cs α} {P : Program}
theorem step_append_k {ops : Array Oper} {o : Oper} {a : Act} {K : Act → World → Prop} {Q : Exit → Act → World → Prop} {E : Prop} (hgd : o.guard = none) (s x : Operand) (t e : TypeId) (i : TypeInfo) (z : Value) (bytes : Nat)
    (ht : P.underlying t = some (.slice e)) (hi : P.info? e = some i) (hz : i.zero = some z) (hsize : i.size = κ.k) (hby : i.bytes = bytes) (hzs : z.cells.size = κ.k)
    (ho : o.op = .call { callee := .builtin .append, args := #[s, x], argTypes := #[t, t] })
    (w : World) (base B : Nat) (A : Option Addr) (n c : Nat) (l : List α) (ad : Addr) (v : α) (hs : a.eval s = .slice A n c) (hown : OwnK κ w base e A n c l)
    (hx : a.eval x = .slice (some ad) 1 1) (hr : KRow κ w B (some ad) 1 [v]) (hn : n ≤ 1000000) (hb : bytes ≤ 1000) (hbase : base ≤ w.heap.size)
    (h : ∀ A' c' w', OwnK κ w' base e A' (n + 1) c' (l ++ [v]) → Grew w w' (.slice A n c) (.slice A' (n + 1) c') → K (a.put o.dst (.slice A' (n + 1) c')) w') :
    if Region.wanted o (yielded ops a.tmps) = true then Oper.wp P o a w K Q else E := by
  have hw : Region.wanted o (yielded ops a.tmps) = true := by simp [Region.wanted, hgd]
  rw [if_pos hw]
  obtain ⟨b, off, he, _, hc⟩ := hr.2 (by omega)
  obtain rfl := Option.some.inj he
  have hbb : (n + 1) * bytes ≤ 140737488355328 := Nat.le_trans (Nat.mul_le_mul (Nat.succ_le_succ hn) hb) (by decide)
  obtain ⟨v', w', hrun, h1, h2, _, h3⟩ := Go.run_append_own_at (P := P) (w := w) base t o.type e i z κ.k bytes ht hi hz hsize hby hzs hown.1 (.slice A n c) n (l.flatMap κ.cs) hown.2 ⟨b, off, none⟩ 1 1 ([v].flatMap κ.cs) hr.1 (fun j u hu => (congrArg w.cell? (addr_add b off j)).trans (hc j u hu)) (Cs.flat_one κ [v]) (by unfold maxLen; omega) hbb hbase
  obtain ⟨A', c', rfl, _⟩ := own_form h1
  unfold Oper.wp execOp
  simp only [ho, resolve, invoke, builtin, Sem.run_bind, Sem.run_pure, Result.andThen_ok, List.map_toArray, List.map_cons, List.map_nil, hs, hx, hrun]
  refine h A' c' w' ⟨hown.1, by rw [List.flatMap_append]; exact h1⟩ ⟨h2, fun g hg => ?_⟩
  rcases h3 with h3 | h3
  · exact .inl (h3.symm.trans hg)
  · rw [h3] at hg
    obtain rfl := Option.some.inj hg
    exact .inr (Nat.le_refl _)
theorem append_k {ops : Array Oper} {rest : List Oper} {o : Oper} {a : Act} {Q : Exit → Act → World → Prop} (hgd : o.guard = none) (s x : Operand) (t e : TypeId) (i : TypeInfo) (z : Value) (bytes : Nat)
    (ht : P.underlying t = some (.slice e)) (hi : P.info? e = some i) (hz : i.zero = some z) (hsize : i.size = κ.k) (hby : i.bytes = bytes) (hzs : z.cells.size = κ.k)
    (ho : o.op = .call { callee := .builtin .append, args := #[s, x], argTypes := #[t, t] })
    (w : World) (base B : Nat) (A : Option Addr) (n c : Nat) (l : List α) (ad : Addr) (v : α) (hs : a.eval s = .slice A n c) (hown : OwnK κ w base e A n c l)
    (hx : a.eval x = .slice (some ad) 1 1) (hr : KRow κ w B (some ad) 1 [v]) (hn : n ≤ 1000000) (hb : bytes ≤ 1000) (hbase : base ≤ w.heap.size)
    (h : ∀ A' c' w', OwnK κ w' base e A' (n + 1) c' (l ++ [v]) → Grew w w' (.slice A n c) (.slice A' (n + 1) c') → wpList P ops Q rest (a.put o.dst (.slice A' (n + 1) c')) w') :
    wpList P ops Q (o :: rest) a w := by
  have hbb : (n + 1) * bytes ≤ 140737488355328 := Nat.le_trans (Nat.mul_le_mul (Nat.succ_le_succ hn) hb) (by decide)
  refine append_row hgd s x t ho e i z κ.k bytes ht hi hz hsize hby hzs hown.1 base _ n (l.flatMap κ.cs) hs hown.2 B (some ad) 1 1 ([v].flatMap κ.cs) hx (fun h => by cases h) hr (Cs.flat_one κ [v]) (by unfold maxLen; omega) hbb hbase fun v' w' h1 h2 h3 => ?_
  obtain ⟨A', c', rfl, _⟩ := own_form h1
  refine h A' c' w' ⟨hown.1, by rw [List.flatMap_append]; exact h1⟩ ⟨h2, fun g hg => ?_⟩
  rcases h3 with h3 | h3
  · exact .inl (h3.symm.trans hg)
  · rw [h3] at hg
    obtain rfl := Option.some.inj hg
    exact .inr (Nat.le_refl _)
end
end Go.Proofs.YtkffnfgdmcebdaaGreatDoor
namespace Go.Proofs.YtkffnfgdmcebdaaGreatDoor
open Go.RowKit

set_option maxHeartbeats 400000 in
theorem vnum_any (n : Int) (w : World) :
    Calls Tryz.prog 159 #[.int .i64 n] w fun e w' => e = .returned (.agg #[.int .i64 1, .int .i64 n, .string ⟨#[]⟩]) ∧ Below w.heap.size w w' := by
  go_enter Tryz.func159, Tryz.ntmps159
  go_wp2
  exact bodyPost_ret (v := .agg #[.int .i64 1, .int .i64 n, .string ⟨#[]⟩]) (by simp [results, Tryz.results159, go_sem]) rfl ⟨rfl, (Below.refl _ _).alloc (Nat.le_refl _) _⟩
set_option maxHeartbeats 400000 in
theorem vflag_any (f : Bool) (w : World) :
    Calls Tryz.prog 158 #[.bool f] w fun e w' => e = .returned (.agg #[.int .i64 2, .int .i64 (if f then 1 else 0), .string ⟨#[]⟩]) ∧ Below w.heap.size w w' := by
  cases f with
  | true =>
    go_enter Tryz.func158, Tryz.ntmps158
    go_wp2
    exact bodyPost_ret (v := .agg #[.int .i64 2, .int .i64 1, .string ⟨#[]⟩]) (by simp [results, Tryz.results158, go_sem]) rfl ⟨rfl, ((Below.refl _ _).alloc (Nat.le_refl _) _).alloc (by simp) _⟩
  | false =>
    go_enter Tryz.func158, Tryz.ntmps158
    go_wp2
    exact bodyPost_ret (v := .agg #[.int .i64 2, .int .i64 0, .string ⟨#[]⟩]) (by simp [results, Tryz.results158, go_sem]) rfl ⟨rfl, ((Below.refl _ _).alloc (Nat.le_refl _) _).alloc (by simp) _⟩
set_option maxHeartbeats 400000 in
theorem vword_any (s : ByteArray) (w : World) :
    Calls Tryz.prog 163 #[.string s] w fun e w' => e = .returned (.agg #[.int .i64 3, .int .i64 0, .string s]) ∧ Below w.heap.size w w' := by
  go_enter Tryz.func163, Tryz.ntmps163
  go_wp2
  exact bodyPost_ret (v := .agg #[.int .i64 3, .int .i64 0, .string s]) (by simp [results, Tryz.results163, go_sem]) rfl ⟨rfl, (Below.refl _ _).alloc (Nat.le_refl _) _⟩

end Go.Proofs.YtkffnfgdmcebdaaGreatDoor
namespace Go.Proofs.YtkffnfgdmcebdaaGreatDoor
open Go.RowKit

namespace Vr
/-- The place of the first one that is so; -1: there is none. -/
def idx (p : V → Bool) (l : List V) : Int := match l.findIdx? p with
  | some k => k
  | none => -1
theorem idx_hit {p : V → Bool} {l : List V} {k : Nat} (hk : k < l.length) (h : p l[k]! = true) (h0 : ∀ j, j < k → p l[j]! = false) : idx p l = k := by
  unfold idx
  have : l.findIdx? p = some k := by
    rw [List.findIdx?_eq_some_iff_getElem]
    refine ⟨hk, by rw [← getElem!_pos l k hk]; exact h, fun j hj => ?_⟩
    rw [← getElem!_pos l j (by omega)]
    exact Bool.eq_false_iff.1 (h0 j hj)
  rw [this]
theorem idx_miss {p : V → Bool} {l : List V} (h0 : ∀ j, j < l.length → p l[j]! = false) : idx p l = -1 := by
  unfold idx
  have : l.findIdx? p = none := by
    rw [List.findIdx?_eq_none_iff]
    intro x hx
    obtain ⟨k, hk, rfl⟩ := List.mem_iff_getElem.1 hx
    rw [← getElem!_pos l k hk]
    exact h0 k hk
  rw [this]
theorem idx_cases (p : V → Bool) (l : List V) : (idx p l = -1 ∧ ∀ j, j < l.length → p l[j]! = false) ∨ ∃ k : Nat, idx p l = k ∧ k < l.length ∧ p l[k]! = true ∧ ∀ j, j < k → p l[j]! = false := by
  unfold idx
  cases h : l.findIdx? p with
  | none =>
    refine .inl ⟨rfl, fun j hj => ?_⟩
    rw [getElem!_pos l j hj]
    exact List.findIdx?_eq_none_iff.1 h _ (List.getElem_mem hj)
  | some k =>
    obtain ⟨hk, h1, h2⟩ := List.findIdx?_eq_some_iff_getElem.1 h
    refine .inr ⟨k, rfl, hk, by rw [getElem!_pos l k hk]; exact h1, fun j hj => ?_⟩
    rw [getElem!_pos l j (by omega)]
    simpa using h2 j hj
/-- Is it of that name? -/
def named (s : ByteArray) (v : V) : Bool := decide (v.name = s)
/-- Does it stand behind? -/
def behind (s : ByteArray) (v : V) : Bool := lss s v.name
/-- The value of the first one of that name. -/
def get (l : List V) (s : ByteArray) : V × Bool := if 0 ≤ idx (named s) l then (l[(idx (named s) l).toNat]!, true) else (default, false)
end Vr

section
variable {w : World}
set_option maxHeartbeats 1600000 in
theorem idx_any (g : Nat) (lb : Array Value) (p : Vr.V → Bool) (eg : ∀ args w, (callFunc g args).run Tryz.prog w = .ok (.enter g args) w) (A : Option Addr) (n c : Nat) (l : List Vr.V)
    (hp : ∀ (W : World) (v : Vr.V), Below w.heap.size w W → Calls Tryz.prog g (#[v.val] ++ lb) W fun e w' => e = .returned (.bool (p v)) ∧ Below w.heap.size w w') (hr : VRow w w.heap.size A n l) (hn : n ≤ 9223372036854775807) :
    Calls Tryz.prog 182 #[.slice A n c, .func (.func g) #[] lb] w fun e w' => e = .returned (.int .i64 (Vr.idx p l)) ∧ Below w.heap.size w w' := by
  have HL := Lib.hid hr.len
  go_enter Tryz.func182, Tryz.ntmps182
  go_wp2
  go_loopw [8] (fun i wr => ∃ k : Nat, k ≤ n ∧ i = .int .i64 k ∧ Below w.heap.size w wr ∧ Hid (∀ j, j < k → p l[j]! = false)) (fun i _ => n - (intOf i).toNat)
  case atStart => exact ⟨0, Nat.zero_le _, rfl, Below.refl _ _, fun j h => absurd h (Nat.not_lt_zero j)⟩
  case round =>
    obtain ⟨k, hk, rfl, hbw, hall⟩ := hrel
    by_cases hkn : k < n
    · obtain ⟨b, off, rfl, hbb, c0, c1, c2, c3⟩ := (hr.below hbw (Nat.le_refl _)).at_ hkn
      have hcall := hp wr l[k]! hbw
      unfold Vr.V.val at hcall
      have HH := Lib.hid (@Vr.idx_hit p l k (by rw [HL.out]; exact hkn))
      obtain ⟨z, hz⟩ : ∃ z, z = l[k]! := ⟨_, rfl⟩
      have HP := Lib.hid (congrArg p hz.symm)
      rw [← hz] at hcall c0 c1 c2 c3 HH
      clear hz
      clear hp
      cases hq : p z with
      | true =>
        rw [hq] at hcall
        have HQ := Lib.hid hq
        clear hq HP
        go_wp2_with (go_at_fn g; refine hcall.mono ?_; rintro e w' ⟨rfl, hb'⟩)
        go_ret
        exact ⟨ret_int (HH.out HQ.out hall.out).symm, hb'⟩
      | false =>
        rw [hq] at hcall
        have HQ : Hid (p l[k]! = false) := HP.out.trans hq
        clear hq HP
        go_wp2_with (go_at_fn g; refine hcall.mono ?_; rintro e w' ⟨rfl, hb'⟩)
        go_roundw
        case measure => simp [intOf]; omega
        case rel =>
          refine ⟨k + 1, by omega, by go_num, hb', fun j hj => ?_⟩
          by_cases e : j = k
          · subst e; exact HQ.out
          · exact hall.out j (by omega)
    · have : k = n := by omega
      subst this
      go_wp2
      go_ret
      exact ⟨ret_int (Vr.idx_miss (by rw [HL.out]; exact hall.out)).symm, hbw⟩

set_option maxHeartbeats 400000 in
theorem named_any (s : ByteArray) (B : Nat) (hB : B < w.heap.size) (hc : w.cell? ⟨B, 0, none⟩ = some (.string s)) (W : World) (v : Vr.V) (hb : Below w.heap.size w W) :
    Calls Tryz.prog 183 (#[v.val] ++ #[.pointer (some ⟨B, 0, none⟩)]) W fun e w' => e = .returned (.bool (Vr.named s v)) ∧ Below w.heap.size w w' := by
  have hc' : W.cell? ⟨B, 0, none⟩ = some (.string s) := (hb.cell (p := ⟨B, 0, none⟩) hB).trans hc
  have hBW : B < W.heap.size := Nat.lt_of_lt_of_le hB hb.size
  have hne : B ≠ W.heap.size := by omega
  unfold Vr.V.val
  show Calls Tryz.prog 183 #[_, _] W _
  go_enter Tryz.func183, Tryz.ntmps183
  go_wp2
  go_ret
  exact ⟨ret_bool (Vr.eq_of _ _), hb.alloc hb.size _⟩

set_option maxHeartbeats 800000 in
theorem place_any (A : Option Addr) (n c : Nat) (l : List Vr.V) (s : ByteArray) (hr : VRow w w.heap.size A n l) (hn : n ≤ 9223372036854775807) :
    Calls Tryz.prog 172 #[.slice A n c, .string s] w fun e w' => e = .returned (.int .i64 (Vr.idx (Vr.named s) l)) ∧ Below w.heap.size w w' := by
  have eg : ∀ args w, (callFunc 183 args).run Tryz.prog w = .ok (.enter 183 args) w := enters_of Tryz.func183 (by kernel_rfl) rfl
  have hb1 : Below w.heap.size w (w.alloc (.cells #[.string s] 9)) := (Below.refl _ _).alloc (Nat.le_refl _) _
  have hcon := idx_any (w := w.alloc (.cells #[.string s] 9)) 183 #[.pointer (some ⟨w.heap.size, 0, none⟩)] (Vr.named s) eg A n c l (named_any s w.heap.size (by simp) (by simp)) ((hr.below hb1 (Nat.le_refl _)).mono (by simp)) hn
  generalize Vr.idx (Vr.named s) l = r at *
  go_enter Tryz.func172, Tryz.ntmps172
  go_wp2_with (go_at_call 182; refine hcon.mono ?_; rintro e w' ⟨rfl, hb'⟩)
  go_ret
  exact ⟨rfl, hb1.trans (hb'.mono (by simp))⟩

/-- A value of the outcome of Get. -/
def getV (r : Vr.V × Bool) : Value := .tuple #[r.1.inner, .bool r.2]
set_option maxHeartbeats 800000 in
theorem get_any (A : Option Addr) (n c : Nat) (l : List Vr.V) (s : ByteArray) (hr : VRow w w.heap.size A n l) (hn : n ≤ 9223372036854775807) :
    Calls Tryz.prog 156 #[.slice A n c, .string s] w fun e w' => e = .returned (getV (Vr.get l s)) ∧ Below w.heap.size w w' := by
  have HL := Lib.hid hr.len
  have hb1 : Below w.heap.size w (w.alloc (.cells #[.int .i64 0, .int .i64 0, .string ⟨#[]⟩] 94)) := (Below.refl _ _).alloc (Nat.le_refl _) _
  have hcon := place_any (w := w.alloc (.cells #[.int .i64 0, .int .i64 0, .string ⟨#[]⟩] 94)) A n c l s ((hr.below hb1 (Nat.le_refl _)).mono (by simp)) hn
  have HG := Lib.hid (show Vr.get l s = _ from rfl)
  have hcs := Vr.idx_cases (Vr.named s) l
  unfold Vr.get at HG
  change Hid (Vr.get l s = _) at HG
  generalize Vr.get l s = R at *
  generalize Vr.idx (Vr.named s) l = r at *
  rcases hcs with ⟨rfl, _⟩ | ⟨k, rfl, hk, _⟩
  · go_enter Tryz.func156, Tryz.ntmps156
    go_wp2_with fail
    refine hcon.mono ?_
    rintro e w' ⟨rfl, hb'⟩
    obtain rfl : R = (default, false) := HG.out
    have hbw : Below w.heap.size w w' := hb1.trans (hb'.mono (by simp))
    obtain ⟨cc, cf⟩ := bcell hb'
    go_wp2
    refine bodyPost_ret (v := .tuple #[.agg #[.int .i64 0, .int .i64 0, .string ⟨#[]⟩], .bool false]) (by simp [results, Tryz.results156, go_sem, cc]) rfl ⟨rfl, ?_⟩
    exact ((hbw.setCell (Nat.le_refl _) _).setCell (Nat.le_refl _) _).setCell (Nat.le_refl _) _
  · obtain ⟨v, hv⟩ : ∃ v, v = l[k]! := ⟨_, rfl⟩
    obtain rfl : R = (v, true) := by
      have := HG.out
      rw [if_pos (by omega)] at this
      rw [this, hv]
      simp
    have HV := Lib.hid hv
    clear hv
    clear HG
    have hkn : k < n := by have := HL.out; omega
    go_enter Tryz.func156, Tryz.ntmps156
    go_wp2_with fail
    refine hcon.mono ?_
    rintro e w' ⟨rfl, hb'⟩
    have hbw : Below w.heap.size w w' := hb1.trans (hb'.mono (by simp))
    obtain ⟨b, off, rfl, hbb, c0, c1, c2, c3⟩ := hr.at_ hkn
    obtain ⟨cc, cf⟩ := bcell hb'
    have hkI : (k : Int) < (n : Int) := by omega
    have hk0 : (0 : Int) ≤ (k : Int) := by omega
    rw [← HV.out] at c0 c1 c2 c3
    go_wp2
    refine bodyPost_ret (v := .tuple #[.agg #[.int .i64 v.kind, .int .i64 v.num, .string v.text], .bool true]) (by simp [results, Tryz.results156, go_sem, cc]) rfl ⟨rfl, ?_⟩
    exact ((hbw.setCell (Nat.le_refl _) _).setCell (Nat.le_refl _) _).setCell (Nat.le_refl _) _
end
end Go.Proofs.YtkffnfgdmcebdaaGreatDoor
