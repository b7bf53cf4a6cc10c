/- The rows of package cond's walks: the words that it lists, the sentinels that it tells. Walks of package vars: rows of variables of the call's own are copied, written, grown. Mathematics of package token: tokens on a board, which can go on, one move. -/
import Derived.Test.YtlmlhjepolefaaaGreatDoorYTokenChoices2
import Derived.Test.YtlmlhjepolefaaaGreatDoorYTokenChoices14
import Derived.Test.YtlmlhjepolefaaaGreatDoorYTokenChoices1
import Derived.Lib.LaidTab
import Derived.Test.YtlmlhjepolefaaaGreatDoorViY
import Derived.Test.YtlmlhjepolefaaaGreatDoorYTokenChoices10
import Derived.OwnWalk
import Derived.Laws.CopyRow
import Derived.Lib.Overlaps
import Derived.Lib.AppendZerosOnto
import Derived.Laws.Externs
import Derived.Laws.NewBlocks
import Derived.Deep.RegionLaw
import Derived.Test.YtlmlhjepolefaaaGreatDoorQfY
import Derived.Test.YtlmlhjepolefaaaGreatDoorYTokenChoices12
namespace Go.Proofs.YtlmlhjepolefaaaGreatDoor
open Go.RowKit

/-- An array of texts that reads as a list holds the list's texts. -/
theorem cells_of_texts {H : Type} {enc : TypeId × Value → H} {P : Program} {w : World} {base : Nat} {sp : Nat → Bool} {held : Bool} {fuel : Nat} {t e : TypeId} {n : Nat} {cs : List Value} {ss : List (List UInt8)} {p : List MemPlace}
    (ht : P.underlying t = some (.array n e)) (he : P.underlying e = some .string) (hce : P.cellsOf e = 1) (hct : P.cellsOf t = n)
    (h : DataW.trod enc P w base sp held fuel t cs = some (.agg (ss.map fun s => .lit (.string s)), p)) : cs = ss.map fun s => Value.string ⟨s.toArray⟩ := by
  cases fuel with
  | zero => simp [DataW.trod] at h
  | succ fuel =>
    simp only [DataW.trod, ht, hce, hct, Nat.mul_one] at h
    split at h
    · rename_i hl
      obtain ⟨xs, hm, hx⟩ := Option.map_eq_some_iff.1 h
      have hxs : xs.map (·.1) = ss.map fun s => (DataW.lit (.string s) : DataW H) := by
        have := congrArg Prod.fst hx
        simpa using this
      have hxl : xs.length = n := by simpa using Lib.mapM_length hm
      have hzl : ss.length = n := by
        have := congrArg List.length hxs
        simp at this
        omega
      apply List.ext_getElem?
      intro i
      by_cases hi : i < n
      · obtain ⟨b, hb, hf⟩ := Lib.mapM_at hm i i (by simp [hi])
        obtain ⟨z, hc, rfl, _⟩ := DataW.trod_string he hf
        have h1 : cs[i]? = some (.string z) := by
          have := congrArg (·[0]?) hc
          simpa [List.getElem?_take, List.getElem?_drop] using this
        have h2 : (xs.map (·.1))[i]? = some (DataW.lit (.string z.data.toList) : DataW H) := by simp [hb]
        rw [hxs] at h2
        simp only [List.getElem?_map, Option.map_eq_some_iff, DataW.lit.injEq, Lit.string.injEq] at h2
        obtain ⟨z', hz', rfl⟩ := h2
        simp [h1, hz']
      · rw [List.getElem?_eq_none (by omega), List.getElem?_eq_none (by simp; omega)]
    · cases h

/-- The words of package cond lie in its table. -/
def CoWords (W : World) : Prop := ∀ i : Nat, i < 18 → W.cell? ⟨16, i, none⟩ = some (.string ⟨(Co.words[i]!).toArray⟩)
theorem tab_cond_words {W : World} {rest : List (String × DataW Unit)} (h : laidMet Tryz.prog (("leasehold/cond.words", Rows.laid_leasehold_cond_words) :: rest) W) : CoWords W := by
  have hg : Tryz.prog.globalNamed "leasehold/cond.words" = some 16 := by kernel_rfl
  have hty : (Tryz.prog.globals[16]?).map (·.type) = some 147 := by kernel_rfl
  obtain ⟨ps, ⟨g', t', cs, fuel, p, q, hg', ht', hvar, hd, _, _⟩, _⟩ := h
  obtain rfl := Option.some.inj (hg.symm.trans hg')
  obtain rfl := Option.some.inj (hty.symm.trans ht')
  have hcs := cells_of_texts (ss := Co.words) Tryz.underlying147 Tryz.underlying9 (by kernel_rfl) (by kernel_rfl) hd
  intro i hi
  have hv : W.var? Tryz.prog "leasehold/cond.words" = some (Co.words.map fun s => Value.string ⟨s.toArray⟩).toArray := by rw [hvar, ← hcs]
  have := World.var?_cell hg hv i
  have hl : Co.words.length = 18 := rfl
  rw [this]
  simp [hl, hi]
section
variable {W : World} {ads : List Addr}
def pos6 (c : Int) : Nat := if c = 105 then 0 else if c = 108 then 1 else if c = 110 then 2 else if c = 111 then 3 else if c = 112 then 4 else if c = 113 then 5 else 100
theorem coErrs6 (hE : Errs W 185 [6, 8, 10, 11, 12, 13] ads) (hW : CoWords W) : CoErrs W (errMap pos6 ads) where
  e105 := errIn_of hE 105 0 _ rfl rfl
  e111 := errIn_of hE 111 3 _ rfl rfl
  e112 := errIn_of hE 112 4 _ rfl rfl
  words := hW
theorem coErrsE6 (hE : Errs W 185 [6, 8, 10, 11, 12, 13] ads) (hW : CoWords W) : CoErrsE W (errMap pos6 ads) where
  toCoErrs := coErrs6 hE hW
  e108 := errIn_of hE 108 1 _ rfl rfl
  e110 := errIn_of hE 110 2 _ rfl rfl
  e113 := errIn_of hE 113 5 _ rfl rfl
theorem coErrs16 (hE : Errs W 185 sents ads) (hW : CoWords W) : CoErrs W (errMap pos16 ads) where
  e105 := errIn_of hE 105 4 _ rfl rfl
  e111 := errIn_of hE 111 10 _ rfl rfl
  e112 := errIn_of hE 112 11 _ rfl rfl
  words := hW
theorem coErrsE16 (hE : Errs W 185 sents ads) (hW : CoWords W) : CoErrsE W (errMap pos16 ads) where
  toCoErrs := coErrs16 hE hW
  e108 := errIn_of hE 108 7 _ rfl rfl
  e110 := errIn_of hE 110 9 _ rfl rfl
  e113 := errIn_of hE 113 12 _ rfl rfl
end
end Go.Proofs.YtlmlhjepolefaaaGreatDoor
namespace Go.Proofs.YtlmlhjepolefaaaGreatDoor
open Go.RowKit

theorem info_var : (Tryz.prog.info? 52).map (fun i => (i.zero, i.size, i.bytes)) = some (some (.agg #[.string ⟨#[]⟩, .int .i64 0, .int .i64 0, .string ⟨#[]⟩]), 4, 48) := by kernel_rfl

/-- A copy of elements of several cells, into a row that is known whole. -/
theorem run_copy_rowS (P : Program) (w : World) (dT sT ty elem : TypeId) (g o dLen dCap : Nat) (a : Addr) (sLen sCap : Nat) (cur : Array Value) (t : TypeId) (cs : List Value) (sz : Nat)
    (hu : P.underlying dT = some (.slice elem)) (hs : (P.info? elem).map (·.size) = some sz)
    (hg : w.heap[g]? = some (.cells cur t (0, 0))) (hn : cs.length = Nat.min sLen dLen * sz)
    (hsrc : ∀ j v, cs[j]? = some v → w.cell? (a.add j) = some v) (hfit : o + cs.length ≤ cur.size) (h1 : ∀ v ∈ cs, v.oneCell' = true) :
    (Builtin.copy_ #[dT, sT] ty #[.slice (some ⟨g, o, none⟩) dLen dCap, .slice (some a) sLen sCap]).run P w =
      .ok (goInt (Nat.min sLen dLen)) (w.setRow g (cur.toList.take o ++ cs ++ cur.toList.drop (o + cs.length)).toArray) := by
  have hl := run_loadCells_list (P := P) w a cs hsrc
  have hst := run_storeCells_at P g o t cs 0 cur w hg (by simpa using hfit) h1
  cases hq : P.info? elem with
  | none => simp [hq] at hs
  | some i =>
    have hi : i.size = sz := by simpa [hq] using hs
    simp [Builtin.copy_, run_underlying hu, Builtin.lenOf, Builtin.firstCells, sizeOf, typeInfo, hq, hi, ← hn, hl, hst]

section
variable {P : Program} {w w' : World} {ops : Array Oper} {rest : List Oper} {o : Oper} {a : Act} {K : Act → World → Prop} {Q : Exit → Act → World → Prop} {E : Prop} {v' : Value}
theorem copy_wp (d x : Operand) (dT sT : TypeId) (ho : o.op = .call { callee := .builtin .copy, args := #[d, x], argTypes := #[dT, sT] }) (v u : Value) (hd : a.eval d = v) (hx : a.eval x = u)
    (hr : (Builtin.copy_ #[dT, sT] o.type #[v, u]).run P w = .ok v' w') (h : K (a.put o.dst v') w') : o.wp P a w K Q := by
  unfold Oper.wp execOp
  simp only [ho, resolve, invoke, builtin, Sem.run_bind, Sem.run_pure, Result.andThen_ok, List.map_toArray, List.map_cons, List.map_nil, hd, hx, hr]
  exact h
theorem copy_list (hgd : o.guard = none) (d x : Operand) (dT sT : TypeId) (ho : o.op = .call { callee := .builtin .copy, args := #[d, x], argTypes := #[dT, sT] }) (v u : Value) (hd : a.eval d = v) (hx : a.eval x = u)
    (hr : (Builtin.copy_ #[dT, sT] o.type #[v, u]).run P w = .ok v' w') (h : wpList P ops Q rest (a.put o.dst v') w') : wpList P ops Q (o :: rest) a w :=
  wpList_plain hgd fun _ hK => copy_wp d x dT sT ho v u hd hx hr (hK _ _ h)
theorem copy_step (hgd : o.guard = none) (d x : Operand) (dT sT : TypeId) (ho : o.op = .call { callee := .builtin .copy, args := #[d, x], argTypes := #[dT, sT] }) (v u : Value) (hd : a.eval d = v) (hx : a.eval x = u)
    (hr : (Builtin.copy_ #[dT, sT] o.type #[v, u]).run P w = .ok v' w') (h : K (a.put o.dst v') w') : if Region.wanted o (yielded ops a.tmps) = true then Oper.wp P o a w K Q else E := by
  rw [if_pos (by simp [Region.wanted, hgd])]
  exact copy_wp d x dT sT ho v u hd hx hr h
end

/-- The parts of a row into which one is put. -/
theorem put_between {α : Type} (L xs V : List α) (a m : Nat) (hx : L.take m = xs) (ham : a ≤ m) (hm : m + V.length ≤ L.length) :
    (((L.take (a + V.length) ++ xs.drop a ++ L.drop (a + V.length + (xs.drop a).length)).take a ++ V ++ (L.take (a + V.length) ++ xs.drop a ++ L.drop (a + V.length + (xs.drop a).length)).drop (a + V.length))).take (m + V.length) = xs.take a ++ V ++ xs.drop a := by
  have hxl : xs.length = m := by rw [← hx, List.length_take]; omega
  have h2 : L.take a = xs.take a := by rw [← hx, List.take_take, Nat.min_eq_left ham]
  have hD : (xs.drop a).length = m - a := by rw [List.length_drop, hxl]
  have hta : (xs.take a).length = a := by rw [List.length_take]; omega
  generalize xs.drop a = D at *
  generalize xs.take a = F at *
  obtain ⟨R, hR⟩ : ∃ R, R = L.drop (a + V.length + D.length) := ⟨_, rfl⟩
  obtain ⟨X, hX⟩ : ∃ X, X = L.take (a + V.length) := ⟨_, rfl⟩
  have hXl : X.length = a + V.length := by rw [hX, List.length_take]; omega
  have hXa : X.take a = F := by rw [hX, List.take_take, Nat.min_eq_left (by omega), h2]
  rw [← hR, ← hX]
  have e1 : (X ++ D ++ R).take a = F := by rw [List.append_assoc, List.take_append_of_le_length (by omega), hXa]
  have e2 : (X ++ D ++ R).drop (a + V.length) = D ++ R := by rw [List.append_assoc, ← hXl, List.drop_left]
  have e3 : (F ++ V ++ D).length = m + V.length := by simp only [List.length_append]; omega
  rw [e1, e2, ← List.append_assoc, ← e3, List.take_left]
theorem put_between_len {α : Type} (L D V : List α) (a : Nat) (hm : a + V.length + D.length ≤ L.length) :
    ((L.take (a + V.length) ++ D ++ L.drop (a + V.length + D.length)).take a ++ V ++ (L.take (a + V.length) ++ D ++ L.drop (a + V.length + D.length)).drop (a + V.length)).length = L.length := by
  simp; omega

namespace Vr
/-- One in the place of the one of its name, or where its name belongs. -/
def place (l : List V) (s : ByteArray) : Nat := if idx (behind s) l < 0 then l.length else (idx (behind s) l).toNat
def setOne (l : List V) (v : V) : List V := if 0 ≤ idx (named v.name) l then l.set (idx (named v.name) l).toNat v else l.take (place l v.name) ++ v :: l.drop (place l v.name)
theorem place_le (l : List V) (s : ByteArray) : place l s ≤ l.length := by
  unfold place
  rcases idx_cases (behind s) l with ⟨h, _⟩ | ⟨k, h, hk, _⟩
  · rw [h]; simp
  · rw [h, if_neg (by omega)]; simp; omega
theorem setOne_len (l : List V) (v : V) : l.length ≤ (setOne l v).length ∧ (setOne l v).length ≤ l.length + 1 := by
  unfold setOne
  have := place_le l v.name
  split
  · simp
  · simp; omega
theorem flat_set : ∀ (l : List V) (k : Nat) (v : V), k < l.length → ((((l.flatMap V.cells).set (k * 4) (.string v.name)).set (k * 4 + 1) (.int .i64 v.kind)).set (k * 4 + 2) (.int .i64 v.num)).set (k * 4 + 3) (.string v.text) = (l.set k v).flatMap V.cells
  | y :: l, 0, v, _ => by simp [V.cells]
  | y :: l, k + 1, v, h => by
    have ih := flat_set l k v (by simpa using h)
    rw [List.set_cons_succ, List.flatMap_cons, List.flatMap_cons, ← ih]
    have e : y.cells = [.string y.name, .int .i64 y.kind, .int .i64 y.num, .string y.text] := rfl
    rw [e]
    simp [Nat.add_mul]
theorem flat_take (l : List V) (k : Nat) : (l.take k).flatMap V.cells = (l.flatMap V.cells).take (k * 4) := by
  induction l generalizing k with
  | nil => simp
  | cons y l ih =>
    cases k with
    | zero => simp
    | succ k =>
      rw [List.take_succ_cons, List.flatMap_cons, List.flatMap_cons, ih, show (k + 1) * 4 = y.cells.length + k * 4 from by simp only [V.cells_len]; omega, List.take_length_add_append]
theorem flat_drop (l : List V) (k : Nat) : (l.drop k).flatMap V.cells = (l.flatMap V.cells).drop (k * 4) := by
  induction l generalizing k with
  | nil => simp
  | cons y l ih =>
    cases k with
    | zero => simp
    | succ k =>
      rw [List.drop_succ_cons, List.flatMap_cons, ih, show (k + 1) * 4 = y.cells.length + k * 4 from by simp only [V.cells_len]; omega, List.drop_length_add_append]
theorem flat_put (l : List V) (k : Nat) (v : V) : (l.take k ++ v :: l.drop k).flatMap V.cells = (l.flatMap V.cells).take (k * 4) ++ v.cells ++ (l.flatMap V.cells).drop (k * 4) := by
  rw [List.flatMap_append, List.flatMap_cons, flat_take, flat_drop, List.append_assoc]
end Vr

set_option maxHeartbeats 400000 in
theorem vclone_any (A : Option Addr) (n c : Nat) (l : List Vr.V) (w : World) (hr : VRow w w.heap.size A n l) (hA : A = none → n = 0 ∧ c = 0) (hn : n ≤ 1099511627776) :
    Calls Tryz.prog 24 #[.slice A n c] w fun e w' => ∃ A' c', e = .returned (.slice A' n c') ∧ OwnVars w' w.heap.size 52 A' n c' l ∧ Below w.heap.size w w' := by
  obtain ⟨i0, hi0, hz0, hz1, hz2⟩ := info_parts info_var
  have q0 : ∀ (w : World) (a : Option Addr) (n c n' c' : Nat), (binOp .eql 36 (.slice a n c) (.slice none n' c')).run Tryz.prog w = .ok (.bool a.isNone) w := fun w a n c n' c' => Lib.run_eql_slice_nil w _ _ a n c n' c' Tryz.underlying36
  cases A with
  | none =>
    obtain ⟨rfl, rfl⟩ := hA rfl
    go_enter Tryz.func24, Tryz.ntmps24
    go_wp2
    go_ret
    have hl : l = [] := List.eq_nil_of_length_eq_zero hr.len
    subst hl
    exact ⟨none, 0, rfl, World.ownsRow_nil _ _ _ _, Below.refl _ _⟩
  | some a =>
    go_enter Tryz.func24, Tryz.ntmps24
    have hb1 : Below w.heap.size w (w.alloc (.cells #[] 52)) := (Below.refl _ _).alloc (Nat.le_refl _) _
    go_wp2_with (at_builtin; refine append_row rfl (.tmp 5) (.tmp 6) _ rfl 52 i0 _ 4 48 Tryz.underlying36 hi0 hz0 hz1 hz2 rfl (by decide) w.heap.size _ 0 [] rfl (World.ownsRow_lit w #[] 0 (Nat.le_refl _) (by decide) rfl) w.heap.size _ n c (l.flatMap Vr.V.cells) rfl hA (hr.below hb1 (Nat.le_refl _)) (flat4_one l) ?h5 ?h6 hb1.size ?_)
    case h5 => unfold maxLen; omega
    case h6 => omega
    intro v2 w2 ho2 hg2 hat2
    obtain ⟨A2, c2, rfl, hA2⟩ := own_form ho2
    go_wp2
    go_ret
    refine ⟨A2, c2, ?_, ?_, hb1.grown hg2 hb1.size fun k hk => ?_⟩
    · simp
    · simpa [OwnVars] using ho2
    · simp [Value.ownBlock] at hk; omega
end Go.Proofs.YtlmlhjepolefaaaGreatDoor
namespace Go.Proofs.YtlmlhjepolefaaaGreatDoor
open Go.RowKit

namespace Pr
/-- A token. -/
structure Tk where
  id : Int
  node : Int
  inn : Int
  stuck : Bool
instance : Inhabited Tk := ⟨⟨0, 0, 0, false⟩⟩
def Tk.cells (t : Tk) : List Value := [.int .i64 t.id, .int .i64 t.node, .int .i64 t.inn, .bool t.stuck]
def Tk.val (t : Tk) : Value := .agg #[.int .i64 t.id, .int .i64 t.node, .int .i64 t.inn, .bool t.stuck]
def Tk.κ : Cs Tk := ⟨4, Tk.cells, fun _ => rfl, by
  intro x u hu
  simp only [Tk.cells, List.mem_cons, List.not_mem_nil, or_false] at hu
  rcases hu with rfl | rfl | rfl | rfl <;> rfl⟩
/-- A board: a process, its variables, tokens, the next ID. -/
structure Bd where
  p : P
  vars : List Vr.V
  toks : List Tk
  next : Int
/-- Tokens with IDs from k on. -/
def numb (k : Int) : List Tk → List Tk
  | [] => []
  | t :: l => { t with id := k } :: numb (k + 1) l
theorem numb_len : ∀ (k : Int) (l : List Tk), (numb k l).length = l.length
  | _, [] => rfl
  | k, _ :: l => congrArg (· + 1) (numb_len (k + 1) l)
theorem numb_snoc : ∀ (k : Int) (l : List Tk) (t : Tk), numb k (l ++ [t]) = numb k l ++ [{ t with id := k + l.length }]
  | k, [], t => by simp [numb]
  | k, y :: l, t => by
    rw [List.cons_append, numb, numb_snoc (k + 1) l t, numb, List.cons_append]
    rw [List.length_cons, show k + 1 + (l.length : Int) = k + ((l.length + 1 : Nat) : Int) from by push_cast; omega]
theorem numb_take_succ {l : List Tk} {j : Nat} (hj : j < l.length) (k : Int) : numb k (l.take (j + 1)) = numb k (l.take j) ++ [{ l[j]! with id := k + j }] := by
  rw [List.take_add_one, List.getElem?_eq_getElem hj, getElem!_pos l j hj]
  simp only [Option.toList_some]
  rw [numb_snoc, List.length_take, Nat.min_eq_left (Nat.le_of_lt hj)]
def Bd.put (b : Bd) (l : List Tk) : Bd := { b with toks := b.toks ++ numb b.next l, next := b.next + l.length }
/-- They stand by their IDs. -/
def Asc (l : List Tk) : Prop := l.Pairwise fun a b => a.id < b.id
/-- The place of the first one that is so; -1: there is none. -/
def fst (q : Tk → Bool) (l : List Tk) : Int := match l.findIdx? q with
  | some k => k
  | none => -1
theorem fst_cases (q : Tk → Bool) (l : List Tk) : (fst q l = -1 ∧ ∀ j, j < l.length → q l[j]! = false) ∨ ∃ k : Nat, fst q l = k ∧ k < l.length ∧ q l[k]! = true ∧ ∀ j, j < k → q l[j]! = false := by
  unfold fst
  cases h : l.findIdx? q with
  | none =>
    refine .inl ⟨rfl, fun j hj => ?_⟩
    rw [getElem!_pos l j hj]
    exact List.findIdx?_eq_none_iff.1 h _ (List.getElem_mem hj)
  | some k =>
    obtain ⟨hk, h1, h2⟩ := List.findIdx?_eq_some_iff_getElem.1 h
    refine .inr ⟨k, rfl, hk, by rw [getElem!_pos l k hk]; exact h1, fun j hj => ?_⟩
    rw [getElem!_pos l j (by omega)]
    simpa using h2 j hj
theorem fst_hit {q : Tk → Bool} {l : List Tk} {k : Nat} (hk : k < l.length) (h : q l[k]! = true) (h0 : ∀ j, j < k → q l[j]! = false) : fst q l = k := by
  unfold fst
  have : l.findIdx? q = some k := by
    rw [List.findIdx?_eq_some_iff_getElem]
    refine ⟨hk, by rw [← getElem!_pos l k hk]; exact h, fun j hj => ?_⟩
    rw [← getElem!_pos l j (by omega)]
    exact Bool.eq_false_iff.1 (h0 j hj)
  rw [this]
theorem fst_miss {q : Tk → Bool} {l : List Tk} (h0 : ∀ j, j < l.length → q l[j]! = false) : fst q l = -1 := by
  unfold fst
  have : l.findIdx? q = none := by
    rw [List.findIdx?_eq_none_iff]
    intro x hx
    obtain ⟨k, hk, rfl⟩ := List.mem_iff_getElem.1 hx
    rw [← getElem!_pos l k hk]
    exact h0 k hk
  rw [this]
theorem fst_le (q : Tk → Bool) (l : List Tk) : -1 ≤ fst q l ∧ fst q l < l.length := by
  rcases fst_cases q l with ⟨h, _⟩ | ⟨k, h, hk, _⟩ <;> rw [h] <;> omega
theorem fst_take {q : Tk → Bool} {l : List Tk} {j : Nat} (hj : j < l.length) :
    fst q (l.take (j + 1)) = if q l[j]! = true ∧ fst q (l.take j) = -1 then (j : Int) else fst q (l.take j) := by
  have e : l.take (j + 1) = l.take j ++ [l[j]!] := by
    rw [List.take_add_one, List.getElem?_eq_getElem hj, getElem!_pos l j hj]; rfl
  have hl : (l.take j).length = j := by rw [List.length_take]; omega
  unfold fst
  rw [e, List.findIdx?_append]
  cases h : (l.take j).findIdx? q with
  | some k => simp
  | none =>
    simp only [Option.none_or, List.findIdx?_singleton, hl]
    cases hq : q l[j]! <;> simp
theorem fst_asc {q : Tk → Bool} {l : List Tk} {j : Nat} (ha : Asc l) (hj : j < l.length) {k : Nat} (h : fst q (l.take j) = k) : l[k]!.id < l[j]!.id := by
  have hk := (fst_le q (l.take j)).2
  rw [h, List.length_take] at hk
  have hkj : k < j := by omega
  rw [getElem!_pos l k (by omega), getElem!_pos l j hj]
  exact List.pairwise_iff_getElem.1 ha k j _ _ hkj
/-- Is it a node's? -/
def atN (v : Int) (t : Tk) : Bool := t.node == v
def atB (v f : Int) (t : Tk) : Bool := t.node == v && t.inn == f
/-- Can a token of another node come to that one? -/
def More (b : Bd) (v : Int) : Prop := ∃ t ∈ b.toks, t.node ≠ v ∧ ∃ u : Nat, t.node = (u : Int) ∧ u < b.p.n ∧ Comes b.p.n (bck b.p.n b.p.flows b.p.m) v u
/-- P8.2: can the token at that place go on by itself? -/
def Rdy (b : Bd) (i : Int) : Prop := ∃ k : Nat, i = k ∧ k < b.toks.length ∧ b.toks[k]!.stuck = false ∧ ∃ u : Nat, b.toks[k]!.node = (u : Int) ∧ u < b.p.n ∧ b.p.nodes[u]!.kind ≠ 4 ∧
  (b.p.nodes[u]!.kind = 6 → 2 ≤ (insB b.p u).length → fst (atN u) b.toks = k ∧ ∀ f ∈ insB b.p u, fst (atB u f) b.toks ≠ -1) ∧
  (b.p.nodes[u]!.kind = 7 → 2 ≤ (insB b.p u).length → fst (atN u) b.toks = k ∧ ¬ More b u)
/-- A flow's condition: what is told, whether it holds. -/
def opens (vars : List Vr.V) (c : ByteArray) : Int × Bool :=
  if c.size = 0 then (0, true) else match Co.parse c.toList with
    | some (t, none) => Co.hold (Co.ev vars t)
    | _ => (0, false)
/-- What a gateway chooses: the error's number, the flows. -/
def finish (other : Int) (m : Nat) (acc : List Nat) : Int × List Nat :=
  if acc ≠ [] then (0, acc) else if 0 ≤ other ∧ other < m then (0, [other.toNat]) else (116, [])
def choose (b : Bd) (other : Int) (most : Nat) : List Nat → List Nat → Int × List Nat
  | [], acc => finish other b.p.m acc
  | f :: l, acc =>
    if acc.length = most then finish other b.p.m acc
    else if (f : Int) = other then choose b other most l acc
    else if (opens b.vars b.p.flows[f]!.cond).1 ≠ 0 then ((opens b.vars b.p.flows[f]!.cond).1, [])
    else choose b other most l (if (opens b.vars b.p.flows[f]!.cond).2 = true then acc ++ [f] else acc)
def outWays (b : Bd) (u : Nat) : Int × List Nat :=
  let nd := b.p.nodes[u]!
  let outs := outsB b.p u
  if nd.kind = 2 ∨ nd.kind = 3 then (0, [])
  else if nd.kind = 5 then if outs.length = 1 then (0, outs) else choose b nd.dflt 1 outs []
  else if nd.kind = 7 then choose b nd.dflt outs.length outs []
  else (0, outs)
/-- Which of the places go. -/
def goes (b : Bd) (i u : Nat) (k : Nat) : Bool :=
  let nd := b.p.nodes[u]!
  if nd.kind = 3 then true
  else if nd.kind = 6 then ((insB b.p u).map fun (f : Nat) => fst (atB (u : Int) (f : Int)) b.toks).contains (k : Int)
  else if nd.kind = 7 then b.toks[k]!.node == (u : Int)
  else decide (k = i)
def left (l : List Tk) (g : Nat → Bool) : List Tk := ((List.range l.length).filter fun k => !g k).map fun k => l[k]!
def come (p : P) (fs : List Nat) : List Tk := fs.map fun (f : Nat) => ⟨0, p.flows[f]!.til, (f : Int), false⟩
def moved (b : Bd) (g : Nat → Bool) (fs : List Nat) : Bd := Bd.put { b with toks := left b.toks g } (come b.p fs)
def stuckAt (b : Bd) (i : Nat) : Bd := { b with toks := b.toks.modify i fun t => { t with stuck := true } }
/-- P8.2: one move of a token that is ready: the board, whether it moved, the Code, the error's number. -/
def bstep (b : Bd) (i : Nat) : Bd × Bool × ByteArray × Int :=
  let u := b.toks[i]!.node.toNat
  let w := outWays b u
  let r := moved b (goes b i u) w.2
  let e := if w.1 ≠ 0 then w.1 else if 40 < r.toks.length then 104 else 0
  if e ≠ 0 then (stuckAt b i, false, no, e) else (r, true, if b.p.nodes[u]!.kind = 3 then b.p.nodes[u]!.code else no, 0)
end Pr
end Go.Proofs.YtlmlhjepolefaaaGreatDoor
