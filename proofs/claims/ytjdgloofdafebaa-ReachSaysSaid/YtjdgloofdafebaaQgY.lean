/- container/heap over places: Len, Less, Swap, Push, Pop, and how they are found. -/
import Derived.Test.YtjdgloofdafebaaQfY
import Derived.Test.YtjdgloofdafebaaQh
namespace Go.Proofs.Ytjdgloofdafebaa
open Go.RowKit

namespace Pr
theorem load_sl {q : Nat} {w : World} {A : Option Addr} {n c : Nat} (h : w.cell? ⟨q, 0, none⟩ = some (.slice A n c)) : (loadVar 65 ⟨q, 0, none⟩).run Try.prog w = .ok (.slice A n c) w := by
  simp [loadVar, go_sem, h]
theorem mPush (p : Value) (w : World) : (Go.method 196 69 p "Push").run Try.prog w = .ok (62, p) w := by kernel_rfl
theorem mPop (p : Value) (w : World) : (Go.method 196 69 p "Pop").run Try.prog w = .ok (61, p) w := by kernel_rfl
theorem mLen0 (p : Value) (w : World) : (Go.method 196 69 p "Len").run Try.prog w = (do let (xt, x) ← Go.follow [⟨67, 0, true⟩] 69 (.val p); pure (37, ← Go.receiverAt xt x false none) : Sem (FuncId × Value)).run Try.prog w := by kernel_rfl
theorem mLess0 (p : Value) (w : World) : (Go.method 196 69 p "Less").run Try.prog w = (do let (xt, x) ← Go.follow [⟨67, 0, true⟩] 69 (.val p); pure (58, ← Go.receiverAt xt x false none) : Sem (FuncId × Value)).run Try.prog w := by kernel_rfl
theorem mSwap0 (p : Value) (w : World) : (Go.method 196 69 p "Swap").run Try.prog w = (do let (xt, x) ← Go.follow [⟨67, 0, true⟩] 69 (.val p); pure (60, ← Go.receiverAt xt x false none) : Sem (FuncId × Value)).run Try.prog w := by kernel_rfl
section
variable {q : Nat} {w : World} {A : Option Addr} {n c : Nat} (h : w.cell? ⟨q, 0, none⟩ = some (.slice A n c))
include h
theorem mLen : (Go.method 196 69 (.pointer (some ⟨q, 0, none⟩)) "Len").run Try.prog w = .ok (37, .slice A n c) w := by
  rw [mLen0]
  simp [go_sem, Go.follow, Go.receiverAt, Place.get, h]
theorem mLess : (Go.method 196 69 (.pointer (some ⟨q, 0, none⟩)) "Less").run Try.prog w = .ok (58, .slice A n c) w := by
  rw [mLess0]
  simp [go_sem, Go.follow, Go.receiverAt, Place.get, h]
theorem mSwap : (Go.method 196 69 (.pointer (some ⟨q, 0, none⟩)) "Swap").run Try.prog w = .ok (60, .slice A n c) w := by
  rw [mSwap0]
  simp [go_sem, Go.follow, Go.receiverAt, Place.get, h]
end
/-- From w to w' nothing has changed but block q, the row A and new ones; the row is A' then. -/
structure Mv (w w' : World) (q : Nat) (A A' : Option Addr) : Prop where
  os : w'.os = w.os
  tape : w'.tape = w.tape
  output : w'.output = w.output
  size : w.heap.size ≤ w'.heap.size
  block : ∀ b, b < w.heap.size → b ≠ q → (∀ a, A = some a → a.block ≠ b) → w'.heap[b]? = w.heap[b]?
  new : ∀ a', A' = some a' → (∃ a, A = some a ∧ a.block = a'.block) ∨ w.heap.size ≤ a'.block
/-- The heap in memory: the struct in block q holds a row of one's own. -/
structure PL (w : World) (base q : Nat) (A : Option Addr) (n c : Nat) (l : List Nat) : Prop where
  cel : Cel w q [.slice A n c]
  own : OwnK iκ w base 3 A n c (l.map Int.ofNat)
  ne : ∀ a, A = some a → a.block ≠ q
section
variable {w w' w1 w2 : World} {base q n c : Nat} {A A' A1 A2 : Option Addr} {l l' : List Nat}
theorem PL.len (h : PL w base q A n c l) : l.length = n := by simpa using h.own.len
theorem PL.most (h : PL w base q A n c l) : n ≤ 9223372036854775807 := Nat.le_trans h.own.cap h.own.most
theorem Mv.refl (w : World) (q : Nat) (A : Option Addr) : Mv w w q A A := ⟨rfl, rfl, rfl, Nat.le_refl _, fun _ _ _ _ => rfl, fun a h => .inl ⟨a, h, rfl⟩⟩
theorem Mv.trans (h : Mv w w1 q A A1) (k : Mv w1 w2 q A1 A2) : Mv w w2 q A A2 where
  os := k.os.trans h.os
  tape := k.tape.trans h.tape
  output := k.output.trans h.output
  size := Nat.le_trans h.size k.size
  block b hb hq ha := (k.block b (Nat.lt_of_lt_of_le hb h.size) hq fun a e e2 => by
    rcases h.new a e with ⟨a0, h0, h1⟩ | h1
    · exact ha a0 h0 (h1.trans e2)
    · omega).trans (h.block b hb hq ha)
  new a' e := by
    rcases k.new a' e with ⟨a1, h1, h2⟩ | h2
    · rcases h.new a1 h1 with ⟨a0, h3, h4⟩ | h3
      · exact .inl ⟨a0, h3, h4.trans h2⟩
      · right; omega
    · right; have := h.size; omega
theorem Mv.grown (h : w.grownBy w' (some q)) : Mv w w' q A A := ⟨h.os, h.tape, h.output, h.size, fun b hb hq _ => h.block b hb (fun e => hq (Option.some.inj e.symm).symm), fun a e => .inl ⟨a, e, rfl⟩⟩
theorem Mv.none (h : w.grownBy w' none) : Mv w w' q A A := ⟨h.os, h.tape, h.output, h.size, fun b hb _ _ => h.block b hb (by simp), fun a e => .inl ⟨a, e, rfl⟩⟩
theorem Mv.row {g : Nat} (h : w.grownBy w' (some g)) (hA : A = some ⟨g, 0, Option.none⟩) : Mv w w' q A A := ⟨h.os, h.tape, h.output, h.size, fun b hb _ ha => h.block b hb (fun e => ha _ hA (Option.some.inj e).symm), fun a e => .inl ⟨a, e, rfl⟩⟩
theorem Mv.below (h : Below w.heap.size w w') : Mv w w' q A A := Mv.none (grown_none h (Nat.le_refl _))
theorem PL.below (h : PL w base q A n c l) (hb : Below w.heap.size w w') : PL w' base q A n c l := ⟨h.cel.below hb (Nat.le_refl _), h.own.below hb (Nat.le_refl _), h.ne⟩
theorem PL.drewN (h : PL w base q A n c l) (k : Nat) : PL (w.drewN k) base q A n c l := h.below (below_drewN (Below.refl _ _) k)
theorem len_any (A : Option Addr) (n c : Nat) (w : World) : Calls Try.prog 37 #[.slice A n c] w fun e w' => e = .returned (.int .i64 (n : Int)) ∧ w = w' := by
  go_enter Try.func37, Try.ntmps37
  go_wp2
  go_ret
  exact ⟨rfl, rfl⟩
theorem map_at {l : List Nat} {i : Nat} (h : i < l.length) : (l.map Int.ofNat)[i]! = (l[i]! : Int) := by
  rw [getElem!_pos (l.map Int.ofNat) i (by simpa using h), getElem!_pos l i h]; simp
def IsLess (b : Bool) (w : World) (e : Ending) (w' : World) : Prop := e = .returned (.bool b) ∧ ∃ n, w' = w.drewN n
set_option maxHeartbeats 800000 in
theorem less_any (h : PL w base q A n c l) (i j : Nat) (hi : i < n) (hj : j < n) :
    Calls Try.prog 58 #[.slice A n c, .int .i64 (i : Int), .int .i64 (j : Int)] w (IsLess (decide (l[i]! < l[j]!)) w) := by
  have hl := h.len
  have hK := h.own.row
  obtain ⟨b, off, rfl, _, _⟩ := hK.2 (by omega)
  have c1 := iκ_cells hK hi
  have c2 := iκ_cells hK hj
  rw [map_at (by omega)] at c1
  rw [map_at (by omega)] at c2
  obtain ⟨R, hR⟩ : ∃ R, decide (l[i]! < l[j]!) = R := ⟨_, rfl⟩
  have hR2 : decide (((l[i]! : Nat) : Int) < ((l[j]! : Nat) : Int)) = R := by rw [← hR, decide_eq_decide]; omega
  rw [hR]
  have h0 : (0 : Int) ≤ (i : Int) := by omega
  have h1 : (0 : Int) ≤ (j : Int) := by omega
  have h2 : (i : Int) < (n : Int) := by omega
  have h3 : (j : Int) < (n : Int) := by omega
  generalize l[i]! = x at *
  generalize l[j]! = y at *
  have HR2 := Lib.hid hR2
  clear hK hR hR2 h hl
  go_enter Try.func58, Try.ntmps58
  go_wp2_with fail
  go_quiet (fail)
  go_wp2
  go_ret
  exact ⟨by rw [← HR2.out]; simp, _, rfl⟩
theorem flat_int (l : List Int) : l.flatMap iκ.cs = l.map (Value.int .i64) := by
  induction l with
  | nil => rfl
  | cons x l ih => rw [List.flatMap_cons, ih]; rfl
theorem own_set {g : Nat} {e : TypeId} {l : List Int} (h : OwnK iκ w base e (some ⟨g, 0, none⟩) n c l) (j : Nat) (v : Int) : OwnK iκ (w.setCell ⟨g, j, none⟩ (.int .i64 v)) base e (some ⟨g, 0, none⟩) n c (l.set j v) := by
  refine ⟨h.1, ?_⟩
  have h1 := (World.ownsRow.stored h.2 j (.int .i64 v)).1
  rw [flat_int, List.map_set, ← flat_int]
  exact h1
/-- The heap is another list of the same row. -/
def Swapped (base q : Nat) (A : Option Addr) (n c : Nat) (l' : List Nat) (w : World) (e : Ending) (w' : World) : Prop := e = .returned (.tuple #[]) ∧ PL w' base q A n c l' ∧ Mv w w' q A A
set_option maxHeartbeats 800000 in
theorem swap_any (h : PL w base q A n c l) (i j : Nat) (hi : i < n) (hj : j < n) :
    Calls Try.prog 60 #[.slice A n c, .int .i64 (i : Int), .int .i64 (j : Int)] w (Swapped base q A n c (Rc.swap l i j) w) := by
  have hl := h.len
  have hK := h.own.row
  obtain ⟨g, rfl, hgb, hgl⟩ := h.own.some_of (by omega)
  have c1 := iκ_cells hK hi
  have c2 := iκ_cells hK hj
  rw [map_at (by omega), Nat.zero_add] at c1
  rw [map_at (by omega), Nat.zero_add] at c2
  have f1 := h.own.frozen i
  have f2 := h.own.frozen j
  have h0 : (0 : Int) ≤ (i : Int) := by omega
  have h1 : (0 : Int) ≤ (j : Int) := by omega
  have h2 : (i : Int) < (n : Int) := by omega
  have h3 : (j : Int) < (n : Int) := by omega
  have HO : Hid (Swapped base q (some ⟨g, 0, none⟩) n c (Rc.swap l i j) w (.returned (.tuple #[])) ((w.drew.setCell ⟨g, i, none⟩ (.int .i64 (l[j]! : Int))).setCell ⟨g, j, none⟩ (.int .i64 (l[i]! : Int)))) := by
    have hd : Below w.heap.size w w.drew := (Below.refl _ _).drew
    have hg : w.grownBy ((w.drew.setCell ⟨g, i, none⟩ (.int .i64 (l[j]! : Int))).setCell ⟨g, j, none⟩ (.int .i64 (l[i]! : Int))) (some g) := grown_trans (grown_trans ((grown_drew w (some g))) (grown_setCell _ ⟨g, i, none⟩ _)) (grown_setCell _ ⟨g, j, none⟩ _)
    refine ⟨rfl, ⟨h.cel.kept hg (fun e => h.ne _ rfl (Option.some.inj e)), ?_, h.ne⟩, Mv.row hg rfl⟩
    have h5 := own_set (own_set (h.own.below hd (Nat.le_refl _)) i (l[j]! : Int)) j (l[i]! : Int)
    unfold Rc.swap
    rw [List.map_set, List.map_set]
    exact h5
  clear hK h hl
  by_cases hij : i = j
  · subst hij
    generalize l[i]! = x at *
    go_enter Try.func60, Try.ntmps60
    go_wp2_with fail
    go_region
    try simp only [Exit.inBlock, Exit.then]
    first | (refine bodyPost_ret (results_none rfl _ _ _) rfl ?_) | (refine bodyPost_end (results_none rfl _ _ _) rfl ?_)
    exact HO.out
  · have hji : ¬ j = i := fun e => hij e.symm
    generalize l[i]! = x at *
    generalize l[j]! = y at *
    go_enter Try.func60, Try.ntmps60
    go_wp2_with fail
    go_region
    try simp only [Exit.inBlock, Exit.then]
    first | (refine bodyPost_ret (results_none rfl _ _ _) rfl ?_) | (refine bodyPost_end (results_none rfl _ _ _) rfl ?_)
    exact HO.out
end
end Pr
end Go.Proofs.Ytjdgloofdafebaa
