/- Words for walks: a slice that reads as a list of cells, whether nil, empty or not. Appending to memory of one's own: which blocks change; one byte, a string. What the listed package-level variables give a walk: each sentinel error's variable holds a pointer of its own, no two the same; a table of integers holds its numbers. Variables: plain mathematics. -/
import Derived.WalkKit
import Derived.WalkSpells
import Derived.Lib.Hide
import Derived.Maps.AppendAt
import Derived.Laws.AppendOwnNone
import Derived.Laws.OwnMore
import Derived.Laws.IdiomStrings
import Derived.WalkLawsBesides
import Derived.Lib.AppendStr
import Derived.Maps.Range
import Derived.Test.YtkffnfgdmcebdaaGreatDoorRows
import Derived.ProofKit
import Derived.LaidLaws
import Derived.Stop.LaidErr
import Derived.Lib.LaidTab
import Derived.KernelRfl
namespace Go.Proofs.YtkffnfgdmcebdaaGreatDoor
open Go.RowKit

theorem ret_int {k : IntKind} {a b : Int} (h : a = b) : Ending.returned (.int k a) = .returned (.int k b) := by rw [h]

theorem addr_add (b off j : Nat) : (⟨b, off, none⟩ : Addr).add j = ⟨b, off + j, none⟩ := by
  unfold Addr.add
  by_cases h : j = 0
  · subst h; simp
  · simp [h]

/-- The slice value '.slice A n c', of elements sz cells wide, reads as the cells l, all below block B. -/
def RowS (w : World) (B sz : Nat) (A : Option Addr) (n : Nat) (l : List Value) : Prop :=
  l.length = n * sz ∧ (0 < n → ∃ b off, A = some ⟨b, off, none⟩ ∧ b < B ∧ ∀ (k : Nat) (v : Value), l[k]? = some v → w.cell? ⟨b, off + k, none⟩ = some v)
/-- The same for elements of one cell. -/
def Row (w : World) (B : Nat) (A : Option Addr) (n : Nat) (l : List Value) : Prop := RowS w B 1 A n l

section
variable {w w' : World} {B B' n sz : Nat} {A : Option Addr} {l : List Value}
theorem RowS.keep (h : RowS w B sz A n l) (hk : ∀ b off, b < B → w'.cell? ⟨b, off, none⟩ = w.cell? ⟨b, off, none⟩) : RowS w' B sz A n l :=
  ⟨h.1, fun hn => by
    obtain ⟨b, off, rfl, hlt, hc⟩ := h.2 hn
    exact ⟨b, off, rfl, hlt, fun k v hv => (hk b _ hlt).trans (hc k v hv)⟩⟩
theorem RowS.below (h : RowS w B sz A n l) {b0 : Nat} (hb : Below b0 w w') (hB : B ≤ b0) : RowS w' B sz A n l :=
  h.keep fun b off hlt => hb.cell (p := ⟨b, off, none⟩) (Nat.lt_of_lt_of_le hlt hB)
theorem RowS.mono (h : RowS w B sz A n l) (hB : B ≤ B') : RowS w B' sz A n l :=
  ⟨h.1, fun hn => by
    obtain ⟨b, off, rfl, hlt, hc⟩ := h.2 hn
    exact ⟨b, off, rfl, Nat.lt_of_lt_of_le hlt hB, hc⟩⟩
theorem RowS.nil (w : World) (B sz : Nat) (A : Option Addr) : RowS w B sz A 0 [] := ⟨by simp, fun h => absurd h (Nat.lt_irrefl 0)⟩
theorem RowS.own {base : Nat} {e : TypeId} {c : Nat} (h : w.ownsRow base e sz (.slice A n c) n l) : RowS w w.heap.size sz A n l := by
  refine ⟨h.1, fun hn => ?_⟩
  rcases h.2 with ⟨_, h0⟩ | ⟨g, cap, cur, hv, hg, hh, _, _, hsz, hxs⟩
  · omega
  · injection hv with hA _ _
    subst hA
    have hlt : g < w.heap.size := by
      rcases Nat.lt_or_ge g w.heap.size with h' | h'
      · exact h'
      · rw [Array.getElem?_eq_none h'] at hh; cases hh
    refine ⟨g, 0, rfl, hlt, fun k v hk => ?_⟩
    exact (congrArg w.cell? (addr_add g 0 k)).symm.trans (h.cells (g := g) rfl k v hk)
theorem Row.len (h : Row w B A n l) : l.length = n := by simpa using h.1
theorem Row.nil (w : World) (B : Nat) (A : Option Addr) : Row w B A 0 [] := RowS.nil w B 1 A
theorem Row.below (h : Row w B A n l) {b0 : Nat} (hb : Below b0 w w') (hB : B ≤ b0) : Row w' B A n l := RowS.below h hb hB
theorem Row.mono (h : Row w B A n l) (hB : B ≤ B') : Row w B' A n l := RowS.mono h hB
/-- A part: from i on, k of them. -/
theorem Row.part (h : Row w B A n l) {i k : Nat} (hik : i + k ≤ n) : Row w B (A.map (·.add i)) k ((l.drop i).take k) := by
  refine ⟨by simp [h.len]; omega, fun hk => ?_⟩
  obtain ⟨b, off, rfl, hlt, hc⟩ := h.2 (by omega)
  refine ⟨b, off + i, ?_, hlt, fun j v hj => ?_⟩
  · exact congrArg some (addr_add b off i)
  · rw [List.getElem?_take] at hj
    split at hj
    · rw [List.getElem?_drop] at hj
      rw [show off + i + j = off + (i + j) from by omega]
      exact hc _ _ hj
    · cases hj
end

theorem cell_lt {w : World} {a : Addr} {v : Value} (h : w.cell? a = some v) : a.block < w.heap.size := by
  rcases Nat.lt_or_ge a.block w.heap.size with h' | h'
  · exact h'
  · simp [World.cell?, Array.getElem?_eq_none h'] at h

theorem Row.at_ {w : World} {B n : Nat} {A : Option Addr} {l : List Value} (h : Row w B A n l) {k : Nat} (hk : k < n) :
    ∃ b off, A = some ⟨b, off, none⟩ ∧ b < B ∧ w.cell? ⟨b, off + k, none⟩ = some (l[k]'(by rw [h.len]; exact hk)) := by
  obtain ⟨b, off, rfl, hlt, hc⟩ := h.2 (by omega)
  exact ⟨b, off, rfl, hlt, hc k _ (by simp [h.len, hk])⟩

/-- A row that was just laid. -/
theorem Row.lit (w : World) (cs : Array Value) (t : TypeId) : Row (w.alloc (.cells cs t)) (w.heap.size + 1) (some ⟨w.heap.size, 0, none⟩) cs.size cs.toList := by
  refine ⟨by simp, fun _ => ⟨w.heap.size, 0, rfl, by omega, fun k v hk => ?_⟩⟩
  have := cell_of_row (w.alloc (.cells cs t)) w.heap.size k cs t (0, 0) (heap_alloc_new w _)
  rw [Nat.zero_add]
  exact this.trans (by simpa using hk)

/-- A byte's cell. -/
def bv (b : UInt8) : Value := .int .u8 (b.toNat : Int)
theorem bv_one (l : List UInt8) : ∀ v ∈ l.map bv, v.oneCell' = true := by
  intro v hv
  obtain ⟨b, _, rfl⟩ := List.mem_map.1 hv
  rfl
/-- A byte slice. -/
def Bytes (w : World) (B : Nat) (A : Option Addr) (n : Nat) (l : List UInt8) : Prop := Row w B A n (l.map bv)
section
variable {w w' : World} {B B' n : Nat} {A : Option Addr} {l : List UInt8}
theorem Bytes.len (h : Bytes w B A n l) : l.length = n := by simpa using Row.len h
theorem Bytes.nil (w : World) (B : Nat) (A : Option Addr) : Bytes w B A 0 [] := Row.nil w B A
theorem Bytes.below (h : Bytes w B A n l) {b0 : Nat} (hb : Below b0 w w') (hB : B ≤ b0) : Bytes w' B A n l := Row.below h hb hB
theorem Bytes.mono (h : Bytes w B A n l) (hB : B ≤ B') : Bytes w B' A n l := Row.mono h hB
theorem Bytes.at_ (h : Bytes w B A n l) {k : Nat} (hk : k < n) :
    ∃ b off, A = some ⟨b, off, none⟩ ∧ b < B ∧ w.cell? ⟨b, off + k, none⟩ = some (.int .u8 ((l[k]'(by rw [h.len]; exact hk)).toNat : Int)) := by
  obtain ⟨b, off, rfl, hlt, hc⟩ := h.2 (by omega)
  exact ⟨b, off, rfl, hlt, hc k _ (by simp [h.len, hk, bv])⟩
theorem Bytes.drew (h : Bytes w B A n l) : Bytes w.drew B A n l := h.below (b0 := B) (Below.refl _ _).drew (Nat.le_refl _)
theorem Bytes.front (h : Bytes w B A n l) {k : Nat} (hk : k ≤ n) : Bytes w B A k (l.take k) := by
  refine ⟨by simp [h.len]; omega, fun h0 => ?_⟩
  obtain ⟨b, off, rfl, hlt, hc⟩ := h.2 (by omega)
  refine ⟨b, off, rfl, hlt, fun j v hj => hc j v ?_⟩
  rw [List.map_take, List.getElem?_take] at hj
  split at hj
  · exact hj
  · cases hj
theorem Bytes.back {b off : Nat} (h : Bytes w B (some ⟨b, off, none⟩) n l) {k : Nat} (hk : k ≤ n) : Bytes w B (some ⟨b, off + k, none⟩) (n - k) (l.drop k) := by
  refine ⟨by simp [h.len], fun h0 => ?_⟩
  obtain ⟨b', off', he, hlt, hc⟩ := h.2 (by omega)
  obtain ⟨rfl, rfl⟩ : b = b' ∧ off = off' := by injection he with he; injection he with h1 h2; exact ⟨h1, h2⟩
  refine ⟨b, off + k, rfl, hlt, fun j v hj => ?_⟩
  rw [List.map_drop, List.getElem?_drop] at hj
  rw [Nat.add_assoc]
  exact hc _ v hj
theorem Bytes.part (h : Bytes w B A n l) {i k : Nat} (hik : i + k ≤ n) : Bytes w B (A.map (·.add i)) k ((l.drop i).take k) := by
  have := Row.part h hik
  rw [← List.map_drop, ← List.map_take] at this
  exact this
end
theorem Bytes.string {P : Program} {w : World} {B n : Nat} {A : Option Addr} {l : List UInt8} (h : Bytes w B A n l) (hA : A = none → n = 0) (c : Nat) (src dst e : TypeId) (hs : P.underlying src = some (.slice e)) (he : P.underlying e = some (.int .u8)) (hd : P.underlying dst = some .string) :
    (convert src dst (.slice A n c)).run P w = .ok (.string ⟨l.toArray⟩) w := by
  have hl := h.len
  subst hl
  cases A with
  | none =>
    have h0 : l = [] := List.eq_nil_of_length_eq_zero (hA rfl)
    subst h0
    rw [run_convert_bytes_string w src dst e none _ c hs he hd]
    simp [Conv.bytesToString]
    rfl
  | some a =>
    refine run_convert_bytes_back w src dst e a c l hs he hd fun j hj => ?_
    obtain ⟨b, off, he', _, hc⟩ := h.at_ hj
    obtain rfl := Option.some.inj he'
    exact (congrArg w.cell? (addr_add b off j)).trans hc

/-- A byte slice in memory that lies from block 'base' on and that nothing else leads to. -/
def OwnBytes (w : World) (base : Nat) (e : TypeId) (A : Option Addr) (n c : Nat) (l : List UInt8) : Prop := w.ownsRow base e 1 (.slice A n c) n (l.map bv)
theorem OwnBytes.bytes {w : World} {base n c : Nat} {e : TypeId} {A : Option Addr} {l : List UInt8} (h : OwnBytes w base e A n c l) : Bytes w w.heap.size A n l := RowS.own h
theorem OwnBytes.len {w : World} {base n c : Nat} {e : TypeId} {A : Option Addr} {l : List UInt8} (h : OwnBytes w base e A n c l) : l.length = n := h.bytes.len

theorem own_base {w : World} {base base' : Nat} {e : TypeId} {size n : Nat} {v : Value} {xs : List Value} (h : w.ownsRow base e size v n xs) (hb : base' ≤ base) : w.ownsRow base' e size v n xs := by
  refine ⟨h.1, ?_⟩
  rcases h.2 with h' | ⟨g, cap, cur, hv, hg, hh⟩
  · exact .inl h'
  · exact .inr ⟨g, cap, cur, hv, by omega, hh⟩
theorem own_form {w : World} {base : Nat} {e : TypeId} {size n : Nat} {v : Value} {xs : List Value} (h : w.ownsRow base e size v n xs) : ∃ A c, v = .slice A n c ∧ (A = none → n = 0 ∧ c = 0) := by
  rcases h.2 with ⟨hv, h0⟩ | ⟨g, cap, cur, hv, _⟩
  · subst h0; exact ⟨none, 0, hv, fun _ => ⟨rfl, rfl⟩⟩
  · exact ⟨_, cap, hv, fun h => by cases h⟩
theorem OwnBytes.cap {w : World} {base n c : Nat} {e : TypeId} {A : Option Addr} {l : List UInt8} (h : OwnBytes w base e A n c l) : n ≤ c := by
  rcases h.2 with ⟨hv, h0⟩ | ⟨g, cap, cur, hv, _, _, hc, _⟩
  · injection hv with _ _ h3; omega
  · injection hv with _ _ h3; omega
theorem OwnBytes.most {w : World} {base n c : Nat} {e : TypeId} {A : Option Addr} {l : List UInt8} (h : OwnBytes w base e A n c l) : c ≤ maxLen := by
  rcases h.2 with ⟨hv, h0⟩ | ⟨g, cap, cur, hv, _, _, _, hc, _⟩
  · injection hv with _ _ h3; subst h3; simp [maxLen]
  · injection hv with _ _ h3; omega
theorem OwnBytes.nn {w : World} {base n c : Nat} {e : TypeId} {A : Option Addr} {l : List UInt8} (h : OwnBytes w base e A n c l) : A = none → n = 0 ∧ c = 0 := by
  obtain ⟨A', c', he, hA⟩ := own_form h
  injection he with h1 h2 h3
  subst h1; subst h3
  exact hA
theorem own_below {w w' : World} {base : Nat} {e : TypeId} {size n : Nat} {v : Value} {xs : List Value} (h : w.ownsRow base e size v n xs) {B : Nat} (hb : Below B w w') (hB : w.heap.size ≤ B) : w'.ownsRow base e size v n xs := by
  refine ⟨h.1, ?_⟩
  rcases h.2 with h' | ⟨g, cap, cur, hv, hg, hh, hr⟩
  · exact .inl h'
  · have hlt : g < w.heap.size := by
      rcases Nat.lt_or_ge g w.heap.size with h' | h'
      · exact h'
      · rw [Array.getElem?_eq_none h'] at hh; cases hh
    exact .inr ⟨g, cap, cur, hv, hg, (hb.block g (by omega)).trans hh, hr⟩
theorem OwnBytes.below {w w' : World} {base n c : Nat} {e : TypeId} {A : Option Addr} {l : List UInt8} (h : OwnBytes w base e A n c l) {B : Nat} (hb : Below B w w') (hB : w.heap.size ≤ B) : OwnBytes w' base e A n c l := own_below h hb hB
theorem OwnBytes.base {w : World} {base base' n c : Nat} {e : TypeId} {A : Option Addr} {l : List UInt8} (h : OwnBytes w base e A n c l) (hb : base' ≤ base) : OwnBytes w base' e A n c l := own_base h hb
theorem size_alloc (w : World) (o : Obj) : (w.alloc o).heap.size = w.heap.size + 1 := by simp

/-! ### append, from a source that may be nil, empty or not: the library's two laws under one head -/
section
variable {P : Program} {w : World}
theorem append_row {ops : Array Oper} {rest : List Oper} {o : Oper} {a : Act} {Q : Exit → Act → World → Prop} (hgd : o.guard = none) (s x : Operand) (t : TypeId)
    (ho : o.op = .call { callee := .builtin .append, args := #[s, x], argTypes := #[t, t] })
    (e : TypeId) (i : TypeInfo) (z : Value) (size bytes : Nat) (ht : P.underlying t = some (.slice e)) (hi : P.info? e = some i) (hz : i.zero = some z)
    (hsize : i.size = size) (hby : i.bytes = bytes) (hzs : z.cells.size = size) (hsz : 0 < size)
    (base : Nat) (v : Value) (n : Nat) (xs : List Value) (hs : a.eval s = v) (hown : w.ownsRow base e size v n xs)
    (B : Nat) (A : Option Addr) (m c : Nat) (news : List Value) (hx : a.eval x = .slice A m c) (hA : A = none → m = 0 ∧ c = 0) (hr : RowS w B size A m news) (h1 : ∀ u ∈ news, u.oneCell' = true)
    (h63 : n + m ≤ maxLen) (hbytes : (n + m) * bytes ≤ 140737488355328) (hbase : base ≤ w.heap.size)
    (h : ∀ v' w', w'.ownsRow base e size v' (n + m) (xs ++ news) → w.grownBy w' v.ownBlock → (v'.ownBlock = v.ownBlock ∨ v'.ownBlock = some w.heap.size) → wpList P ops Q rest (a.put o.dst v') w') :
    wpList P ops Q (o :: rest) a w := by
  cases A with
  | none =>
    obtain ⟨rfl, rfl⟩ := hA rfl
    obtain rfl : news = [] := List.eq_nil_of_length_eq_zero (by simpa using hr.1)
    exact wpList_append_own_none hgd s x t ho base e i size ht hi v n xs hs hown hx (h v w (by simpa using hown) (World.grownBy.refl w _) (.inl rfl))
  | some ad =>
    refine wpList_append_own_at w hgd s x t ho base e i z size bytes ht hi hz hsize hby hzs hsz v n xs hs hown ad m c news hx hr.1 (fun j u hu => ?_) h1 h63 hbytes hbase fun v' w' h2 h3 _ h5 => h v' w' h2 h3 h5
    rcases Nat.eq_zero_or_pos m with h0 | h0
    · have hn : news = [] := List.eq_nil_of_length_eq_zero (by rw [hr.1, h0]; simp)
      rw [hn] at hu; simp at hu
    · obtain ⟨b, off, he, _, hc⟩ := hr.2 h0
      obtain rfl := Option.some.inj he
      exact (congrArg w.cell? (addr_add b off j)).trans (hc j u hu)
end
end Go.Proofs.YtkffnfgdmcebdaaGreatDoor
namespace Go.Proofs.YtkffnfgdmcebdaaGreatDoor
open Go.RowKit

/-- From w to w' nothing changed but the row of v and new blocks; v' lies in v's row or in a new block. -/
structure Grew (w w' : World) (v v' : Value) : Prop where
  grown : w.grownBy w' v.ownBlock
  block : ∀ g, v'.ownBlock = some g → v.ownBlock = some g ∨ w.heap.size ≤ g
theorem Grew.refl (w : World) (v : Value) : Grew w w v v := ⟨World.grownBy.refl _ _, fun _ h => .inl h⟩
theorem Grew.size {w w' : World} {v v' : Value} (h : Grew w w' v v') : w.heap.size ≤ w'.heap.size := h.grown.size
theorem Grew.trans {w w1 w2 : World} {v v1 v2 : Value} (h : Grew w w1 v v1) (k : Grew w1 w2 v1 v2) : Grew w w2 v v2 :=
  ⟨h.grown.andThen k.grown fun j hj => (h.block j hj).symm, fun g hg => by
    rcases k.block g hg with h1 | h1
    · exact h.block g h1
    · exact .inr (Nat.le_trans h.size h1)⟩
theorem grown_drew (w : World) (row : Option Nat) : w.grownBy w.drew row := ⟨rfl, rfl, rfl, Nat.le_refl _, fun _ _ _ => rfl⟩
theorem grown_alloc (w : World) (o : Obj) (row : Option Nat) : w.grownBy (w.alloc o) row :=
  ⟨rfl, rfl, rfl, by simp, fun k hk _ => Below.heap_alloc w o k hk⟩
theorem grown_setCell (w : World) (p : Addr) (u : Value) : w.grownBy (w.setCell p u) (some p.block) :=
  have h := (Below.refl 0 w).setCell (Nat.zero_le p.block) u
  ⟨h.os, h.tape, h.output, h.size, fun k _ hne => Below.heap_setCell w p u k (fun e => hne (congrArg some e))⟩
theorem Grew.drew {w w' : World} {v v' : Value} (h : Grew w w' v v') : Grew w w'.drew v v' := ⟨h.grown.trans (grown_drew _ _), h.block⟩
theorem Grew.alloc {w w' : World} {v v' : Value} (h : Grew w w' v v') (o : Obj) : Grew w (w'.alloc o) v v' := ⟨h.grown.trans (grown_alloc _ _ _), h.block⟩
theorem Grew.below {w w' : World} {v v' : Value} (h : Grew w w' v v') {base : Nat} {e : TypeId} {sz n : Nat} {xs : List Value} (hv : w.ownsRow base e sz v n xs) (hb : base ≤ w.heap.size) : Below base w w' :=
  (Below.refl _ _).grown h.grown hb fun k hk => (hv.lt k hk).1
theorem below_grew {W w w' : World} {v v' : Value} {base : Nat} {e : TypeId} {sz n : Nat} {xs : List Value} (hb : Below base W w) (h : Grew w w' v v') (hv : w.ownsRow base e sz v n xs) (hB : base ≤ W.heap.size) : Below base W w' :=
  hb.trans (h.below hv (Nat.le_trans hB hb.size))

/-- Two rows of one's own do not share a block. -/
def Apart (v u : Value) : Prop := ∀ g, v.ownBlock = some g → u.ownBlock ≠ some g
theorem Apart.symm {v u : Value} (h : Apart v u) : Apart u v := fun g h1 h2 => h g h2 h1
theorem Grew.kept {w w' : World} {v v' u : Value} (h : Grew w w' v v') {base : Nat} {e : TypeId} {sz n : Nat} {xs : List Value} (hu : w.ownsRow base e sz u n xs) (ha : Apart v u) : w'.ownsRow base e sz u n xs :=
  hu.kept h.grown (by
    cases hb : u.ownBlock with
    | none => exact .inl rfl
    | some g => exact .inr fun e => ha g e.symm hb)
theorem Grew.apart {w w' : World} {v v' u : Value} (h : Grew w w' v v') {base : Nat} {e : TypeId} {sz n : Nat} {xs : List Value} (hu : w.ownsRow base e sz u n xs) (ha : Apart v u) : Apart v' u := by
  intro g h1 h2
  rcases h.block g h1 with h3 | h3
  · exact ha g h3 h2
  · have := (hu.lt g h2).2; omega

/-- Three rows of bytes of one's own, none of which shares a block with another. -/
structure Own3 (w : World) (base : Nat) (e : TypeId) (X Y Z : Value) (m1 m2 m3 : Nat) (l1 l2 l3 : List UInt8) : Prop where
  x : w.ownsRow base e 1 X m1 (l1.map bv)
  y : w.ownsRow base e 1 Y m2 (l2.map bv)
  z : w.ownsRow base e 1 Z m3 (l3.map bv)
  xy : Apart X Y
  xz : Apart X Z
  yz : Apart Y Z
section
variable {w w' : World} {base : Nat} {e : TypeId} {X Y Z X' : Value} {m1 m2 m3 m' : Nat} {l1 l2 l3 l' : List UInt8}
theorem Own3.below (h : Own3 w base e X Y Z m1 m2 m3 l1 l2 l3) (hb : Below w.heap.size w w') : Own3 w' base e X Y Z m1 m2 m3 l1 l2 l3 :=
  ⟨own_below h.x hb (Nat.le_refl _), own_below h.y hb (Nat.le_refl _), own_below h.z hb (Nat.le_refl _), h.xy, h.xz, h.yz⟩
theorem Own3.stepX (h : Own3 w base e X Y Z m1 m2 m3 l1 l2 l3) (hx : w'.ownsRow base e 1 X' m' (l'.map bv)) (hg : Grew w w' X X') : Own3 w' base e X' Y Z m' m2 m3 l' l2 l3 :=
  ⟨hx, hg.kept h.y h.xy, hg.kept h.z h.xz, hg.apart h.y h.xy, hg.apart h.z h.xz, h.yz⟩
theorem Own3.stepY (h : Own3 w base e X Y Z m1 m2 m3 l1 l2 l3) (hx : w'.ownsRow base e 1 X' m' (l'.map bv)) (hg : Grew w w' Y X') : Own3 w' base e X X' Z m1 m' m3 l1 l' l3 :=
  ⟨hg.kept h.x h.xy.symm, hx, hg.kept h.z h.yz, (hg.apart h.x h.xy.symm).symm, h.xz, hg.apart h.z h.yz⟩
theorem Own3.stepZ (h : Own3 w base e X Y Z m1 m2 m3 l1 l2 l3) (hx : w'.ownsRow base e 1 X' m' (l'.map bv)) (hg : Grew w w' Z X') : Own3 w' base e X Y X' m1 m2 m' l1 l2 l' :=
  ⟨hg.kept h.x h.xz.symm, hg.kept h.y h.yz.symm, hx, h.xy, (hg.apart h.x h.xz.symm).symm, (hg.apart h.y h.yz.symm).symm⟩
/-- Two rows of one's own of which the one was there ahead of the other one's. -/
theorem apart_of {w1 w2 : World} {b1 b2 : Nat} {e1 e2 : TypeId} {s1 s2 n1 n2 : Nat} {v u : Value} {xs ys : List Value} (h : w1.ownsRow b1 e1 s1 v n1 xs) (k : w2.ownsRow b2 e2 s2 u n2 ys) (hb : w1.heap.size ≤ b2) : Apart v u := by
  intro g h1 h2
  have := (h.lt g h1).2
  have := (k.lt g h2).1
  omega
end

section
variable {P : Program}
/-- One byte more: it is laid in a block of its own, and put behind. -/
theorem append_byte {ops : Array Oper} {rest : List Oper} {o : Oper} {a : Act} {Q : Exit → Act → World → Prop} (hgd : o.guard = none) (s x : Operand) (t : TypeId)
    (ho : o.op = .call { callee := .builtin .append, args := #[s, x], argTypes := #[t, t] })
    (e : TypeId) (i : TypeInfo) (z : Value) (ht : P.underlying t = some (.slice e)) (hi : P.info? e = some i) (hz : i.zero = some z)
    (hsize : i.size = 1) (hby : i.bytes = 1) (hzs : z.cells.size = 1)
    (w : World) (y : Int) (b : UInt8) (hy : y = (b.toNat : Int)) (base : Nat) (v : Value) (n : Nat) (l : List UInt8) (hs : a.eval s = v) (hown : w.ownsRow base e 1 v n (l.map bv))
    (hx : a.eval x = .slice (some ⟨w.heap.size, 0, none⟩) 1 1) (hn : n ≤ 70368744177664) (hbase : base ≤ w.heap.size)
    (h : ∀ A c w', OwnBytes w' base e A (n + 1) c (l ++ [b]) → Grew w w' v (.slice A (n + 1) c) → wpList P ops Q rest (a.put o.dst (.slice A (n + 1) c)) w') :
    wpList P ops Q (o :: rest) a (w.alloc (.cells #[.int .u8 y] e)) := by
  subst hy
  have hrow : Row (w.alloc (.cells #[bv b] e)) (w.heap.size + 1) (some ⟨w.heap.size, 0, none⟩) 1 [bv b] := Row.lit w #[bv b] e
  refine append_row hgd s x t ho e i z 1 1 ht hi hz hsize hby hzs (by decide) base v n (l.map bv) hs (hown.alloc _) (w.heap.size + 1) _ 1 1 [bv b] hx (fun h => by cases h) hrow (fun u hu => by obtain rfl := List.mem_singleton.1 hu; rfl) (by unfold maxLen; omega) (by omega) (by simp; omega) fun v' w' h1 h2 h3 => ?_
  obtain ⟨A, c, rfl, _⟩ := own_form h1
  refine h A c w' (by unfold OwnBytes; simpa using h1) ⟨(grown_alloc w _ _).trans h2, fun g hg => ?_⟩
  rcases h3 with h3 | h3
  · exact .inl (h3.symm.trans hg)
  · rw [h3] at hg
    obtain rfl := Option.some.inj hg
    exact .inr (by simp)

theorem strCells_bv (s : ByteArray) : Lib.strCells s = s.data.toList.map bv := by
  simp [Lib.strCells, bv]

/-- A string behind: where the answer lies. -/
theorem append_str {ops : Array Oper} {rest : List Oper} {o : Oper} {a : Act} {Q : Exit → Act → World → Prop} (hgd : o.guard = none) (sl x : Operand) (t u : TypeId)
    (ho : o.op = .call { callee := .builtin .append, args := #[sl, x], argTypes := #[t, u] })
    (e : TypeId) (i : TypeInfo) (ht : P.underlying t = some (.slice e)) (hu : P.underlying u = some .string) (hi : P.info? e = some i) (hz : i.zero = some (.int .u8 0)) (hsize : i.size = 1) (hby : i.bytes = 1)
    (w : World) (base : Nat) (v : Value) (n : Nat) (l : List UInt8) (hs : a.eval sl = v) (hown : w.ownsRow base e 1 v n (l.map bv)) (s : ByteArray) (hx : a.eval x = .string s)
    (hn : n + s.size ≤ 140737488355328) (hbase : base ≤ w.heap.size)
    (h : ∀ A c w', OwnBytes w' base e A (n + s.size) c (l ++ s.data.toList) → Grew w w' v (.slice A (n + s.size) c) → wpList P ops Q rest (a.put o.dst (.slice A (n + s.size) c)) w') : wpList P ops Q (o :: rest) a w := by
  refine wpList_plain hgd fun K hK => ?_
  have h63 : n + s.size ≤ maxLen := by unfold maxLen; omega
  obtain ⟨v', w', hr, h2, h3, h4⟩ := Lib.run_append_own_string (P := P) w base t u o.type e i ht hu hi hz hsize hby v n (l.map bv) hown s h63 hn hbase
  have hblock : ∀ g, v'.ownBlock = some g → v.ownBlock = some g ∨ w.heap.size ≤ g := by
    intro g hg
    rcases hown.2 with ⟨rfl, rfl⟩ | ⟨b, cap, cur, rfl, hbg, hb, hnc, hcm, hcs, htake⟩
    · by_cases hm : s.size = 0
      · rw [h4.2 ⟨rfl, hm⟩] at hg; cases hg
      · have hr' := run_append_nil_string (P := P) w t u o.type e i (.int .u8 0) ht hu hi hz s (by omega) (by omega) (by rw [hby]; omega)
        rw [hr] at hr'
        injection hr' with h5 _
        subst h5
        obtain rfl : w.heap.size = g := by simpa [Value.ownBlock] using hg
        exact .inr (Nat.le_refl _)
    · by_cases hroom : n + s.size ≤ cap
      · have hcs' : cur.size = cap := by simpa using hcs
        have hr' := Lib.run_append_room_string (P := P) w t u o.type e i ht hu hi hsize b n cap cur hb s hroom (by omega)
        rw [hr] at hr'
        injection hr' with h5 _
        subst h5
        exact .inl hg
      · have hxl : (l.map bv).length = n * i.size := by rw [hsize]; exact hown.1
        have hr' := Lib.run_append_grow_string (P := P) w t u o.type e i (.int .u8 0) ht hu hi hz ⟨b, 0, none⟩ n cap (l.map bv) hxl (fun j y hj => hown.cells (g := b) rfl j y hj) s (by omega) (by omega) (by rw [hby]; exact growslice_fits (by omega) (by omega))
        rw [hr] at hr'
        injection hr' with h5 _
        subst h5
        obtain rfl : w.heap.size = g := by simpa [Value.ownBlock] using hg
        exact .inr (Nat.le_refl _)
  obtain ⟨A, c, rfl, _⟩ := own_form h2
  unfold Oper.wp execOp
  simp only [ho, resolve, invoke, builtin, Sem.run_bind, Sem.run_pure, Result.andThen_ok, List.map_toArray, List.map_cons, List.map_nil, hs, hx, hr]
  refine hK _ _ (h A c w' ?_ ⟨h3, hblock⟩)
  unfold OwnBytes
  rw [List.map_append, ← strCells_bv]
  exact h2
end
end Go.Proofs.YtkffnfgdmcebdaaGreatDoor
namespace Go.Proofs.YtkffnfgdmcebdaaGreatDoor
open Go.RowKit Go.ChangeShapes

/-- A sentinel's datum. -/
def errD (text : List UInt8) : DataW Unit := .iface "*errors.errorString" (.ptr (.agg [.lit (.string text)]))

/-- The variable g holds the sentinel whose text lies at a. -/
structure ErrAt (w : World) (tp : TypeId) (g : Nat) (a : Addr) : Prop where
  var : w.cell? ⟨g, 0, none⟩ = some (.iface tp (.pointer (some a)))
  row : ∃ c t, w.heap[a.block]? = some (.cells c t (0, 0))
  txt : ∃ s, w.cell? a = some (.string s)

theorem ErrAt.lt {w : World} {tp : TypeId} {g : Nat} {a : Addr} (h : ErrAt w tp g a) : g < w.heap.size := by
  have := h.var
  rcases Nat.lt_or_ge g w.heap.size with h' | h'
  · exact h'
  · simp [World.cell?, Array.getElem?_eq_none h'] at this
theorem ErrAt.blt {w : World} {tp : TypeId} {g : Nat} {a : Addr} (h : ErrAt w tp g a) : a.block < w.heap.size := by
  obtain ⟨c, t, h⟩ := h.row
  rcases Nat.lt_or_ge a.block w.heap.size with h' | h'
  · exact h'
  · simp [Array.getElem?_eq_none h'] at h
theorem ErrAt.below {w w' : World} {tp : TypeId} {g : Nat} {a : Addr} (h : ErrAt w tp g a) {B : Nat} (hb : Below B w w') (hB : w.heap.size ≤ B) : ErrAt w' tp g a :=
  ⟨(hb.cell (p := ⟨g, 0, none⟩) (Nat.lt_of_lt_of_le h.lt hB)).trans h.var, by
    obtain ⟨c, t, hr⟩ := h.row
    exact ⟨c, t, (hb.block a.block (Nat.lt_of_lt_of_le h.blt hB)).trans hr⟩, by
    obtain ⟨s, hs⟩ := h.txt
    exact ⟨s, (hb.cell (Nat.lt_of_lt_of_le h.blt hB)).trans hs⟩⟩

/-- The program's tables say of the error types what errors.New wants. -/
structure ErrTypes (P : Program) (ti tp te ts : TypeId) : Prop where
  iface : ∃ ms, P.underlying ti = some (.interface ms)
  uniq : ∀ u, P.typeName? 3 u = some "*errors.errorString" → u = tp
  ptr : P.underlying tp = some (.pointer te)
  str : ∃ f : Field, P.underlying te = some (.struct #[f]) ∧ f.type = ts ∧ f.offset = 0
  string : P.underlying ts = some .string
  ce : P.cellsOf te = 1
  cs : P.cellsOf ts = 1

/-- ALL THE SENTINELS OF A LIST AT ONCE: each has its pointer, no two the same. -/
theorem laid_errs {P : Program} {W : World} {ti tp te ts : TypeId} (T : ErrTypes P ti tp te ts) {rest : List (String × DataW Unit)} :
    ∀ {l : List (String × List UInt8)} {gs : List Nat}, gs.length = l.length → (∀ (i : Nat) (n : String) (x : List UInt8), l[i]? = some (n, x) → ∃ g, gs[i]? = some g ∧ P.globalNamed n = some g ∧ (P.globals[g]?).map (·.type) = some ti) →
    ∀ {ps : List MemPlace}, DataW.LaidVars P W (l.map (fun x => (x.1, errD x.2)) ++ rest) ps → ps.Nodup →
      (∀ b off, MemPlace.cell b off ∈ ps → (∃ c t, W.heap[b]? = some (.cells c t (0, 0))) ∧ ∀ u v, W.cell? ⟨b, off, none⟩ = some (.iface u v) → Value.okWide P W .any 0 u v) →
      ∃ ads : List Addr, ads.length = l.length ∧ ads.Nodup ∧ (∀ (i : Nat) (g : Nat) (a : Addr), gs[i]? = some g → ads[i]? = some a → ErrAt W tp g a) ∧ ∀ a ∈ ads, a.spot = none ∧ MemPlace.cell a.block a.off ∈ ps
  | [], [], _, _, _, _, _, _ => ⟨[], rfl, List.nodup_nil, (fun i g a h => by simp at h), fun a h => by cases h⟩
  | (n, x) :: l, g :: gs, hlen, hg, ps, hv, hnd, hrows => by
    obtain ⟨g0, t0, cs0, f0, p0, q0, hg0, ht0, hv0, hd0, hq, rfl⟩ := hv
    obtain ⟨g', hgg, hgn, hgt⟩ := hg 0 n x rfl
    obtain rfl : g = g' := by simpa using hgg
    obtain rfl := Option.some.inj (hgn.symm.trans hg0)
    obtain rfl := Option.some.inj (hgt.symm.trans ht0)
    obtain ⟨ms, hi⟩ := T.iface
    obtain ⟨f, hf1, hf2, hf3⟩ := T.str
    obtain ⟨l0⟩ := cs0
    have ok0 : ∀ u v, l0 = [.iface u v] → Value.okWide P W .any 0 u v := fun u v e => by
      subst e
      exact (hrows g 0 (by simp [MemPlace.row])).2 u v (by simpa using World.var?_cell hg0 hv0 0)
    obtain ⟨a0, s0, rfl, hc0, _, _, rfl⟩ := errorString_of_trod hi T.uniq T.ptr hf1 hf2 hf3 T.string T.ce T.cs hd0 ok0
    have hnd' : q0.Nodup := List.Nodup.sublist (List.sublist_append_right _ _) hnd
    obtain ⟨ads, hl, hn, hall, hin⟩ := laid_errs T (l := l) (gs := gs) (by simpa using hlen) (fun i n x h => hg (i + 1) n x (by simpa using h)) hq hnd' (fun b off h => hrows b off (List.mem_append_right _ h))
    have hs0 : a0.spot = none := World.cell?_spot hc0
    have hrow := (hrows a0.block a0.off (by simp [MemPlace.row])).1
    refine ⟨a0 :: ads, by simp [hl], List.nodup_cons.2 ⟨fun hm => ?_, hn⟩, ?_, ?_⟩
    · have h1 := (hin a0 hm).2
      exact (List.nodup_append.1 hnd).2.2 _ (by simp [MemPlace.row]) _ h1 rfl
    · intro i g1 a hgi hai
      cases i with
      | zero =>
        simp at hgi hai
        subst hgi; subst hai
        exact ⟨by simpa using World.var?_cell hg0 hv0 0, hrow, s0, hc0⟩
      | succ i => exact hall i g1 a (by simpa using hgi) (by simpa using hai)
    · intro a ha
      rcases List.mem_cons.1 ha with rfl | ha
      · exact ⟨hs0, by simp [MemPlace.row]⟩
      · exact ⟨(hin a ha).1, List.mem_append_right _ (hin a ha).2⟩

/-- The sentinels of the variables gs lie at ads, no two at one place. -/
structure Errs (w : World) (tp : TypeId) (gs : List Nat) (ads : List Addr) : Prop where
  len : ads.length = gs.length
  nodup : ads.Nodup
  all : ∀ (i : Nat) (g : Nat) (a : Addr), gs[i]? = some g → ads[i]? = some a → ErrAt w tp g a
theorem Errs.below {w w' : World} {tp : TypeId} {gs : List Nat} {ads : List Addr} (h : Errs w tp gs ads) {B : Nat} (hb : Below B w w') (hB : w.heap.size ≤ B) : Errs w' tp gs ads :=
  ⟨h.len, h.nodup, fun i g a h1 h2 => (h.all i g a h1 h2).below hb hB⟩
theorem errs_of_laid {P : Program} {W : World} {ti tp te ts : TypeId} (T : ErrTypes P ti tp te ts) {rest : List (String × DataW Unit)} (l : List (String × List UInt8)) (gs : List Nat) (hlen : gs.length = l.length)
    (hg : ((l.zip gs).all fun x => P.globalNamed x.1.1 == some x.2 && (P.globals[x.2]?).map (·.type) == some ti) = true) (h : laidMet P (l.map (fun x => (x.1, errD x.2)) ++ rest) W) : ∃ ads, Errs W tp gs ads := by
  obtain ⟨ps, hv, hnd, hrows⟩ := h
  obtain ⟨ads, h1, h2, h3, _⟩ := laid_errs T (l := l) (gs := gs) hlen (fun i n x hi => by
    have hlt := (List.getElem?_eq_some_iff.1 hi).1
    have hgi : gs[i]? = some gs[i] := List.getElem?_eq_getElem (by omega)
    have hm : ((n, x), gs[i]) ∈ l.zip gs := by
      refine List.mem_iff_getElem?.2 ⟨i, ?_⟩
      rw [List.getElem?_zip_eq_some]
      exact ⟨hi, hgi⟩
    have := List.all_eq_true.1 hg _ hm
    simp only [Bool.and_eq_true, beq_iff_eq] at this
    exact ⟨gs[i], hgi, this.1, this.2⟩) hv hnd hrows
  exact ⟨ads, by omega, h2, h3⟩
theorem rest_of_laid {P : Program} {W : World} : ∀ (l : List (String × DataW Unit)) {rest : List (String × DataW Unit)}, laidMet P (l ++ rest) W → laidMet P rest W
  | [], _, h => h
  | _ :: l, _, h => rest_of_laid l h.tail

theorem errTypes : ErrTypes Tryz.prog 47 254 256 9 where
  iface := ⟨_, Tryz.underlying47⟩
  uniq := fun u h => typeName_ptr_named (nm := "errors.errorString") (by rw [show "*" ++ "errors.errorString" = "*errors.errorString" by decide]; kernel_rfl) (by kernel_rfl) (by decide) u (by rw [show "*" ++ "errors.errorString" = "*errors.errorString" by decide]; exact h)
  ptr := Tryz.underlying254
  str := ⟨_, Tryz.underlying256, rfl, rfl⟩
  string := Tryz.underlying9
  ce := by kernel_rfl
  cs := by kernel_rfl

theorem own : ownKnob Tryz.prog.godebug = none := by kernel_rfl
theorem laidOut : laidOutB Tryz.prog = true := by kernel_rfl

/-- The size of the heap that the program begins with. -/
noncomputable def low : Nat := (World.holding Tryz.prog default ⟨#[], #[], []⟩).heap.size
end Go.Proofs.YtkffnfgdmcebdaaGreatDoor
namespace Go.Proofs.YtkffnfgdmcebdaaGreatDoor
open Go.RowKit

namespace Vr
/-- A byte of which names are made. -/
def sign (c : UInt8) : Bool := (decide (97 ≤ c.toNat) && decide (c.toNat ≤ 122)) || (decide (48 ≤ c.toNat) && decide (c.toNat ≤ 57)) || (c.toNat == 95) || (c.toNat == 45)
theorem sign_yes {c : UInt8} (h : (97 ≤ (c.toNat : Int) ∧ (c.toNat : Int) ≤ 122) ∨ (48 ≤ (c.toNat : Int) ∧ (c.toNat : Int) ≤ 57) ∨ (c.toNat : Int) = 95 ∨ (c.toNat : Int) = 45) : sign c = true := by
  simp only [sign, Bool.or_eq_true, Bool.and_eq_true, decide_eq_true_eq, beq_iff_eq]
  omega
theorem sign_no {c : UInt8} (h : ¬ ((97 ≤ (c.toNat : Int) ∧ (c.toNat : Int) ≤ 122) ∨ (48 ≤ (c.toNat : Int) ∧ (c.toNat : Int) ≤ 57) ∨ (c.toNat : Int) = 95 ∨ (c.toNat : Int) = 45)) : sign c = false := by
  rw [← Bool.not_eq_true]
  simp only [sign, Bool.or_eq_true, Bool.and_eq_true, decide_eq_true_eq, beq_iff_eq]
  omega
theorem sign_iff {c : UInt8} : sign c = true ↔ ((97 ≤ (c.toNat : Int) ∧ (c.toNat : Int) ≤ 122) ∨ (48 ≤ (c.toNat : Int) ∧ (c.toNat : Int) ≤ 57) ∨ (c.toNat : Int) = 95 ∨ (c.toNat : Int) = 45) := by
  simp only [sign, Bool.or_eq_true, Bool.and_eq_true, decide_eq_true_eq, beq_iff_eq]
  omega
/-- Is this a name? -/
def name (s : List UInt8) : Bool := decide (1 ≤ s.length) && decide (s.length ≤ 24) && s.all sign
theorem name_short {s : List UInt8} (h : s.length < 1) : name s = false := by simp [name]; omega
theorem name_long {s : List UInt8} (h : 24 < s.length) : name s = false := by
  rw [← Bool.not_eq_true]; simp [name]; omega
theorem name_all {s : List UInt8} (h1 : 1 ≤ s.length) (h2 : s.length ≤ 24) (h : ∀ k (hk : k < s.length), sign s[k] = true) : name s = true := by
  simp only [name, Bool.and_eq_true, decide_eq_true_eq, List.all_eq_true]
  refine ⟨⟨h1, h2⟩, fun x hx => ?_⟩
  obtain ⟨k, hk, rfl⟩ := List.mem_iff_getElem.1 hx
  exact h k hk
theorem name_not {s : List UInt8} {k : Nat} (hk : k < s.length) (h : sign s[k] = false) : name s = false := by
  rw [← Bool.not_eq_true]
  simp only [name, Bool.and_eq_true, List.all_eq_true]
  intro ⟨_, h2⟩
  have := h2 _ (List.getElem_mem hk)
  rw [h] at this
  cases this

/-- A variable: its name; its value's Kind, N, S. -/
structure V where
  name : ByteArray
  kind : Int
  num : Int
  text : ByteArray
instance : Inhabited V := ⟨⟨⟨#[]⟩, 0, 0, ⟨#[]⟩⟩⟩
def V.cells (v : V) : List Value := [.string v.name, .int .i64 v.kind, .int .i64 v.num, .string v.text]
@[simp] theorem V.cells_len (v : V) : v.cells.length = 4 := rfl
/-- Its bounds in memory. -/
structure InV (v : V) : Prop where
  n : v.name.size ≤ 9223372036854775807
  t : v.text.size ≤ 9223372036854775807
  k0 : -9223372036854775808 ≤ v.kind
  k1 : v.kind ≤ 9223372036854775807
  n0 : -9223372036854775808 ≤ v.num
  n1 : v.num ≤ 9223372036854775807

/-- One text ahead of another one, byte by byte. -/
def lss (a b : ByteArray) : Bool := Op.bytesLess a.toList b.toList
theorem less_irrefl : ∀ l : List UInt8, Op.bytesLess l l = false
  | [] => rfl
  | a :: l => by simp [Op.bytesLess, less_irrefl l]
theorem less_trans : ∀ a b c : List UInt8, Op.bytesLess a b = true → Op.bytesLess b c = true → Op.bytesLess a c = true
  | _, [], _, h, _ => by simp [Op.bytesLess] at h
  | _, _ :: _, [], _, h => by simp [Op.bytesLess] at h
  | [], _ :: _, _ :: _, _, _ => rfl
  | a :: x, b :: y, c :: z, h, k => by
    simp only [Op.bytesLess, Bool.or_eq_true, decide_eq_true_eq, Bool.and_eq_true, beq_iff_eq] at h k ⊢
    rcases h with h | ⟨rfl, h⟩
    · rcases k with k | ⟨rfl, k⟩
      · exact .inl (UInt8.lt_trans h k)
      · exact .inl h
    · rcases k with k | ⟨rfl, k⟩
      · exact .inl k
      · exact .inr ⟨rfl, less_trans x y z h k⟩
theorem less_total : ∀ a b : List UInt8, Op.bytesLess a b = true ∨ a = b ∨ Op.bytesLess b a = true
  | [], [] => .inr (.inl rfl)
  | [], _ :: _ => .inl rfl
  | _ :: _, [] => .inr (.inr rfl)
  | a :: x, b :: y => by
    simp only [Op.bytesLess, Bool.or_eq_true, decide_eq_true_eq, Bool.and_eq_true, beq_iff_eq, List.cons.injEq]
    have hc : a < b ∨ a = b ∨ b < a := by
      rcases Nat.lt_trichotomy a.toNat b.toNat with h | h | h
      · exact .inl h
      · exact .inr (.inl (UInt8.toNat_inj.1 h))
      · exact .inr (.inr h)
    rcases hc with h | rfl | h
    · exact .inl (.inl h)
    · rcases less_total x y with h | rfl | h
      · exact .inl (.inr ⟨rfl, h⟩)
      · exact .inr (.inl ⟨rfl, rfl⟩)
      · exact .inr (.inr (.inr ⟨rfl, h⟩))
    · exact .inr (.inr (.inl h))
theorem ba_eq {a b : ByteArray} (h : a.toList = b.toList) : a = b := by
  rw [ByteArray.toList_eq, ByteArray.toList_eq] at h
  cases a; cases b
  simp only [ByteArray.mk.injEq]
  exact Array.toList_inj.1 h
theorem lss_irrefl (a : ByteArray) : lss a a = false := less_irrefl _
theorem lss_trans {a b c : ByteArray} (h : lss a b = true) (k : lss b c = true) : lss a c = true := less_trans _ _ _ h k
theorem lss_total (a b : ByteArray) : lss a b = true ∨ a = b ∨ lss b a = true := by
  rcases less_total a.toList b.toList with h | h | h
  · exact .inl h
  · exact .inr (.inl (ba_eq h))
  · exact .inr (.inr h)
theorem lss_asymm {a b : ByteArray} (h : lss a b = true) : lss b a = false := by
  rw [← Bool.not_eq_true]
  intro k
  have := lss_trans h k
  rw [lss_irrefl] at this
  cases this
/-- At most. -/
theorem leq_of (a b : ByteArray) : (Op.bytesLess a.toList b.toList || a.toList == b.toList) = !lss b a := by
  rcases lss_total a b with h | rfl | h
  · have h' := lss_asymm h
    unfold lss at h h' ⊢
    rw [h, h']
    simp
  · rw [lss_irrefl]; simp
  · have h' := lss_asymm h
    have hn : (a.toList == b.toList) = false := by
      rw [← Bool.not_eq_true, beq_iff_eq]
      intro e
      obtain rfl := ba_eq e
      rw [lss_irrefl] at h
      cases h
    unfold lss at h h' ⊢
    rw [h, h', hn]
    simp
theorem eq_of (a b : ByteArray) : (a.toList == b.toList) = decide (a = b) := by
  by_cases h : a = b
  · subst h; simp
  · rw [decide_eq_false h, ← Bool.not_eq_true, beq_iff_eq]
    exact fun e => h (ba_eq e)

/-- Is a value of its Kind? -/
def typed (v : V) : Bool := if v.kind = 1 then decide (v.text.size = 0) else if v.kind = 2 then decide (v.text.size = 0) && (decide (v.num = 0) || decide (v.num = 1)) else if v.kind = 3 then decide (v.num = 0) else false
/-- What is amiss with one alone. -/
def fault (v : V) : Int := if name v.name.data.toList = false then 106 else if typed v = false then 110 else if 60 < v.text.size then 105 else 0
/-- What is amiss at a place. -/
def faultAt (l : List V) (k : Nat) : Int := if fault l[k]! ≠ 0 then fault l[k]! else if 0 < k ∧ lss l[k-1]!.name l[k]!.name = false then 109 else 0
/-- What is amiss first, and where. -/
def check (l : List V) : Int × Option Nat :=
  if 12 < l.length then (104, none) else match (List.range l.length).find? (fun k => decide (faultAt l k ≠ 0)) with
    | none => (0, none)
    | some k => (faultAt l k, some k)
theorem check_many {l : List V} (h : 12 < l.length) : check l = (104, none) := if_pos h
theorem check_fine {l : List V} (h : l.length ≤ 12) (hf : ∀ k, k < l.length → faultAt l k = 0) : check l = (0, none) := by
  unfold check
  rw [if_neg (by omega), List.find?_eq_none.2 (fun k hk => by simpa using hf k (List.mem_range.1 hk))]
theorem check_at {l : List V} {k : Nat} (h : l.length ≤ 12) (hk : k < l.length) (hf : ∀ j, j < k → faultAt l j = 0) (hn : faultAt l k ≠ 0) : check l = (faultAt l k, some k) := by
  unfold check
  rw [if_neg (by omega)]
  have : (List.range l.length).find? (fun k => decide (faultAt l k ≠ 0)) = some k := by
    rw [List.find?_range_eq_some]
    refine ⟨by simpa using hn, by simpa using hk, fun j hj => by simpa using hf j hj⟩
  rw [this]
/-- What a list that may be is. -/
theorem check_zero {l : List V} (h : (check l).1 = 0) : l.length ≤ 12 ∧ ∀ k, k < l.length → faultAt l k = 0 := by
  unfold check at h
  split at h
  · cases h
  · rename_i h1
    refine ⟨by omega, fun k hk => ?_⟩
    split at h
    · rename_i h2
      have := List.find?_eq_none.1 h2 k (List.mem_range.2 hk)
      simpa using this
    · rename_i j h2
      have := List.find?_some h2
      simp at this
      exact absurd h this
theorem check_pos {l : List V} : (check l).1 = 0 → (check l).2 = none := by
  intro h
  obtain ⟨h1, h2⟩ := check_zero h
  rw [check_fine h1 h2]
theorem fault_name {v : V} (h : name v.name.data.toList = false) : fault v = 106 := by simp [fault, h]
theorem fault_type {v : V} (h : name v.name.data.toList = true) (h2 : typed v = false) : fault v = 110 := by simp [fault, h, h2]
theorem fault_long {v : V} (h : name v.name.data.toList = true) (h2 : typed v = true) (h3 : 60 < v.text.size) : fault v = 105 := by simp [fault, h, h2, h3]
theorem fault_none {v : V} (h : name v.name.data.toList = true) (h2 : typed v = true) (h3 : v.text.size ≤ 60) : fault v = 0 := by
  simp [fault, h, h2]; omega
theorem fault_cases (v : V) : fault v = 0 ∨ fault v = 105 ∨ fault v = 106 ∨ fault v = 110 := by
  unfold fault
  split
  · exact .inr (.inr (.inl rfl))
  · split
    · exact .inr (.inr (.inr rfl))
    · split
      · exact .inr (.inl rfl)
      · exact .inl rfl
end Vr
end Go.Proofs.YtkffnfgdmcebdaaGreatDoor
