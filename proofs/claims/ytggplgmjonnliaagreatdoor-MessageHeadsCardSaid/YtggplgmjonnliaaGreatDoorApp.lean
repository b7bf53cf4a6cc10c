/- Appending to memory of one's own: which blocks change; one byte, a string. -/
import Derived.Test.YtggplgmjonnliaaGreatDoorBase
import Derived.Lib.AppendStr
import Derived.Maps.Range
namespace Go.Proofs.YtggplgmjonnliaaGreatDoor
open Go.RowKit

/-- From w to w' nothing changed but the row of v and new blocks; v' lies in v's row or in a new block. -/
structure Grew (w w' : World) (v v' : Value) : Prop where
  grown : w.grownBy w' v.ownBlock
  block : ∀ g, v'.ownBlock = some g → v.ownBlock = some g ∨ w.heap.size ≤ g
theorem Grew.refl (w : World) (v : Value) : Grew w w v v := ⟨World.grownBy.refl _ _, fun _ h => .inl h⟩
theorem Grew.size {w w' : World} {v v' : Value} (h : Grew w w' v v') : w.heap.size ≤ w'.heap.size := h.grown.size
theorem Grew.trans {w w1 w2 : World} {v v1 v2 : Value} (h : Grew w w1 v v1) (k : Grew w1 w2 v1 v2) : Grew w w2 v v2 :=
  ⟨h.grown.andThen k.grown fun j hj => (h.block j hj).symm, fun g hg => by
    rcases k.block g hg with h1 | h1
    · exact h.block g h1
    · exact .inr (Nat.le_trans h.size h1)⟩
theorem grown_drew (w : World) (row : Option Nat) : w.grownBy w.drew row := ⟨rfl, rfl, rfl, Nat.le_refl _, fun _ _ _ => rfl⟩
theorem grown_alloc (w : World) (o : Obj) (row : Option Nat) : w.grownBy (w.alloc o) row :=
  ⟨rfl, rfl, rfl, by simp, fun k hk _ => Below.heap_alloc w o k hk⟩
theorem grown_setCell (w : World) (p : Addr) (u : Value) : w.grownBy (w.setCell p u) (some p.block) :=
  have h := (Below.refl 0 w).setCell (Nat.zero_le p.block) u
  ⟨h.os, h.tape, h.output, h.size, fun k _ hne => Below.heap_setCell w p u k (fun e => hne (congrArg some e))⟩
theorem Grew.drew {w w' : World} {v v' : Value} (h : Grew w w' v v') : Grew w w'.drew v v' := ⟨h.grown.trans (grown_drew _ _), h.block⟩
theorem Grew.alloc {w w' : World} {v v' : Value} (h : Grew w w' v v') (o : Obj) : Grew w (w'.alloc o) v v' := ⟨h.grown.trans (grown_alloc _ _ _), h.block⟩
theorem Grew.below {w w' : World} {v v' : Value} (h : Grew w w' v v') {base : Nat} {e : TypeId} {sz n : Nat} {xs : List Value} (hv : w.ownsRow base e sz v n xs) (hb : base ≤ w.heap.size) : Below base w w' :=
  (Below.refl _ _).grown h.grown hb fun k hk => (hv.lt k hk).1
theorem below_grew {W w w' : World} {v v' : Value} {base : Nat} {e : TypeId} {sz n : Nat} {xs : List Value} (hb : Below base W w) (h : Grew w w' v v') (hv : w.ownsRow base e sz v n xs) (hB : base ≤ W.heap.size) : Below base W w' :=
  hb.trans (h.below hv (Nat.le_trans hB hb.size))

/-- Two rows of one's own do not share a block. -/
def Apart (v u : Value) : Prop := ∀ g, v.ownBlock = some g → u.ownBlock ≠ some g
theorem Apart.symm {v u : Value} (h : Apart v u) : Apart u v := fun g h1 h2 => h g h2 h1
theorem Grew.kept {w w' : World} {v v' u : Value} (h : Grew w w' v v') {base : Nat} {e : TypeId} {sz n : Nat} {xs : List Value} (hu : w.ownsRow base e sz u n xs) (ha : Apart v u) : w'.ownsRow base e sz u n xs :=
  hu.kept h.grown (by
    cases hb : u.ownBlock with
    | none => exact .inl rfl
    | some g => exact .inr fun e => ha g e.symm hb)
theorem Grew.apart {w w' : World} {v v' u : Value} (h : Grew w w' v v') {base : Nat} {e : TypeId} {sz n : Nat} {xs : List Value} (hu : w.ownsRow base e sz u n xs) (ha : Apart v u) : Apart v' u := by
  intro g h1 h2
  rcases h.block g h1 with h3 | h3
  · exact ha g h3 h2
  · have := (hu.lt g h2).2; omega

/-- Three rows of bytes of one's own, none of which shares a block with another. -/
structure Own3 (w : World) (base : Nat) (e : TypeId) (X Y Z : Value) (m1 m2 m3 : Nat) (l1 l2 l3 : List UInt8) : Prop where
  x : w.ownsRow base e 1 X m1 (l1.map bv)
  y : w.ownsRow base e 1 Y m2 (l2.map bv)
  z : w.ownsRow base e 1 Z m3 (l3.map bv)
  xy : Apart X Y
  xz : Apart X Z
  yz : Apart Y Z
section
variable {w w' : World} {base : Nat} {e : TypeId} {X Y Z X' : Value} {m1 m2 m3 m' : Nat} {l1 l2 l3 l' : List UInt8}
theorem Own3.below (h : Own3 w base e X Y Z m1 m2 m3 l1 l2 l3) (hb : Below w.heap.size w w') : Own3 w' base e X Y Z m1 m2 m3 l1 l2 l3 :=
  ⟨own_below h.x hb (Nat.le_refl _), own_below h.y hb (Nat.le_refl _), own_below h.z hb (Nat.le_refl _), h.xy, h.xz, h.yz⟩
theorem Own3.stepX (h : Own3 w base e X Y Z m1 m2 m3 l1 l2 l3) (hx : w'.ownsRow base e 1 X' m' (l'.map bv)) (hg : Grew w w' X X') : Own3 w' base e X' Y Z m' m2 m3 l' l2 l3 :=
  ⟨hx, hg.kept h.y h.xy, hg.kept h.z h.xz, hg.apart h.y h.xy, hg.apart h.z h.xz, h.yz⟩
theorem Own3.stepY (h : Own3 w base e X Y Z m1 m2 m3 l1 l2 l3) (hx : w'.ownsRow base e 1 X' m' (l'.map bv)) (hg : Grew w w' Y X') : Own3 w' base e X X' Z m1 m' m3 l1 l' l3 :=
  ⟨hg.kept h.x h.xy.symm, hx, hg.kept h.z h.yz, (hg.apart h.x h.xy.symm).symm, h.xz, hg.apart h.z h.yz⟩
theorem Own3.stepZ (h : Own3 w base e X Y Z m1 m2 m3 l1 l2 l3) (hx : w'.ownsRow base e 1 X' m' (l'.map bv)) (hg : Grew w w' Z X') : Own3 w' base e X Y X' m1 m2 m' l1 l2 l' :=
  ⟨hg.kept h.x h.xz.symm, hg.kept h.y h.yz.symm, hx, h.xy, (hg.apart h.x h.xz.symm).symm, (hg.apart h.y h.yz.symm).symm⟩
/-- Two rows of one's own of which the one was there ahead of the other one's. -/
theorem apart_of {w1 w2 : World} {b1 b2 : Nat} {e1 e2 : TypeId} {s1 s2 n1 n2 : Nat} {v u : Value} {xs ys : List Value} (h : w1.ownsRow b1 e1 s1 v n1 xs) (k : w2.ownsRow b2 e2 s2 u n2 ys) (hb : w1.heap.size ≤ b2) : Apart v u := by
  intro g h1 h2
  have := (h.lt g h1).2
  have := (k.lt g h2).1
  omega
end

section
variable {P : Program}
/-- One byte more: it is laid in a block of its own, and put behind. -/
theorem append_byte {ops : Array Oper} {rest : List Oper} {o : Oper} {a : Act} {Q : Exit → Act → World → Prop} (hgd : o.guard = none) (s x : Operand) (t : TypeId)
    (ho : o.op = .call { callee := .builtin .append, args := #[s, x], argTypes := #[t, t] })
    (e : TypeId) (i : TypeInfo) (z : Value) (ht : P.underlying t = some (.slice e)) (hi : P.info? e = some i) (hz : i.zero = some z)
    (hsize : i.size = 1) (hby : i.bytes = 1) (hzs : z.cells.size = 1)
    (w : World) (y : Int) (b : UInt8) (hy : y = (b.toNat : Int)) (base : Nat) (v : Value) (n : Nat) (l : List UInt8) (hs : a.eval s = v) (hown : w.ownsRow base e 1 v n (l.map bv))
    (hx : a.eval x = .slice (some ⟨w.heap.size, 0, none⟩) 1 1) (hn : n ≤ 70368744177664) (hbase : base ≤ w.heap.size)
    (h : ∀ A c w', OwnBytes w' base e A (n + 1) c (l ++ [b]) → Grew w w' v (.slice A (n + 1) c) → wpList P ops Q rest (a.put o.dst (.slice A (n + 1) c)) w') :
    wpList P ops Q (o :: rest) a (w.alloc (.cells #[.int .u8 y] e)) := by
  subst hy
  have hrow : Row (w.alloc (.cells #[bv b] e)) (w.heap.size + 1) (some ⟨w.heap.size, 0, none⟩) 1 [bv b] := Row.lit w #[bv b] e
  refine append_row hgd s x t ho e i z 1 1 ht hi hz hsize hby hzs (by decide) base v n (l.map bv) hs (hown.alloc _) (w.heap.size + 1) _ 1 1 [bv b] hx (fun h => by cases h) hrow (fun u hu => by obtain rfl := List.mem_singleton.1 hu; rfl) (by unfold maxLen; omega) (by omega) (by simp; omega) fun v' w' h1 h2 h3 => ?_
  obtain ⟨A, c, rfl, _⟩ := own_form h1
  refine h A c w' (by unfold OwnBytes; simpa using h1) ⟨(grown_alloc w _ _).trans h2, fun g hg => ?_⟩
  rcases h3 with h3 | h3
  · exact .inl (h3.symm.trans hg)
  · rw [h3] at hg
    obtain rfl := Option.some.inj hg
    exact .inr (by simp)

theorem strCells_bv (s : ByteArray) : Lib.strCells s = s.data.toList.map bv := by
  simp [Lib.strCells, bv]

/-- A string behind: where the answer lies. -/
theorem append_str {ops : Array Oper} {rest : List Oper} {o : Oper} {a : Act} {Q : Exit → Act → World → Prop} (hgd : o.guard = none) (sl x : Operand) (t u : TypeId)
    (ho : o.op = .call { callee := .builtin .append, args := #[sl, x], argTypes := #[t, u] })
    (e : TypeId) (i : TypeInfo) (ht : P.underlying t = some (.slice e)) (hu : P.underlying u = some .string) (hi : P.info? e = some i) (hz : i.zero = some (.int .u8 0)) (hsize : i.size = 1) (hby : i.bytes = 1)
    (w : World) (base : Nat) (v : Value) (n : Nat) (l : List UInt8) (hs : a.eval sl = v) (hown : w.ownsRow base e 1 v n (l.map bv)) (s : ByteArray) (hx : a.eval x = .string s)
    (hn : n + s.size ≤ 140737488355328) (hbase : base ≤ w.heap.size)
    (h : ∀ A c w', OwnBytes w' base e A (n + s.size) c (l ++ s.data.toList) → Grew w w' v (.slice A (n + s.size) c) → wpList P ops Q rest (a.put o.dst (.slice A (n + s.size) c)) w') : wpList P ops Q (o :: rest) a w := by
  refine wpList_plain hgd fun K hK => ?_
  have h63 : n + s.size ≤ maxLen := by unfold maxLen; omega
  obtain ⟨v', w', hr, h2, h3, h4⟩ := Lib.run_append_own_string (P := P) w base t u o.type e i ht hu hi hz hsize hby v n (l.map bv) hown s h63 hn hbase
  have hblock : ∀ g, v'.ownBlock = some g → v.ownBlock = some g ∨ w.heap.size ≤ g := by
    intro g hg
    rcases hown.2 with ⟨rfl, rfl⟩ | ⟨b, cap, cur, rfl, hbg, hb, hnc, hcm, hcs, htake⟩
    · by_cases hm : s.size = 0
      · rw [h4.2 ⟨rfl, hm⟩] at hg; cases hg
      · have hr' := run_append_nil_string (P := P) w t u o.type e i (.int .u8 0) ht hu hi hz s (by omega) (by omega) (by rw [hby]; omega)
        rw [hr] at hr'
        injection hr' with h5 _
        subst h5
        obtain rfl : w.heap.size = g := by simpa [Value.ownBlock] using hg
        exact .inr (Nat.le_refl _)
    · by_cases hroom : n + s.size ≤ cap
      · have hcs' : cur.size = cap := by simpa using hcs
        have hr' := Lib.run_append_room_string (P := P) w t u o.type e i ht hu hi hsize b n cap cur hb s hroom (by omega)
        rw [hr] at hr'
        injection hr' with h5 _
        subst h5
        exact .inl hg
      · have hxl : (l.map bv).length = n * i.size := by rw [hsize]; exact hown.1
        have hr' := Lib.run_append_grow_string (P := P) w t u o.type e i (.int .u8 0) ht hu hi hz ⟨b, 0, none⟩ n cap (l.map bv) hxl (fun j y hj => hown.cells (g := b) rfl j y hj) s (by omega) (by omega) (by rw [hby]; exact growslice_fits (by omega) (by omega))
        rw [hr] at hr'
        injection hr' with h5 _
        subst h5
        obtain rfl : w.heap.size = g := by simpa [Value.ownBlock] using hg
        exact .inr (Nat.le_refl _)
  obtain ⟨A, c, rfl, _⟩ := own_form h2
  unfold Oper.wp execOp
  simp only [ho, resolve, invoke, builtin, Sem.run_bind, Sem.run_pure, Result.andThen_ok, List.map_toArray, List.map_cons, List.map_nil, hs, hx, hr]
  refine hK _ _ (h A c w' ?_ ⟨h3, hblock⟩)
  unfold OwnBytes
  rw [List.map_append, ← strCells_bv]
  exact h2
end
end Go.Proofs.YtggplgmjonnliaaGreatDoor
