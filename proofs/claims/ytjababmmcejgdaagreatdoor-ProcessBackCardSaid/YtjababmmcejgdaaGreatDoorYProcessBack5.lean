/- An expression's six cells. A process in memory: a node's field is set. A seed of a process that came in by value. -/
import Derived.Test.YtjababmmcejgdaaGreatDoorYProcessBack11
import Derived.Test.YtjababmmcejgdaaGreatDoorYProcessBack10
import Derived.Laws.BitsAllLaws
import Derived.Test.YtjababmmcejgdaaGreatDoorProg
import Derived.Test.YtjababmmcejgdaaGreatDoorYProcessBack4
import Derived.KernelRfl
namespace Go.Proofs.YtjababmmcejgdaaGreatDoor
open Go.RowKit

/-- The six cells of an expression. -/
def Ex.list (x : Ex) : List Value := [.int .i64 x.op, .int .i64 x.kind, .int .i64 x.num, .string x.txt, .string x.name, .slice x.A x.n x.c]
theorem Cel.six_of {w : World} {z : Nat} {y : Ex} (h : Cel w z y.list) : (w.cell? ⟨z, 0, none⟩ = some (.int .i64 y.op) ∧ w.cell? ⟨z, 1, none⟩ = some (.int .i64 y.kind) ∧ w.cell? ⟨z, 2, none⟩ = some (.int .i64 y.num) ∧
    w.cell? ⟨z, 3, none⟩ = some (.string y.txt) ∧ w.cell? ⟨z, 4, none⟩ = some (.string y.name) ∧ w.cell? ⟨z, 5, none⟩ = some (.slice y.A y.n y.c)) ∧
    (w.frozen? ⟨z, 0, none⟩ = false ∧ w.frozen? ⟨z, 1, none⟩ = false ∧ w.frozen? ⟨z, 2, none⟩ = false ∧ w.frozen? ⟨z, 3, none⟩ = false ∧ w.frozen? ⟨z, 4, none⟩ = false ∧ w.frozen? ⟨z, 5, none⟩ = false) :=
  ⟨⟨h.cell 0 _ rfl, h.cell 1 _ rfl, h.cell 2 _ rfl, h.cell 3 _ rfl, h.cell 4 _ rfl, h.cell 5 _ rfl⟩,
    h.froz 0 (by simp [Ex.list]), h.froz 1 (by simp [Ex.list]), h.froz 2 (by simp [Ex.list]), h.froz 3 (by simp [Ex.list]), h.froz 4 (by simp [Ex.list]), h.froz 5 (by simp [Ex.list])⟩
def Ex.zero : Ex := ⟨0, 0, 0, ⟨#[]⟩, ⟨#[]⟩, none, 0, 0⟩
/-- An expression's six cells are written. -/
def set6 (w : World) (z : Nat) (x : Ex) : World :=
  (((((w.setCell ⟨z, 0, none⟩ (.int .i64 x.op)).setCell ⟨z, 1, none⟩ (.int .i64 x.kind)).setCell ⟨z, 2, none⟩ (.int .i64 x.num)).setCell ⟨z, 3, none⟩ (.string x.txt)).setCell ⟨z, 4, none⟩ (.string x.name)).setCell ⟨z, 5, none⟩ (.slice x.A x.n x.c)
theorem set6_grown (w : World) (z : Nat) (x : Ex) : w.grownBy (set6 w z x) (some z) :=
  set_grown (set_grown (set_grown (set_grown (set_grown (set_grown (World.grownBy.refl _ _) 0 _) 1 _) 2 _) 3 _) 4 _) 5 _
theorem Cel.six {w : World} {z : Nat} {y : Ex} (h : Cel w z y.list) (x : Ex) : Cel (set6 w z x) z x.list :=
  (((((h.set (i := 0) (by simp [Ex.list]) _).set (i := 1) (by simp [Ex.list]) _).set (i := 2) (by simp [Ex.list]) _).set (i := 3) (by simp [Ex.list]) _).set (i := 4) (by simp [Ex.list]) _).set (i := 5) (by simp [Ex.list]) _
end Go.Proofs.YtjababmmcejgdaaGreatDoor
namespace Go.Proofs.YtjababmmcejgdaaGreatDoor
open Go.RowKit

theorem Cs.flat_set {α : Type} (κ : Cs α) (f : α → α) (i : Nat) (u : Value) (hi : i < κ.k) (hf : ∀ x, κ.cs (f x) = (κ.cs x).set i u) : ∀ (l : List α) (j : Nat), j < l.length → (l.flatMap κ.cs).set (j * κ.k + i) u = (l.modify j f).flatMap κ.cs
  | [], _, h => by cases h
  | y :: l, 0, _ => by
    rw [List.modify_zero_cons, List.flatMap_cons, List.flatMap_cons, List.set_append, if_pos (by rw [κ.len]; omega), hf]
    simp
  | y :: l, j + 1, h => by
    rw [List.modify_succ_cons, List.flatMap_cons, List.flatMap_cons, List.set_append, if_neg (by rw [κ.len, Nat.succ_mul]; omega)]
    rw [show (j + 1) * κ.k + i - (κ.cs y).length = j * κ.k + i from by rw [κ.len, Nat.succ_mul]; omega, Cs.flat_set κ f i u hi hf l j (by simpa using h)]
theorem OwnK.set {α : Type} {κ : Cs α} {w : World} {base n c g : Nat} {e : TypeId} {l : List α} (h : OwnK κ w base e (some ⟨g, 0, none⟩) n c l) (f : α → α) (i : Nat) (u : Value) (hi : i < κ.k) (hf : ∀ x, κ.cs (f x) = (κ.cs x).set i u) {j : Nat} (hj : j < l.length) :
    OwnK κ (w.setCell ⟨g, j * κ.k + i, none⟩ u) base e (some ⟨g, 0, none⟩) n c (l.modify j f) :=
  ⟨h.1, by rw [← Cs.flat_set κ f i u hi hf l j hj]; exact (World.ownsRow.stored h.2 (j * κ.k + i) u).1⟩
theorem OwnK.frozen {α : Type} {κ : Cs α} {w : World} {base n c g : Nat} {e : TypeId} {l : List α} (h : OwnK κ w base e (some ⟨g, 0, none⟩) n c l) (o : Nat) : w.frozen? ⟨g, o, none⟩ = false := by
  rcases h.2.2 with ⟨hv, _⟩ | ⟨g', cap, cur, hv, hg, hh, _⟩
  · cases hv
  · obtain rfl : g = g' := by injection hv with hA; injection hA with hA; injection hA
    unfold World.frozen?
    rw [hh]; rfl
theorem OwnK.some_of {α : Type} {κ : Cs α} {w : World} {base n c : Nat} {e : TypeId} {A : Option Addr} {l : List α} (h : OwnK κ w base e A n c l) (hn : 0 < n) : ∃ g, A = some ⟨g, 0, none⟩ ∧ base ≤ g ∧ g < w.heap.size := by
  rcases h.2.2 with ⟨_, h0⟩ | ⟨g, cap, cur, hv, hg, hh, _⟩
  · omega
  · injection hv with hA _ _
    exact ⟨g, hA, hg, blk_lt hh⟩
namespace Pr
theorem C.row {w : World} {base q : Nat} {p : P} (h : C w base q p) {k : Nat} (hk : k < p.n) :
    ∃ g c : Nat, w.cell? ⟨q, 1, none⟩ = some (.slice (some ⟨g, 0, none⟩) p.n c) ∧ base ≤ g ∧ g < w.heap.size ∧ g ≠ q ∧ (∀ (i : Nat) (v : Value), (p.nodes[k]!).cells[i]? = some v → w.cell? ⟨g, k * 8 + i, none⟩ = some v) ∧ (∀ o, w.frozen? ⟨g, o, none⟩ = false) ∧
      ∀ (i : Nat) (u : Value) (f : Nd → Nd), i < 8 → (∀ x : Nd, (f x).cells = x.cells.set i u) → C (w.setCell ⟨g, k * 8 + i, none⟩ u) base q (p.set k f) := by
  obtain ⟨A, n, c, F, m, d, hc, hn, hf, h1, h2⟩ := h.ex
  obtain rfl : p.n = n := hn.len
  obtain ⟨g, rfl, hg, hgl⟩ := hn.some_of (by omega)
  have hgq : g ≠ q := h1 _ rfl
  refine ⟨g, c, hc.cell 1 _ rfl, hg, hgl, hgq, fun i v hv => ?_, hn.frozen, fun i u f hi hfx => ?_⟩
  · have := KRow.of (κ := Nd.κ) hn.row hn.1 hk i v hv
    rwa [Nat.zero_add] at this
  · have hset := hn.set f i u hi hfx (j := k) hk
    refine ⟨⟨some ⟨g, 0, none⟩, p.n, c, F, m, d, hc.kept (grown_setCell w ⟨g, k * 8 + i, none⟩ u) (by intro e; exact hgq (Option.some.inj e)), ?_, ?_, h1, h2⟩, h.low⟩
    · exact hset
    · exact hf.kept (grown_setCell w ⟨g, k * 8 + i, none⟩ u) fun a ha e => hn.apart hf (by decide) rfl ha (Option.some.inj e)
end Pr
end Go.Proofs.YtjababmmcejgdaaGreatDoor
namespace Go.Proofs.YtjababmmcejgdaaGreatDoor
open Go.ChangeShapes Go.WideShapes Go.RowKit

theorem open_row1c {α : Type} [Inhabited α] {H : Type} {enc : TypeId × Value → H} {P : Program} {W : World} {t e : TypeId} {cs : List Value} {fuel : Nat} {x : DataW H × List MemPlace}
    (f : α → Value) (ok : α → Prop) (ht : P.underlying t = some (.slice e)) (hc : P.cellsOf e = 1)
    (hel : ∀ n V x, DataW.trod enc P W 0 (fun _ => true) true n e [V] = some x → ∃ y, V = f y ∧ ok y)
    (hf : DataW.trod enc P W 0 (fun _ => true) true fuel t cs = some x) : ∃ (a : Option Addr) (len cap : Nat) (l : List α), cs = [.slice a len cap] ∧ InRow W 1 a len cap (l.map f) ∧ ∀ y ∈ l, ok y := by
  have key : ∃ a len cap, cs = [Value.slice a len cap] := by
    rcases Deep.open_slice1 ht hc hf with ⟨hcs, _⟩ | ⟨x, l, c, m, n, V, D, Pl, hcs, _⟩
    · exact ⟨_, _, _, hcs⟩
    · exact ⟨_, _, _, hcs⟩
  obtain ⟨a, len, cap, rfl⟩ := key
  obtain ⟨l, h1, h2⟩ := open_row1 (d := x.1) (ps := x.2) f ok ht hc hel ⟨fuel, hf⟩
  exact ⟨a, len, cap, l, rfl, h1, h2⟩
theorem open_ints64c {H : Type} {enc : TypeId × Value → H} {P : Program} {W : World} {t e : TypeId} {cs : List Value} {fuel : Nat} {x : DataW H × List MemPlace}
    (ht : P.underlying t = some (.slice e)) (he : P.underlying e = some (.int .i64)) (hc : P.cellsOf e = 1) (hf : DataW.trod enc P W 0 (fun _ => true) true fuel t cs = some x) :
    ∃ (a : Option Addr) (len cap : Nat) (l : List Int), cs = [.slice a len cap] ∧ InRow W 1 a len cap (l.map (Value.int .i64)) ∧ ∀ y ∈ l, -9223372036854775808 ≤ y ∧ y ≤ 9223372036854775807 :=
  open_row1c (Value.int .i64) _ ht hc (fun n V x hx => by
    obtain ⟨y, h1, _, h2⟩ := DataW.trod_int he hx
    have := bounds_i64 h2
    exact ⟨y, by simpa using h1, by omega⟩) hf

/-- A seed as plain data, and where its rows lie. -/
structure SeedV where
  name : ByteArray
  KA : Option Addr
  kn : Nat
  kc : Nat
  EA : Option Addr
  en : Nat
  ec : Nat
  MA : Option Addr
  mn : Nat
  mc : Nat
  ks : List Int
  es : List Int
  ms : List Int
def SeedV.val (s : SeedV) : Value := .agg #[.string s.name, .slice s.KA s.kn s.kc, .slice s.EA s.en s.ec, .slice s.MA s.mn s.mc]
def i64s (l : List Int) : Prop := ∀ y ∈ l, -9223372036854775808 ≤ y ∧ y ≤ 9223372036854775807
structure InSeed (w : World) (s : SeedV) : Prop where
  name : s.name.size ≤ maxLen
  k : InRow w 1 s.KA s.kn s.kc (s.ks.map (Value.int .i64))
  e : InRow w 1 s.EA s.en s.ec (s.es.map (Value.int .i64))
  m : InRow w 1 s.MA s.mn s.mc (s.ms.map (Value.int .i64))
  kb : i64s s.ks
  eb : i64s s.es
  mb : i64s s.ms
theorem trod_seed {H : Type} {enc : TypeId × Value → H} {W : World} {fuel : Nat} {c0 c1 c2 c3 : Value} {x : DataW H × List MemPlace}
    (h : DataW.trod enc Tryz.prog W 0 (fun _ => true) true fuel 24 [c0, c1, c2, c3] = some x) : ∃ s : SeedV, [c0, c1, c2, c3] = [.string s.name, .slice s.KA s.kn s.kc, .slice s.EA s.en s.ec, .slice s.MA s.mn s.mc] ∧ InSeed W s := by
  have cs' : Tryz.prog.cellsOf 9 = 1 := by kernel_rfl
  have ci' : Tryz.prog.cellsOf 22 = 1 := by kernel_rfl
  obtain ⟨xs, k, hk, hxy, _, hxl, hfd⟩ := DataW.trod_struct Tryz.underlying24 h
  match xs, hxl with
  | [y0, y1, y2, y3], _ =>
    have g0 := hfd 0 _ rfl
    have g1 := hfd 1 _ rfl
    have g2 := hfd 2 _ rfl
    have g3 := hfd 3 _ rfl
    simp [cs', ci'] at g0 g1 g2 g3
    obtain ⟨s0, q0, _, b0⟩ := DataW.trod_string Tryz.underlying9 g0
    obtain ⟨a1, n1, p1, l1, q1, r1, b1⟩ := open_ints64c Tryz.underlying22 Tryz.underlying3 (by kernel_rfl) g1
    obtain ⟨a2, n2, p2, l2, q2, r2, b2⟩ := open_ints64c Tryz.underlying22 Tryz.underlying3 (by kernel_rfl) g2
    obtain ⟨a3, n3, p3, l3, q3, r3, b3⟩ := open_ints64c Tryz.underlying22 Tryz.underlying3 (by kernel_rfl) g3
    simp only [List.cons.injEq, and_true] at q0 q1 q2 q3
    subst q0; subst q1; subst q2; subst q3
    exact ⟨⟨s0, a1, n1, p1, a2, n2, p2, a3, n3, p3, l1, l2, l3⟩, rfl, ⟨b0, r1, r2, r3, b1, b2, b3⟩⟩
set_option maxRecDepth 100000 in
theorem open_seed {H : Type} {enc : TypeId × Value → H} {W : World} {r : Reach} {b0 : Nat} {v : Value} {d : DataW H} {ps : List MemPlace}
    (hv : Value.okWide Tryz.prog W r b0 24 v) (h : DataW.Trod enc Tryz.prog W 0 (fun _ => true) true 24 v d ps) : ∃ s : SeedV, v = s.val ∧ InSeed W s := by
  have hu := Tryz.underlying24
  have ⟨cs, he, hsz⟩ := okWide_struct hu hv
  subst he
  clear hu
  have ce : Tryz.prog.cellsOf 24 = 4 := by kernel_rfl
  obtain ⟨l⟩ := cs
  have h4 : l.length = 4 := by rw [ce] at hsz; simpa using hsz
  clear hv hsz ce
  obtain ⟨c0, c1, c2, c3, rfl⟩ : ∃ c0 c1 c2 c3, l = [c0, c1, c2, c3] := by
    match l, h4 with
    | [c0, c1, c2, c3], _ => exact ⟨_, _, _, _, rfl⟩
  · obtain ⟨fuel, hf⟩ := h
    obtain ⟨x, hx, hi⟩ := trod_seed hf
    refine ⟨x, ?_, hi⟩
    simp only [List.cons.injEq, and_true] at hx
    obtain ⟨rfl, rfl, rfl, rfl⟩ := hx
    rfl
end Go.Proofs.YtjababmmcejgdaaGreatDoor
