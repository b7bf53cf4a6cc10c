/- Mathematics of processes out of few numbers: all of their numbers and texts are small. An expression's six cells. The document's parser: a part of a row. A seed of a process that came in by value. -/
import Derived.Test.YtddedbpbenkdoaaGreatDoorYProcessOne12
import Derived.Test.YtddedbpbenkdoaaGreatDoorYProcessOne1
import Derived.Test.YtddedbpbenkdoaaGreatDoorYProcessOne7
import Derived.Test.YtddedbpbenkdoaaGreatDoorYProcessOne4
import Derived.Test.YtddedbpbenkdoaaGreatDoorProg
import Derived.KernelRfl
namespace Go.Proofs.YtddedbpbenkdoaaGreatDoor
open Go.RowKit

namespace Pr
/-- A number that Take takes. -/
def TinyI (k : Int) : Prop := -1 ≤ k ∧ k ≤ 1000
structure TinyN (x : Nd) : Prop where
  kind : TinyI x.kind
  prio : TinyI x.prio
  retr : TinyI x.retr
  dflt : TinyI x.dflt
  tgt : TinyI x.tgt
  topic : x.topic.size ≤ 24
  code : x.code.size ≤ 24
  caught : x.caught.size ≤ 24
structure TinyF (f : Fl) : Prop where
  frm : TinyI f.frm
  til : TinyI f.til
  cond : f.cond.size ≤ 80
structure Tiny (p : P) : Prop where
  name : p.name.size ≤ 24
  n : p.n ≤ 30
  m : p.m ≤ 60
  nd : ∀ x ∈ p.nodes, TinyN x
  fl : ∀ f ∈ p.flows, TinyF f
theorem tiny64 {k : Int} (h : TinyI k) : -9223372036854775808 ≤ k ∧ k ≤ 9223372036854775807 := by unfold TinyI at h; omega
theorem nm_size {s : ByteArray} (h : nm s = true) : s.size ≤ 24 := by
  unfold nm at h
  rw [ByteArray.toList_eq] at h
  by_cases hs : s.size ≤ 24
  · exact hs
  · rw [Vr.name_long (s := s.data.toList) (by simp; omega)] at h
    cases h
theorem good_tiny (kinds more : List Int) (rings : Bool) : Tiny (good kinds more rings) := by
  obtain ⟨h1, h2, h3, h4, h5⟩ := good_inv kinds more rings
  generalize good kinds more rings = p at *
  refine ⟨by rw [h5]; decide, by omega, by omega, fun x hx => ?_, fun f hf => ?_⟩
  · obtain ⟨i, hi, rfl⟩ := List.getElem_of_mem hx
    have hi' : i < p.n := hi
    have hf := h1.field i hi'
    have ho := h1.outs i hi'
    have hx' : p.nodes[i]! = p.nodes[i] := getElem!_pos p.nodes i hi
    have htg : TinyI (p.nodes[i]!).tgt := by
      unfold TinyI
      by_cases hc : (p.nodes[i]!).caught = no
      · rw [ho.tgt hc]; omega
      · have h4k : (p.nodes[i]!).kind = 4 := by
          rcases hf.caught with e | ⟨e, _⟩
          · exact absurd e hc
          · exact e
        obtain ⟨_, j, hj, e, _⟩ := ho.wk1 h4k hc
        rw [e]; omega
    have hdf : TinyI (p.nodes[i]!).dflt := by
      unfold TinyI
      rcases ho.dflt with e | ⟨_, j, hj, e, _⟩
      · rw [e]; omega
      · rw [e]; omega
    rw [hx'] at hf htg hdf
    generalize p.nodes[i] = x at *
    have hk : TinyI x.kind := by unfold TinyI; rcases hf.kind with e | e | e | e | e | e <;> omega
    have hca : x.caught.size ≤ 24 := by
      rcases hf.caught with e | ⟨_, e⟩ <;> rw [e] <;> decide
    have hco : x.code.size ≤ 24 := by rw [hf.code]; decide
    by_cases h4k : x.kind = 4
    · obtain ⟨w1, w2, w3⟩ := hf.wk h4k
      unfold within at w2 w3
      simp only [Bool.and_eq_true, decide_eq_true_eq] at w2 w3
      exact ⟨hk, by unfold TinyI; omega, by unfold TinyI; omega, hdf, htg, nm_size w1, hco, hca⟩
    · obtain ⟨w1, w2, w3⟩ := hf.nowk h4k
      exact ⟨hk, by rw [w2]; unfold TinyI; omega, by rw [w3]; unfold TinyI; omega, hdf, htg, by rw [w1]; decide, hco, hca⟩
  · have h := h1.flow f hf
    obtain ⟨a, b, e1, e2, l1, l2, _⟩ := h.ends
    refine ⟨by unfold TinyI; rw [e1]; omega, by unfold TinyI; rw [e2]; omega, ?_⟩
    rcases h.cond with e | ⟨_, k, e⟩
    · rw [e]; decide
    · rw [e]; exact (cond_ok k).2
end Pr
end Go.Proofs.YtddedbpbenkdoaaGreatDoor
namespace Go.Proofs.YtddedbpbenkdoaaGreatDoor
open Go.RowKit

/-- The six cells of an expression. -/
def Ex.list (x : Ex) : List Value := [.int .i64 x.op, .int .i64 x.kind, .int .i64 x.num, .string x.txt, .string x.name, .slice x.A x.n x.c]
theorem Cel.six_of {w : World} {z : Nat} {y : Ex} (h : Cel w z y.list) : (w.cell? ⟨z, 0, none⟩ = some (.int .i64 y.op) ∧ w.cell? ⟨z, 1, none⟩ = some (.int .i64 y.kind) ∧ w.cell? ⟨z, 2, none⟩ = some (.int .i64 y.num) ∧
    w.cell? ⟨z, 3, none⟩ = some (.string y.txt) ∧ w.cell? ⟨z, 4, none⟩ = some (.string y.name) ∧ w.cell? ⟨z, 5, none⟩ = some (.slice y.A y.n y.c)) ∧
    (w.frozen? ⟨z, 0, none⟩ = false ∧ w.frozen? ⟨z, 1, none⟩ = false ∧ w.frozen? ⟨z, 2, none⟩ = false ∧ w.frozen? ⟨z, 3, none⟩ = false ∧ w.frozen? ⟨z, 4, none⟩ = false ∧ w.frozen? ⟨z, 5, none⟩ = false) :=
  ⟨⟨h.cell 0 _ rfl, h.cell 1 _ rfl, h.cell 2 _ rfl, h.cell 3 _ rfl, h.cell 4 _ rfl, h.cell 5 _ rfl⟩,
    h.froz 0 (by simp [Ex.list]), h.froz 1 (by simp [Ex.list]), h.froz 2 (by simp [Ex.list]), h.froz 3 (by simp [Ex.list]), h.froz 4 (by simp [Ex.list]), h.froz 5 (by simp [Ex.list])⟩
def Ex.zero : Ex := ⟨0, 0, 0, ⟨#[]⟩, ⟨#[]⟩, none, 0, 0⟩
/-- An expression's six cells are written. -/
def set6 (w : World) (z : Nat) (x : Ex) : World :=
  (((((w.setCell ⟨z, 0, none⟩ (.int .i64 x.op)).setCell ⟨z, 1, none⟩ (.int .i64 x.kind)).setCell ⟨z, 2, none⟩ (.int .i64 x.num)).setCell ⟨z, 3, none⟩ (.string x.txt)).setCell ⟨z, 4, none⟩ (.string x.name)).setCell ⟨z, 5, none⟩ (.slice x.A x.n x.c)
theorem set6_grown (w : World) (z : Nat) (x : Ex) : w.grownBy (set6 w z x) (some z) :=
  set_grown (set_grown (set_grown (set_grown (set_grown (set_grown (World.grownBy.refl _ _) 0 _) 1 _) 2 _) 3 _) 4 _) 5 _
theorem Cel.six {w : World} {z : Nat} {y : Ex} (h : Cel w z y.list) (x : Ex) : Cel (set6 w z x) z x.list :=
  (((((h.set (i := 0) (by simp [Ex.list]) _).set (i := 1) (by simp [Ex.list]) _).set (i := 2) (by simp [Ex.list]) _).set (i := 3) (by simp [Ex.list]) _).set (i := 4) (by simp [Ex.list]) _).set (i := 5) (by simp [Ex.list]) _
end Go.Proofs.YtddedbpbenkdoaaGreatDoor
namespace Go.Proofs.YtddedbpbenkdoaaGreatDoor
open Go.RowKit

section
variable {w w1 : World} {q d : Nat} {s : ByteArray} {st : Co.St}
theorem DpC.alloc (h : DpC w q s st d) (o : Obj) : DpC (w.alloc o) q s st d := by
  obtain ⟨x, hx, hs⟩ := h.ex
  exact ⟨h.gd, x, hx.alloc o, hs⟩
theorem DpC.other (h : DpC w q s st d) {z : Option Nat} (hg : w.grownBy w1 z) (hz : z ≠ some q) : DpC w1 q s st d := by
  obtain ⟨x, hx, hs⟩ := h.ex
  exact ⟨h.gd, x, hx.kept hg hz, hs⟩
theorem DpC.lt (h : DpC w q s st d) : q < w.heap.size := by
  obtain ⟨x, hx, _⟩ := h.ex
  exact hx.lt
set_option maxHeartbeats 1600000 in
/-- A part, by what is called for it (g, with what it is given besides). -/
theorem dpart_any (g lv : Nat) (more : Array Value) (hlv : (lv = 5 ∧ g = 85 ∧ more = #[]) ∨ (lv < 5 ∧ g = 60 ∧ more = #[.int .i64 ((lv : Int) + 1)]))
    (f : Co.St → Co.Out) (hk : Co.Keeps f) (ht : Co.Tot s.data.toList f) (HP : DPart q s g more d f) : DPart q s 74 #[.int .i64 (lv : Int)] d f := by
  intro st e st' hf w h
  have HZ := Lib.hid (Cel.lit w #[.int .i64 0, .int .i64 0, .int .i64 0, .string ⟨#[]⟩, .string ⟨#[]⟩, .slice none 0 0] 87)
  obtain ⟨x, hx, hs⟩ := (h.alloc (.cells #[.int .i64 0, .int .i64 0, .int .i64 0, .string ⟨#[]⟩, .string ⟨#[]⟩, .slice none 0 0] 87)).ex
  have H1 := Lib.hid (h.alloc (.cells #[.int .i64 0, .int .i64 0, .int .i64 0, .string ⟨#[]⟩, .string ⟨#[]⟩, .slice none 0 0] 87))
  have hql := h.lt
  have FI := Lib.hid (dfine_any hx)
  have HX := Lib.hid hx
  have HS := Lib.hid hs
  have HF := Lib.hid hf
  clear h hx hs hf
  by_cases hb : x.c = 0
  · have hbt : (x.c == 0) = true := by simpa using hb
    have HC := Lib.hid (HP st e st' HF.out _ H1.out)
    rw [hbt] at FI
    rcases hlv with ⟨rfl, rfl, rfl⟩ | ⟨h5, rfl, rfl⟩
    · clear hb hbt
      go_enter Tryz.func74, Tryz.ntmps74
      go_wp2_with fail
      refine FI.out.mono ?_
      rintro e w3 ⟨rfl, rfl⟩
      go_wp2_with fail
      refine HC.out.mono ?_
      rintro e w2 ⟨⟨y, rfl⟩, h2, hg2⟩
      have HZ2 : Hid (Cel w2 w.heap.size Ex.zero.list) := HZ.out.kept hg2 (by intro e; have := Option.some.inj e; omega)
      have H2 := Lib.hid h2
      have HG2 := Lib.hid hg2
      obtain ⟨⟨z0, z1, z2, z3, z4, z5⟩, g0, g1, g2, g3, g4, g5⟩ := HZ2.out.six_of
      clear h2 hg2
      unfold Ex.val
      go_wp2
      have hfin := HZ2.out.six y
      have h3 := H2.out.other (set6_grown w2 w.heap.size y) (by intro e; have := Option.some.inj e; omega)
      have hg3 : w.grownBy (set6 w2 w.heap.size y) (some q) := grown_past (grown_trans (grown_alloc _ _ _) HG2.out) (set6_grown w2 w.heap.size y) (Nat.le_refl _)
      show bodyPost _ _ _ _ _ (set6 w2 w.heap.size y)
      generalize set6 w2 w.heap.size y = wf at *
      obtain ⟨⟨k0, k1, k2, k3, k4, k5⟩, _⟩ := hfin.six_of
      exact bodyPost_ret (v := y.val) (by simp [results, Tryz.results74, go_sem, k0, k1, k2, k3, k4, k5, Ex.val]) rfl ⟨⟨y, rfl⟩, h3, hg3⟩
    · have h5b : ((lv : Int) == 5) = false := by rw [beq_eq_false_iff_ne]; omega
      have hlw : IntKind.i64.wrap ((lv : Int) + 1) = (lv : Int) + 1 := by rw [IntKind.wrap_i64]; omega
      clear hb hbt
      go_enter Tryz.func74, Tryz.ntmps74
      go_wp2_with fail
      refine FI.out.mono ?_
      rintro e w3 ⟨rfl, rfl⟩
      go_wp2_with fail
      refine HC.out.mono ?_
      rintro e w2 ⟨⟨y, rfl⟩, h2, hg2⟩
      have HZ2 : Hid (Cel w2 w.heap.size Ex.zero.list) := HZ.out.kept hg2 (by intro e; have := Option.some.inj e; omega)
      have H2 := Lib.hid h2
      have HG2 := Lib.hid hg2
      obtain ⟨⟨z0, z1, z2, z3, z4, z5⟩, g0, g1, g2, g3, g4, g5⟩ := HZ2.out.six_of
      clear h2 hg2
      unfold Ex.val
      go_wp2
      have hfin := HZ2.out.six y
      have h3 := H2.out.other (set6_grown w2 w.heap.size y) (by intro e; have := Option.some.inj e; omega)
      have hg3 : w.grownBy (set6 w2 w.heap.size y) (some q) := grown_past (grown_trans (grown_alloc _ _ _) HG2.out) (set6_grown w2 w.heap.size y) (Nat.le_refl _)
      show bodyPost _ _ _ _ _ (set6 w2 w.heap.size y)
      generalize set6 w2 w.heap.size y = wf at *
      obtain ⟨⟨k0, k1, k2, k3, k4, k5⟩, _⟩ := hfin.six_of
      exact bodyPost_ret (v := y.val) (by simp [results, Tryz.results74, go_sem, k0, k1, k2, k3, k4, k5, Ex.val]) rfl ⟨⟨y, rfl⟩, h3, hg3⟩
  · have hbf : (x.c == 0) = false := by simpa using hb
    rw [hbf] at FI
    have HB := Lib.hid hb
    clear hb hbf hlv
    go_enter Tryz.func74, Tryz.ntmps74
    go_wp2_with (go_at_call 61; refine (FI.out).mono ?_; rintro e w3 ⟨rfl, rfl⟩)
    obtain ⟨⟨k0, k1, k2, k3, k4, k5⟩, _⟩ := (show Cel _ _ Ex.zero.list from HZ.out).six_of
    refine bodyPost_ret (v := Ex.zero.val) (by simp [results, Tryz.results74, go_sem, k0, k1, k2, k3, k4, k5, Ex.val]) rfl ⟨⟨_, rfl⟩, H1.out.stay HF.out hk ht HX.out HS.out HB.out, grown_alloc _ _ _⟩
end
end Go.Proofs.YtddedbpbenkdoaaGreatDoor
namespace Go.Proofs.YtddedbpbenkdoaaGreatDoor
open Go.ChangeShapes Go.WideShapes Go.RowKit

theorem open_row1c {α : Type} [Inhabited α] {H : Type} {enc : TypeId × Value → H} {P : Program} {W : World} {t e : TypeId} {cs : List Value} {fuel : Nat} {x : DataW H × List MemPlace}
    (f : α → Value) (ok : α → Prop) (ht : P.underlying t = some (.slice e)) (hc : P.cellsOf e = 1)
    (hel : ∀ n V x, DataW.trod enc P W 0 (fun _ => true) true n e [V] = some x → ∃ y, V = f y ∧ ok y)
    (hf : DataW.trod enc P W 0 (fun _ => true) true fuel t cs = some x) : ∃ (a : Option Addr) (len cap : Nat) (l : List α), cs = [.slice a len cap] ∧ InRow W 1 a len cap (l.map f) ∧ ∀ y ∈ l, ok y := by
  have key : ∃ a len cap, cs = [Value.slice a len cap] := by
    rcases Deep.open_slice1 ht hc hf with ⟨hcs, _⟩ | ⟨x, l, c, m, n, V, D, Pl, hcs, _⟩
    · exact ⟨_, _, _, hcs⟩
    · exact ⟨_, _, _, hcs⟩
  obtain ⟨a, len, cap, rfl⟩ := key
  obtain ⟨l, h1, h2⟩ := open_row1 (d := x.1) (ps := x.2) f ok ht hc hel ⟨fuel, hf⟩
  exact ⟨a, len, cap, l, rfl, h1, h2⟩
theorem open_ints64c {H : Type} {enc : TypeId × Value → H} {P : Program} {W : World} {t e : TypeId} {cs : List Value} {fuel : Nat} {x : DataW H × List MemPlace}
    (ht : P.underlying t = some (.slice e)) (he : P.underlying e = some (.int .i64)) (hc : P.cellsOf e = 1) (hf : DataW.trod enc P W 0 (fun _ => true) true fuel t cs = some x) :
    ∃ (a : Option Addr) (len cap : Nat) (l : List Int), cs = [.slice a len cap] ∧ InRow W 1 a len cap (l.map (Value.int .i64)) ∧ ∀ y ∈ l, -9223372036854775808 ≤ y ∧ y ≤ 9223372036854775807 :=
  open_row1c (Value.int .i64) _ ht hc (fun n V x hx => by
    obtain ⟨y, h1, _, h2⟩ := DataW.trod_int he hx
    have := bounds_i64 h2
    exact ⟨y, by simpa using h1, by omega⟩) hf

/-- A seed as plain data, and where its rows lie. -/
structure SeedV where
  name : ByteArray
  KA : Option Addr
  kn : Nat
  kc : Nat
  EA : Option Addr
  en : Nat
  ec : Nat
  MA : Option Addr
  mn : Nat
  mc : Nat
  ks : List Int
  es : List Int
  ms : List Int
def SeedV.val (s : SeedV) : Value := .agg #[.string s.name, .slice s.KA s.kn s.kc, .slice s.EA s.en s.ec, .slice s.MA s.mn s.mc]
def i64s (l : List Int) : Prop := ∀ y ∈ l, -9223372036854775808 ≤ y ∧ y ≤ 9223372036854775807
structure InSeed (w : World) (s : SeedV) : Prop where
  name : s.name.size ≤ maxLen
  k : InRow w 1 s.KA s.kn s.kc (s.ks.map (Value.int .i64))
  e : InRow w 1 s.EA s.en s.ec (s.es.map (Value.int .i64))
  m : InRow w 1 s.MA s.mn s.mc (s.ms.map (Value.int .i64))
  kb : i64s s.ks
  eb : i64s s.es
  mb : i64s s.ms
theorem trod_seed {H : Type} {enc : TypeId × Value → H} {W : World} {fuel : Nat} {c0 c1 c2 c3 : Value} {x : DataW H × List MemPlace}
    (h : DataW.trod enc Tryz.prog W 0 (fun _ => true) true fuel 24 [c0, c1, c2, c3] = some x) : ∃ s : SeedV, [c0, c1, c2, c3] = [.string s.name, .slice s.KA s.kn s.kc, .slice s.EA s.en s.ec, .slice s.MA s.mn s.mc] ∧ InSeed W s := by
  have cs' : Tryz.prog.cellsOf 9 = 1 := by kernel_rfl
  have ci' : Tryz.prog.cellsOf 22 = 1 := by kernel_rfl
  obtain ⟨xs, k, hk, hxy, _, hxl, hfd⟩ := DataW.trod_struct Tryz.underlying24 h
  match xs, hxl with
  | [y0, y1, y2, y3], _ =>
    have g0 := hfd 0 _ rfl
    have g1 := hfd 1 _ rfl
    have g2 := hfd 2 _ rfl
    have g3 := hfd 3 _ rfl
    simp [cs', ci'] at g0 g1 g2 g3
    obtain ⟨s0, q0, _, b0⟩ := DataW.trod_string Tryz.underlying9 g0
    obtain ⟨a1, n1, p1, l1, q1, r1, b1⟩ := open_ints64c Tryz.underlying22 Tryz.underlying3 (by kernel_rfl) g1
    obtain ⟨a2, n2, p2, l2, q2, r2, b2⟩ := open_ints64c Tryz.underlying22 Tryz.underlying3 (by kernel_rfl) g2
    obtain ⟨a3, n3, p3, l3, q3, r3, b3⟩ := open_ints64c Tryz.underlying22 Tryz.underlying3 (by kernel_rfl) g3
    simp only [List.cons.injEq, and_true] at q0 q1 q2 q3
    subst q0; subst q1; subst q2; subst q3
    exact ⟨⟨s0, a1, n1, p1, a2, n2, p2, a3, n3, p3, l1, l2, l3⟩, rfl, ⟨b0, r1, r2, r3, b1, b2, b3⟩⟩
set_option maxRecDepth 100000 in
theorem open_seed {H : Type} {enc : TypeId × Value → H} {W : World} {r : Reach} {b0 : Nat} {v : Value} {d : DataW H} {ps : List MemPlace}
    (hv : Value.okWide Tryz.prog W r b0 24 v) (h : DataW.Trod enc Tryz.prog W 0 (fun _ => true) true 24 v d ps) : ∃ s : SeedV, v = s.val ∧ InSeed W s := by
  have hu := Tryz.underlying24
  have ⟨cs, he, hsz⟩ := okWide_struct hu hv
  subst he
  clear hu
  have ce : Tryz.prog.cellsOf 24 = 4 := by kernel_rfl
  obtain ⟨l⟩ := cs
  have h4 : l.length = 4 := by rw [ce] at hsz; simpa using hsz
  clear hv hsz ce
  obtain ⟨c0, c1, c2, c3, rfl⟩ : ∃ c0 c1 c2 c3, l = [c0, c1, c2, c3] := by
    match l, h4 with
    | [c0, c1, c2, c3], _ => exact ⟨_, _, _, _, rfl⟩
  · obtain ⟨fuel, hf⟩ := h
    obtain ⟨x, hx, hi⟩ := trod_seed hf
    refine ⟨x, ?_, hi⟩
    simp only [List.cons.injEq, and_true] at hx
    obtain ⟨rfl, rfl, rfl, rfl⟩ := hx
    rfl
end Go.Proofs.YtddedbpbenkdoaaGreatDoor
