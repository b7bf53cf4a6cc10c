/- A seed of a process that came in by value. -/
import Derived.Test.YtjdgloofdafebaaProg
import Derived.Test.YtjdgloofdafebaaYReachSays6
import Derived.KernelRfl
namespace Go.Proofs.Ytjdgloofdafebaa
open Go.ChangeShapes Go.WideShapes Go.RowKit

theorem open_row1c {α : Type} [Inhabited α] {H : Type} {enc : TypeId × Value → H} {P : Program} {W : World} {t e : TypeId} {cs : List Value} {fuel : Nat} {x : DataW H × List MemPlace}
    (f : α → Value) (ok : α → Prop) (ht : P.underlying t = some (.slice e)) (hc : P.cellsOf e = 1)
    (hel : ∀ n V x, DataW.trod enc P W 0 (fun _ => true) true n e [V] = some x → ∃ y, V = f y ∧ ok y)
    (hf : DataW.trod enc P W 0 (fun _ => true) true fuel t cs = some x) : ∃ (a : Option Addr) (len cap : Nat) (l : List α), cs = [.slice a len cap] ∧ InRow W 1 a len cap (l.map f) ∧ ∀ y ∈ l, ok y := by
  have key : ∃ a len cap, cs = [Value.slice a len cap] := by
    rcases Deep.open_slice1 ht hc hf with ⟨hcs, _⟩ | ⟨x, l, c, m, n, V, D, Pl, hcs, _⟩
    · exact ⟨_, _, _, hcs⟩
    · exact ⟨_, _, _, hcs⟩
  obtain ⟨a, len, cap, rfl⟩ := key
  obtain ⟨l, h1, h2⟩ := open_row1 (d := x.1) (ps := x.2) f ok ht hc hel ⟨fuel, hf⟩
  exact ⟨a, len, cap, l, rfl, h1, h2⟩
theorem open_ints64c {H : Type} {enc : TypeId × Value → H} {P : Program} {W : World} {t e : TypeId} {cs : List Value} {fuel : Nat} {x : DataW H × List MemPlace}
    (ht : P.underlying t = some (.slice e)) (he : P.underlying e = some (.int .i64)) (hc : P.cellsOf e = 1) (hf : DataW.trod enc P W 0 (fun _ => true) true fuel t cs = some x) :
    ∃ (a : Option Addr) (len cap : Nat) (l : List Int), cs = [.slice a len cap] ∧ InRow W 1 a len cap (l.map (Value.int .i64)) ∧ ∀ y ∈ l, -9223372036854775808 ≤ y ∧ y ≤ 9223372036854775807 :=
  open_row1c (Value.int .i64) _ ht hc (fun n V x hx => by
    obtain ⟨y, h1, _, h2⟩ := DataW.trod_int he hx
    have := bounds_i64 h2
    exact ⟨y, by simpa using h1, by omega⟩) hf

/-- A seed as plain data, and where its rows lie. -/
structure SeedV where
  name : ByteArray
  KA : Option Addr
  kn : Nat
  kc : Nat
  EA : Option Addr
  en : Nat
  ec : Nat
  MA : Option Addr
  mn : Nat
  mc : Nat
  ks : List Int
  es : List Int
  ms : List Int
def SeedV.val (s : SeedV) : Value := .agg #[.string s.name, .slice s.KA s.kn s.kc, .slice s.EA s.en s.ec, .slice s.MA s.mn s.mc]
def i64s (l : List Int) : Prop := ∀ y ∈ l, -9223372036854775808 ≤ y ∧ y ≤ 9223372036854775807
structure InSeed (w : World) (s : SeedV) : Prop where
  name : s.name.size ≤ maxLen
  k : InRow w 1 s.KA s.kn s.kc (s.ks.map (Value.int .i64))
  e : InRow w 1 s.EA s.en s.ec (s.es.map (Value.int .i64))
  m : InRow w 1 s.MA s.mn s.mc (s.ms.map (Value.int .i64))
  kb : i64s s.ks
  eb : i64s s.es
  mb : i64s s.ms
theorem trod_seed {H : Type} {enc : TypeId × Value → H} {W : World} {fuel : Nat} {c0 c1 c2 c3 : Value} {x : DataW H × List MemPlace}
    (h : DataW.trod enc Try.prog W 0 (fun _ => true) true fuel 28 [c0, c1, c2, c3] = some x) : ∃ s : SeedV, [c0, c1, c2, c3] = [.string s.name, .slice s.KA s.kn s.kc, .slice s.EA s.en s.ec, .slice s.MA s.mn s.mc] ∧ InSeed W s := by
  have cs' : Try.prog.cellsOf 9 = 1 := by kernel_rfl
  have ci' : Try.prog.cellsOf 26 = 1 := by kernel_rfl
  obtain ⟨xs, k, hk, hxy, _, hxl, hfd⟩ := DataW.trod_struct Try.underlying28 h
  match xs, hxl with
  | [y0, y1, y2, y3], _ =>
    have g0 := hfd 0 _ rfl
    have g1 := hfd 1 _ rfl
    have g2 := hfd 2 _ rfl
    have g3 := hfd 3 _ rfl
    simp [cs', ci'] at g0 g1 g2 g3
    obtain ⟨s0, q0, _, b0⟩ := DataW.trod_string Try.underlying9 g0
    obtain ⟨a1, n1, p1, l1, q1, r1, b1⟩ := open_ints64c Try.underlying26 Try.underlying3 (by kernel_rfl) g1
    obtain ⟨a2, n2, p2, l2, q2, r2, b2⟩ := open_ints64c Try.underlying26 Try.underlying3 (by kernel_rfl) g2
    obtain ⟨a3, n3, p3, l3, q3, r3, b3⟩ := open_ints64c Try.underlying26 Try.underlying3 (by kernel_rfl) g3
    simp only [List.cons.injEq, and_true] at q0 q1 q2 q3
    subst q0; subst q1; subst q2; subst q3
    exact ⟨⟨s0, a1, n1, p1, a2, n2, p2, a3, n3, p3, l1, l2, l3⟩, rfl, ⟨b0, r1, r2, r3, b1, b2, b3⟩⟩
set_option maxRecDepth 100000 in
theorem open_seed {H : Type} {enc : TypeId × Value → H} {W : World} {r : Reach} {b0 : Nat} {v : Value} {d : DataW H} {ps : List MemPlace}
    (hv : Value.okWide Try.prog W r b0 28 v) (h : DataW.Trod enc Try.prog W 0 (fun _ => true) true 28 v d ps) : ∃ s : SeedV, v = s.val ∧ InSeed W s := by
  have hu := Try.underlying28
  have ⟨cs, he, hsz⟩ := okWide_struct hu hv
  subst he
  clear hu
  have ce : Try.prog.cellsOf 28 = 4 := by kernel_rfl
  obtain ⟨l⟩ := cs
  have h4 : l.length = 4 := by rw [ce] at hsz; simpa using hsz
  clear hv hsz ce
  obtain ⟨c0, c1, c2, c3, rfl⟩ : ∃ c0 c1 c2 c3, l = [c0, c1, c2, c3] := by
    match l, h4 with
    | [c0, c1, c2, c3], _ => exact ⟨_, _, _, _, rfl⟩
  · obtain ⟨fuel, hf⟩ := h
    obtain ⟨x, hx, hi⟩ := trod_seed hf
    refine ⟨x, ?_, hi⟩
    simp only [List.cons.injEq, and_true] at hx
    obtain ⟨rfl, rfl, rfl, rfl⟩ := hx
    rfl
end Go.Proofs.Ytjdgloofdafebaa
