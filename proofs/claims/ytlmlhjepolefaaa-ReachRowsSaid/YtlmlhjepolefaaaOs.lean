/- A seed of a process that came in by value. -/
import Derived.Test.YtlmlhjepolefaaaProg
import Derived.Test.YtlmlhjepolefaaaOpen
import Derived.KernelRfl
namespace Go.Proofs.Ytlmlhjepolefaaa
open Go.ChangeShapes Go.WideShapes Go.RowKit

theorem open_row1c {α : Type} [Inhabited α] {H : Type} {enc : TypeId × Value → H} {P : Program} {W : World} {t e : TypeId} {cs : List Value} {fuel : Nat} {x : DataW H × List MemPlace}
    (f : α → Value) (ok : α → Prop) (ht : P.underlying t = some (.slice e)) (hc : P.cellsOf e = 1)
    (hel : ∀ n V x, DataW.trod enc P W 0 (fun _ => true) true n e [V] = some x → ∃ y, V = f y ∧ ok y)
    (hf : DataW.trod enc P W 0 (fun _ => true) true fuel t cs = some x) : ∃ (a : Option Addr) (len cap : Nat) (l : List α), cs = [.slice a len cap] ∧ InRow W 1 a len cap (l.map f) ∧ ∀ y ∈ l, ok y := by
  have key : ∃ a len cap, cs = [Value.slice a len cap] := by
    rcases Deep.open_slice1 ht hc hf with ⟨hcs, _⟩ | ⟨x, l, c, m, n, V, D, Pl, hcs, _⟩
    · exact ⟨_, _, _, hcs⟩
    · exact ⟨_, _, _, hcs⟩
  obtain ⟨a, len, cap, rfl⟩ := key
  obtain ⟨l, h1, h2⟩ := open_row1 (d := x.1) (ps := x.2) f ok ht hc hel ⟨fuel, hf⟩
  exact ⟨a, len, cap, l, rfl, h1, h2⟩
theorem open_ints64c {H : Type} {enc : TypeId × Value → H} {P : Program} {W : World} {t e : TypeId} {cs : List Value} {fuel : Nat} {x : DataW H × List MemPlace}
    (ht : P.underlying t = some (.slice e)) (he : P.underlying e = some (.int .i64)) (hc : P.cellsOf e = 1) (hf : DataW.trod enc P W 0 (fun _ => true) true fuel t cs = some x) :
    ∃ (a : Option Addr) (len cap : Nat) (l : List Int), cs = [.slice a len cap] ∧ InRow W 1 a len cap (l.map (Value.int .i64)) ∧ ∀ y ∈ l, -9223372036854775808 ≤ y ∧ y ≤ 9223372036854775807 :=
  open_row1c (Value.int .i64) _ ht hc (fun n V x hx => by
    obtain ⟨y, h1, _, h2⟩ := DataW.trod_int he hx
    have := bounds_i64 h2
    exact ⟨y, by simpa using h1, by omega⟩) hf

/-- A seed as plain data, and where its rows lie. -/
structure SeedV where
  name : ByteArray
  KA : Option Addr
  kn : Nat
  kc : Nat
  EA : Option Addr
  en : Nat
  ec : Nat
  MA : Option Addr
  mn : Nat
  mc : Nat
  ks : List Int
  es : List Int
  ms : List Int
def SeedV.val (s : SeedV) : Value := .agg #[.string s.name, .slice s.KA s.kn s.kc, .slice s.EA s.en s.ec, .slice s.MA s.mn s.mc]
def i64s (l : List Int) : Prop := ∀ y ∈ l, -9223372036854775808 ≤ y ∧ y ≤ 9223372036854775807
structure InSeed (w : World) (s : SeedV) : Prop where
  name : s.name.size ≤ maxLen
  k : InRow w 1 s.KA s.kn s.kc (s.ks.map (Value.int .i64))
  e : InRow w 1 s.EA s.en s.ec (s.es.map (Value.int .i64))
  m : InRow w 1 s.MA s.mn s.mc (s.ms.map (Value.int .i64))
  kb : i64s s.ks
  eb : i64s s.es
  mb : i64s s.ms
end Go.Proofs.Ytlmlhjepolefaaa
