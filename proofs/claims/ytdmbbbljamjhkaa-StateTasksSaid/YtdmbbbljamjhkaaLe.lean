/- Package queue: of. -/
import Derived.Test.YtdmbbbljamjhkaaLc
import Derived.StringKeys
import Derived.Laws.IdiomRangeMap
namespace Go.Proofs.Ytdmbbbljamjhkaa
open Go.RowKit

namespace Qu
open Ls (T)
/-- A row of texts. -/
def xκ : Cs ByteArray := ⟨1, fun s => [.string s], fun _ => rfl, fun s u hu => by
  rw [List.mem_singleton] at hu
  subst hu
  rfl⟩
theorem x_at {w : World} {b off n B : Nat} {l : List ByteArray} (h : KRow xκ w B (some ⟨b, off, none⟩) n l) {j : Nat} (hj : j < n) : w.cell? ⟨b, off + j, none⟩ = some (.string l[j]!) := by
  have := KRow.of (κ := xκ) h (by decide) hj 0 (.string l[j]!) rfl
  rwa [show off + j * xκ.k + 0 = off + j from by show off + j * 1 + 0 = off + j; omega] at this
theorem mem_at {n : Int} {l : List T} {c : T} (h : ∀ zd, (mapD l).atKey (.int .i64 n) zd = .held c) : c ∈ l ∧ c.id = n := by
  have h1 := h .nil
  rw [at_mapD] at h1
  cases hf : l.find? (fun y => decide (y.id = n)) with
  | none =>
    rw [hf] at h1
    cases h1
  | some y =>
    rw [hf] at h1
    have e : y = c := by injection h1
    subst e
    exact ⟨List.mem_of_find?_eq_some hf, by simpa using List.find?_some hf⟩
/-- The step of a range over tasks. -/
theorem wpList_next_tasks {ops : Array Oper} {rest : List Oper} {o : Oper} {a : Act} {Q : Exit → Act → World → Prop} (w : World) (hg : o.guard = none) (it : Operand) (hop : o.op = Op.next it false) (b r n : Nat) (l : List T) (left : Lit → Bool) (cnt : Nat)
    (hit : a.eval it = .pointer (some ⟨r, 0, none⟩)) (h : w.ranges Try.prog 3 taskR b r n (mapD l) left cnt)
    (hDone : cnt = 0 → (∀ kl, left kl = false) → wpList Try.prog ops Q rest (a.put o.dst (.tuple #[.bool false])) w)
    (hMore : ∀ (x : T) (w' : World) (cnt' : Nat), x ∈ l → left (.int .i64 x.id) = true →
      w'.ranges Try.prog 3 taskR b r n (mapD l) (fun z => left z && !z.sameKey (.int .i64 x.id)) cnt' → cnt' < cnt → w.grownBy w' (some r) → w'.heap.size = w.heap.size →
      (Instr.entry (.pointer (some ⟨r, 0, none⟩))).run Try.prog w' = .ok (.tuple #[.int .i64 x.id, .agg #[.int .i64 x.id, .int .i64 x.ins, .int .i64 x.tok, .int .i64 x.nod, .string x.top, .int .i64 x.prio, .string x.wkr, .int .i64 x.epo, .int .i64 x.exp, .int .i64 x.aft, .int .i64 x.ret, .bool x.bro]]) w' →
      wpList Try.prog ops Q rest (a.put o.dst (.tuple #[.bool true, .int .i64 x.id, .agg #[.int .i64 x.id, .int .i64 x.ins, .int .i64 x.tok, .int .i64 x.nod, .string x.top, .int .i64 x.prio, .string x.wkr, .int .i64 x.epo, .int .i64 x.exp, .int .i64 x.aft, .int .i64 x.ret, .bool x.bro]])) w') :
    wpList Try.prog ops Q (o :: rest) a w :=
  wpList_next_ranges w hg it hop 3 law taskR (Value.int .i64) T.val (fun key kl hkey => by obtain ⟨x, rfl, _⟩ := Maps.keyOf_int_inv Try.underlying3 hkey; exact ⟨x, rfl⟩) (fun v y hv => by obtain ⟨c, rfl, _⟩ := taskR_inv hv; exact ⟨c, rfl⟩)
    b r n (mapD l) left cnt hit h hDone (fun x c kl y w' cnt' hkey hlk hv hat hrg hlt hgr hsz hen => by
      obtain ⟨x', ex, rfl, hwx⟩ := Maps.keyOf_int_inv Try.underlying3 hkey
      cases ex
      obtain ⟨c', ec, rfl⟩ := taskR_inv hv
      obtain rfl := val_inj ec
      obtain ⟨hm, rfl⟩ := mem_at hat
      exact hMore c w' cnt' hm hlk hrg hlt hgr hsz hen)
/-- What a range over tasks has met. -/
structure Seen (l done : List T) (left : Lit → Bool) (cnt : Nat) : Prop where
  sub : ∀ x ∈ done, x ∈ l
  nodup : done.Nodup
  left : ∀ x ∈ l, left (.int .i64 x.id) = true ↔ x ∉ done
  cnt : done.length + cnt ≤ l.length
theorem Asc.nodup {l : List T} (h : Asc l) : l.Nodup := by
  unfold Asc at h
  unfold List.Nodup
  refine h.imp ?_
  intro a b hab e
  rw [e] at hab
  omega
theorem Asc.inj {l : List T} (h : Asc l) : ∀ {x y : T}, x ∈ l → y ∈ l → x.id = y.id → x = y := by
  induction l with
  | nil => intro x y hx; cases hx
  | cons z r ih =>
    intro x y hx hy e
    obtain ⟨h1, h2⟩ := List.pairwise_cons.1 h
    rcases List.mem_cons.1 hx with ex | hx <;> rcases List.mem_cons.1 hy with ey | hy
    · rw [ex, ey]
    · have := h1 y hy
      rw [ex] at e
      omega
    · have := h1 x hx
      rw [ey] at e
      omega
    · exact ih h2 hx hy e
theorem Seen.start (l : List T) : Seen l [] (Maps.has (mapD l)) (Maps.size (mapD l)) :=
  ⟨fun _ h => (by cases h), List.nodup_nil, fun x hx => (by
    rw [has_mapD]
    exact ⟨fun _ h => (by cases h), fun _ => has_iff.2 ⟨x, hx, rfl⟩⟩), by rw [size_mapD]; simp⟩
theorem Seen.step {l done : List T} {left : Lit → Bool} {cnt cnt' : Nat} (h : Seen l done left cnt) (ha : Asc l) {c : T} (hc : c ∈ l) (hl : left (.int .i64 c.id) = true) (hlt : cnt' < cnt) : Seen l (done ++ [c]) (fun z => left z && !z.sameKey (.int .i64 c.id)) cnt' := by
  have hn := (h.left c hc).1 hl
  refine ⟨fun x hx => ?_, ?_, fun x hx => ?_, ?_⟩
  · rcases List.mem_append.1 hx with hx | hx
    · exact h.sub x hx
    · rw [List.mem_singleton] at hx
      subst hx
      exact hc
  · rw [List.nodup_append]
    refine ⟨h.nodup, by simp, fun x hx y hy e => ?_⟩
    rw [List.mem_singleton] at hy
    subst hy
    subst e
    exact hn hx
  · rw [Bool.and_eq_true, same_int, h.left x hx]
    constructor
    · rintro ⟨h1, h2⟩ h3
      rcases List.mem_append.1 h3 with h3 | h3
      · exact h1 h3
      · rw [List.mem_singleton] at h3
        subst h3
        simp at h2
    · intro h1
      refine ⟨fun h2 => h1 (List.mem_append.2 (.inl h2)), ?_⟩
      by_cases e : x.id = c.id
      · obtain rfl := Asc.inj ha hx hc e
        exact absurd (List.mem_append.2 (.inr (List.mem_singleton.2 rfl))) h1
      · simp [e]
  · have := h.cnt
    simp
    omega
theorem Seen.all {l done : List T} {left : Lit → Bool} {cnt : Nat} (h : Seen l done left cnt) (ha : Asc l) (hl : ∀ k, left k = false) : done.Perm l := by
  rw [List.perm_ext_iff_of_nodup h.nodup (Asc.nodup ha)]
  intro x
  refine ⟨h.sub x, fun hx => ?_⟩
  by_cases hd : x ∈ done
  · exact hd
  · have := (h.left x hx).2 hd
    rw [hl] at this
    cases this
def kS (s : ByteArray) : Lit := .string s.data.toList
def asked (ts : List ByteArray) : DataW Unit := Maps.setOf (.agg []) (ts.map kS)
def asks (ts : List ByteArray) (s : ByteArray) : Bool := ts.any fun y => decide (y = s)
theorem has_asked (ts : List ByteArray) (s : ByteArray) : Maps.has (asked ts) (kS s) = asks ts s := by
  unfold asked asks
  rw [Maps.has_setOf _ _ _ (fun x hx => by
    obtain ⟨y, _, rfl⟩ := List.mem_map.1 hx
    trivial), List.any_map]
  refine congrArg (List.any ts) (funext fun y => ?_)
  show (Lit.string y.data.toList).sameKey (.string s.data.toList) = decide (y = s)
  rw [Bool.eq_iff_iff]
  show (y.data.toList == s.data.toList) = true ↔ _
  rw [beq_iff_eq, decide_eq_true_iff]
  constructor
  · intro h
    cases y
    cases s
    simp only [ByteArray.mk.injEq]
    exact Array.toList_inj.1 h
  · rintro rfl
    rfl
theorem lawS : Maps.Keyed Try.prog 9 := Maps.string_keyed Try.underlying9
theorem info_task : (Try.prog.info? 39).map (fun i => (i.zero, i.size, i.bytes)) = some (some (.agg #[.int .i64 0, .int .i64 0, .int .i64 0, .int .i64 0, .string ⟨#[]⟩, .int .i64 0, .string ⟨#[]⟩, .int .i64 0, .int .i64 0, .int .i64 0, .int .i64 0, .bool false]), 12, 112) := by kernel_rfl
end Qu
end Go.Proofs.Ytdmbbbljamjhkaa
