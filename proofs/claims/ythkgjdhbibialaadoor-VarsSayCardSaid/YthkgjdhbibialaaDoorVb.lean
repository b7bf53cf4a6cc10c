/- Walks of what is held against one another: values, variables, lists of them; the document's copies. -/
import Derived.Test.YthkgjdhbibialaaDoorVs
import Derived.Laws.StructEq
import Derived.Deep.RegionWith
namespace Go.Proofs.YthkgjdhbibialaaDoor
open Go.RowKit

namespace Vr
def sameVal (u v : V) : Bool := decide (u.kind = v.kind) && (decide (u.num = v.num) && decide (u.text = v.text))
def same (u v : V) : Bool := decide (u.name = v.name) && sameVal u v
theorem same_refl (u : V) : same u u = true := by simp [same, sameVal]
def sameL (a b : List V) : Bool := decide (a.length = b.length) && (List.range a.length).all (fun k => same a[k]! b[k]!)
theorem sameL_len {a b : List V} (h : a.length ≠ b.length) : sameL a b = false := by simp [sameL, h]
theorem sameL_all {a b : List V} (h : a.length = b.length) (h2 : ∀ k, k < a.length → same a[k]! b[k]! = true) : sameL a b = true := by
  unfold sameL
  rw [decide_eq_true h, Bool.true_and, List.all_eq_true]
  exact fun k hk => h2 k (List.mem_range.1 hk)
theorem sameL_not {a b : List V} {k : Nat} (hk : k < a.length) (h2 : same a[k]! b[k]! = false) : sameL a b = false := by
  rw [← Bool.not_eq_true]
  unfold sameL
  rw [Bool.and_eq_true, List.all_eq_true]
  intro ⟨_, h⟩
  have := h k (List.mem_range.2 hk)
  rw [h2] at this
  cases this
theorem sameL_refl (a : List V) : sameL a a = true := sameL_all rfl fun _ _ => same_refl _
/-- Few variables, their texts short. -/
def light (l : List V) : Bool := decide (l.length ≤ 20) && (List.range l.length).all (fun k => decide (l[k]!.name.size ≤ 40) && decide (l[k]!.text.size ≤ 100))
theorem light_many {l : List V} (h : 20 < l.length) : light l = false := by
  rw [← Bool.not_eq_true]; simp [light]; omega
theorem light_not {l : List V} {k : Nat} (hk : k < l.length) (h : 40 < l[k]!.name.size ∨ 100 < l[k]!.text.size) : light l = false := by
  rw [← Bool.not_eq_true]
  unfold light
  rw [Bool.and_eq_true, List.all_eq_true]
  intro ⟨_, h2⟩
  have := h2 k (List.mem_range.2 hk)
  simp only [Bool.and_eq_true, decide_eq_true_eq] at this
  omega
theorem light_all {l : List V} (h : l.length ≤ 20) (h2 : ∀ k, k < l.length → l[k]!.name.size ≤ 40 ∧ l[k]!.text.size ≤ 100) : light l = true := by
  unfold light
  rw [decide_eq_true h, Bool.true_and, List.all_eq_true]
  intro k hk
  have := h2 k (List.mem_range.1 hk)
  simp only [Bool.and_eq_true, decide_eq_true_eq]
  exact this
theorem light_len {l : List V} (h : light l = true) : l.length ≤ 20 ∧ ∀ k, k < l.length → l[k]!.name.size ≤ 40 ∧ l[k]!.text.size ≤ 100 := by
  unfold light at h
  rw [Bool.and_eq_true, List.all_eq_true] at h
  refine ⟨of_decide_eq_true h.1, fun k hk => ?_⟩
  have := h.2 k (List.mem_range.2 hk)
  simpa only [Bool.and_eq_true, decide_eq_true_eq] using this
end Vr

theorem eq_inner (d : Nat) (u v : Vr.V) (w : World) : (Op.equalIn (d + 2) 26 u.inner v.inner).run Tryd.prog w = .ok (Vr.sameVal u v) w := by
  have hS' : Tryd.prog.underlying 26 = some (.struct (Tryd.prog.fieldsOf 26)) := by kernel_rfl
  have hp' : Tryd.prog.stoodInHeld 26 = false := by kernel_rfl
  have hf : (Tryd.prog.fieldsOf 26).toList.map (fun f => (f.name, f.type, f.offset)) = [("Kind", 3, 0), ("N", 2, 1), ("S", 9, 2)] := by kernel_rfl
  unfold Vr.V.inner
  rw [run_equalIn_agg w (d + 1) 26 _ _ hS' hp']
  generalize (Tryd.prog.fieldsOf 26).toList = fs at hf
  obtain ⟨f0, f1, f2, rfl⟩ : ∃ f0 f1 f2, fs = [f0, f1, f2] := by
    match fs, congrArg List.length hf with
    | [f0, f1, f2], _ => exact ⟨_, _, _, rfl⟩
  simp only [List.map_cons, List.map_nil, List.cons.injEq, Prod.mk.injEq, and_true] at hf
  obtain ⟨⟨n0, t0, o0⟩, ⟨n1, t1, o1⟩, n2, t2, o2⟩ := hf
  have p0 : ∀ (a b c : Value) (w : World), (part 3 #[a, b, c] 0).run Tryd.prog w = .ok a w := fun _ _ _ _ => by kernel_rfl
  have p1 : ∀ (a b c : Value) (w : World), (part 2 #[a, b, c] 1).run Tryd.prog w = .ok b w := fun _ _ _ _ => by kernel_rfl
  have p2 : ∀ (a b c : Value) (w : World), (part 9 #[a, b, c] 2).run Tryd.prog w = .ok c w := fun _ _ _ _ => by kernel_rfl
  have e0 := fun a b w => run_equalIn_int (P := Tryd.prog) w d 3 .i64 .i64 a b Tryd.underlying3
  have e1 := fun a b w => run_equalIn_int (P := Tryd.prog) w d 2 .i64 .i64 a b Tryd.underlying2
  have e2 := fun a b w => run_equalIn_string (P := Tryd.prog) w d 9 a b Tryd.underlying9
  simp only [Op.eqFields, n0, n1, n2, t0, t1, t2, o0, o1, o2, Sem.run_bind, Sem.run_ite, Sem.run_pure, p0, p1, p2, e0, e1, e2, Result.andThen_ok, ne_eq, String.reduceEq, not_false_eq_true, if_true]
  unfold Vr.sameVal
  rw [Vr.eq_of]
  by_cases h0 : u.kind = v.kind <;> by_cases h1 : u.num = v.num <;> by_cases h2 : u.text = v.text <;> simp [h0, h1, h2]
theorem neq_var (u v : Vr.V) (w : World) : (binOp .neq 45 u.val v.val).run Tryd.prog w = .ok (.bool (!Vr.same u v)) w := by
  have hS : Tryd.prog.underlying 45 = some (.struct (Tryd.prog.fieldsOf 45)) := by kernel_rfl
  have hp : Tryd.prog.stoodInHeld 45 = false := by kernel_rfl
  have hf : (Tryd.prog.fieldsOf 45).toList.map (fun f => (f.name, f.type, f.offset)) = [("Name", 9, 0), ("Value", 26, 1)] := by kernel_rfl
  have e1 := fun w => eq_inner 9997 u v w
  unfold Vr.V.val
  unfold Vr.V.inner at e1
  rw [run_neq_struct, show (10000 : Nat) = 9999 + 1 from rfl, run_equalIn_agg w 9999 45 _ _ hS hp]
  generalize (Tryd.prog.fieldsOf 45).toList = fs at hf
  obtain ⟨f0, f1, rfl⟩ : ∃ f0 f1, fs = [f0, f1] := by
    match fs, congrArg List.length hf with
    | [f0, f1], _ => exact ⟨_, _, rfl⟩
  simp only [List.map_cons, List.map_nil, List.cons.injEq, Prod.mk.injEq, and_true] at hf
  obtain ⟨⟨n0, t0, o0⟩, n1, t1, o1⟩ := hf
  have p0 : ∀ (a b c d : Value) (w : World), (part 9 #[a, b, c, d] 0).run Tryd.prog w = .ok a w := fun _ _ _ _ _ => by kernel_rfl
  have p1 : ∀ (a b c d : Value) (w : World), (part 26 #[a, b, c, d] 1).run Tryd.prog w = .ok (.agg #[b, c, d]) w := fun _ _ _ _ _ => by kernel_rfl
  have e0 : ∀ a b w, (Op.equalIn 9999 9 (.string a) (.string b)).run Tryd.prog w = .ok (a.toList == b.toList) w := fun a b w => run_equalIn_string (P := Tryd.prog) w 9998 9 a b Tryd.underlying9
  have e1' : ∀ w, (Op.equalIn 9999 26 (.agg #[.int .i64 u.kind, .int .i64 u.num, .string u.text]) (.agg #[.int .i64 v.kind, .int .i64 v.num, .string v.text])).run Tryd.prog w = .ok (Vr.sameVal u v) w := e1
  simp only [Op.eqFields, n0, n1, t0, t1, o0, o1, Sem.run_bind, Sem.run_ite, Sem.run_pure, p0, p1, e0, e1', Result.andThen_ok, ne_eq, String.reduceEq, not_false_eq_true, if_true]
  unfold Vr.same
  rw [Vr.eq_of]
  cases h1 : Vr.sameVal u v <;> by_cases h0 : u.name = v.name <;> simp [h0]
end Go.Proofs.YthkgjdhbibialaaDoor
