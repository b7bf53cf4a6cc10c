/- Package queue: slices.AppendSeq over what maps.Values hands out. -/
import Derived.Test.YtdmbbbljamjhkaaLa2
import Derived.RangeFuncBox
import Derived.RangeFuncNested
import Derived.Maps.AppendAt
namespace Go.Proofs.Ytdmbbbljamjhkaa
open Go.RowKit Go.Shelf
attribute [local go_sem] Oper.semAt_some

namespace Qu
open Ls (T)
theorem Owns.under {w W : World} {b : Nat} {l : List T} (h : Owns w b l) (hW : Below w.heap.size w W) : Owns W b l := by
  unfold Owns at *
  have hbl := h.lt
  obtain ⟨es, clock, hb, Ft, hs, hD⟩ := h
  exact ⟨es, clock, (hW.block b hbl).trans hb, Ft, hs, hD⟩
theorem values_stops (F : Fence) (n : Nat) (h8 : F.fn 43) (hro : F.round = none) (hn : 1 ≤ n) (Bm b : Nat) (L : List T) (hL : Asc L) (w : World) (hBm : Bm < w.heap.size) (hm : w.cell? ⟨Bm, 0, none⟩ = some (.map (some b))) (hown : Owns w b L) :
    SeqStopsK F n Try.prog 43 #[.pointer (some ⟨Bm, 0, none⟩)] (fun x : T => #[x.val]) KeepsWalks (·.Perm L) (fun _ => True) L.length w := fun l J Jx W hW hJ _ hY h0 =>
  values_in F n h8 hro hn l Bm b L hL J Jx hY W hJ ((hW.cell (p := ⟨Bm, 0, none⟩) hBm).trans hm) (hown.under hW) h0

set_option maxRecDepth 100000 in
set_option maxHeartbeats 3200000 in
theorem values_none (F : Fence) (n : Nat) (h8 : F.fn 43) (hro : F.round = none) (l Bm : Nat) (J Jx : List T → World → Prop)
    (W : World) (hJ : AbidesFrom W.heap.size J) (hm : W.cell? ⟨Bm, 0, none⟩ = some (.map none)) (h0 : J [] W) :
    CallsIn F n Try.prog 43 #[.func (.yield l) #[] #[], .pointer (some ⟨Bm, 0, none⟩)] W fun e W' => (∃ v, e = .returned v) ∧
      ((∃ xs, xs.Perm [] ∧ J xs W') ∨ (∃ pre, True ∧ Jx pre W')) := by
  have hrg := run_range_nilMap (P := Try.prog) W _ _ _ Try.underlying28
  have hnx : ∀ ty, (Instr.next (.pointer (some ⟨W.heap.size, 0, none⟩)) false ty).run Try.prog (W.alloc (.mapIter none 0 #[] 0)) = _ := fun ty => run_next_nilMap W ty 0 0 #[]
  refine callsIn_of_wp Try.func43 rfl h8 ?_ hro
  simp only [Try.ntmps43, List.size_toArray, List.length_cons, List.length_nil, Nat.reduceAdd, Nat.reduceSub, Array.replicate_succ, Array.replicate_zero, List.push_toArray, List.append_toArray, List.nil_append, List.cons_append]
  gi_wp2
  refine wpIn_loop_rounds 1 ?_
  rw [roundsIn_succ]
  gi_wp2
  go_end0
  exact ⟨⟨_, rfl⟩, .inl ⟨[], List.Perm.refl _, hJ [] W _ none h0 (World.grownBy_alloc W _ none) (fun r e => by cases e)⟩⟩
theorem values_stops0 (F : Fence) (n : Nat) (h8 : F.fn 43) (hro : F.round = none) (Bm : Nat) (w : World) (hBm : Bm < w.heap.size) (hm : w.cell? ⟨Bm, 0, none⟩ = some (.map none)) :
    SeqStopsK F n Try.prog 43 #[.pointer (some ⟨Bm, 0, none⟩)] (fun x : T => #[x.val]) KeepsWalks (·.Perm []) (fun _ => True) ([] : List T).length w := fun l J Jx W hW hJ _ _ h0 =>
  values_none F n h8 hro l Bm J Jx W hJ ((hW.cell (p := ⟨Bm, 0, none⟩) hBm).trans hm) h0

/-- A task lies in block B: a round's variable. -/
def TBox (W : World) (B : Nat) (x : T) : Prop := W.heap[B]? = some (.cells x.cells.toArray 39 (0, 0))
theorem tbox_own (B : Nat) (x : T) : Own (fun (_ : Unit) W => TBox W B x) := by
  rintro s X Y row hx hg hrow
  refine (hg.block B (Array.getElem?_eq_some_iff.1 hx).1 fun e' => ?_).trans hx
  obtain ⟨o, ho, hc⟩ := hrow B e'.symm
  rw [show X.heap[B]? = _ from hx] at ho; cases ho; cases hc
theorem TBox.cel {W : World} {B : Nat} {x : T} (h : TBox W B x) : Cel W B x.cells := by
  refine ⟨fun i v hi => ?_, fun i hi => ?_, (Array.getElem?_eq_some_iff.1 h).1⟩
  · have := cell_of_row W B i _ _ (0, 0) h
    rw [this]; simpa using hi
  · simp [World.frozen?, show W.heap[B]? = _ from h]

set_option maxRecDepth 100000 in
set_option maxHeartbeats 3200000 in
theorem appendSeq_in (F : Fence) (n : Nat) (h61 : F.fn 54) (h49 : F.fn 43) (hro : F.round = none) (hn : 3 ≤ n) (Bm : Nat) (L : List T) (hlen : L.length ≤ 1000000) (w : World) (hseq : SeqStopsK F (n - 1) Try.prog 43 #[.pointer (some ⟨Bm, 0, none⟩)] (fun x : T => #[x.val]) KeepsWalks (·.Perm L) (fun _ => True) L.length w) :
    CallsIn F n Try.prog 54 #[.slice none 0 0, .func (.func 43) #[] #[.pointer (some ⟨Bm, 0, none⟩)]] w fun e W' => ∃ (v : Value) (ss : List T), e = .returned v ∧ ss.Perm L ∧ W'.ownsRow w.heap.size 39 12 v ss.length (ss.flatMap T.cells) ∧ Below w.heap.size w W' := by
  have h1 : 1 ≤ n := by omega
  obtain ⟨i0, hi, hz0, hz1, hz2⟩ := info_parts info_task
  refine callsIn_of_wp_marks Try.func54 rfl h61 ?_ hro
  simp only [Try.ntmps54, List.size_toArray, List.length_cons, List.length_nil, Nat.reduceAdd, Nat.reduceSub, Array.replicate_succ, Array.replicate_zero, List.push_toArray, List.append_toArray, List.nil_append, List.cons_append]
  gi_wp2
  have bO := Boxed.new w 40 (.slice none 0 0)
  have hB0 : Below w.heap.size w (w.alloc (.cells #[.slice none 0 0] 40)) := (Below.refl _ w).alloc (Nat.le_refl _) _
  refine wpIn_rangeFunc_ownH hro h1 (gf := 43) (lb := #[.pointer (some ⟨Bm, 0, none⟩)]) rfl h49 (enters_of Try.func43 (by kernel_rfl) rfl)
    hseq walksK_t walksK_b hB0 (fun _ => rfl)
    (fun (pre : List T) W => (∃ v, Boxed W w.heap.size 40 v ∧ W.ownsRow w.heap.size 39 12 v pre.length (pre.flatMap T.cells) ∧ True) ∧ Below w.heap.size w W)
    (fun _ _ _ => False)
    (OwnFrom.and (Own.from (holdsRow_own w.heap.size w.heap.size 40 39 12 (fun pre : List T => pre.length) (fun pre : List T => pre.flatMap T.cells) (fun _ _ => True)) _) (ownFrom_below (Nat.le_refl _) (by simp)))
    (fun _ _ _ _ _ hs _ _ => hs)
    ⟨⟨_, bO, World.ownsRow_nil _ _ _ _, trivial⟩, hB0⟩
    (fun (x : T) a' W => ∃ Bx, TBox W Bx x ∧ a' = { tmps := #[.slice none 0 0, .func (.func 43) #[] #[.pointer (some ⟨Bm, 0, none⟩)], .pointer (some ⟨w.heap.size, 0, none⟩), undef, .slice none 0 0, .pointer (some ⟨Bx, 0, none⟩), .func (.func 43) #[] #[.pointer (some ⟨Bm, 0, none⟩)], x.val, undef, undef, undef, undef, undef], defers := [] })
    (fun x a' _ X Y row hs hg hr => by obtain ⟨Bx, h2, h3⟩ := hs; exact ⟨Bx, tbox_own Bx x () X Y row h2 hg (fun r e => (hr r e).2), h3⟩)
    ?assign ?body ?done ?stop
  case assign =>
    rintro l pre x W K ⟨⟨v, hv, hrow, _⟩, hB⟩ hK
    have HK := Lib.hid hK
    clear hK
    unfold T.val
    gi_wp2
    exact HK.out _ _ ((KeepsOthers.alloc _ _).from _) (KeepsOthers.alloc _ _).walks ⟨⟨v, hv.alloc _, hrow.alloc _, trivial⟩, hB.alloc hB.size _⟩ ⟨W.heap.size, World.alloc_heap_new W _, rfl⟩
  case body =>
    rintro l pre x a' W hl ⟨r, hr⟩ ⟨⟨v, hv, hrow, _⟩, hB⟩ ⟨Bx, bX, rfl⟩ hlt
    have hc := hv.cell
    have hx := bX.cel
    unfold T.cells at hx
    obtain ⟨⟨k0, k1, k2, k3, k4, k5, k6, k7, k8, k9, k10, k11⟩, _⟩ := Ls.dz_facts hx
    have HT := Lib.hid (Cel.lit W x.cells.toArray 39)
    clear hx
    gi_wp2_with (gi_at_builtin; refine wpListIn_append_own _ rfl _ _ 40 rfl w.heap.size 39 i0 _ 12 112 Try.underlying40 hi hz0 hz1 hz2 rfl (by decide) _ _ _ rfl (hrow.alloc _) ⟨W.heap.size, 0, none⟩ 1 1 x.cells rfl rfl (fun j u hu => (congrArg (World.cell? _) (addr_add _ 0 j)).trans (by rw [Nat.zero_add]; exact HT.out.1 j u (by simpa using hu))) (fun u hu => tκ.one x u hu) (by unfold maxLen; omega) (by omega) (by have := hB.size; simp; omega) ?_; intro v' w1 hown' hgrow _; obtain ⟨g', cap', rfl⟩ := ownsRow_succ hown'; obtain ⟨hv1, hv2, hr2, hk2, hb2⟩ := hv.appended (by decide) hrow hB.size (Nat.le_refl _) hown' hgrow; have hc1 := hv1.cell; have hf1 := hv1.frozen)
    have e1 : (pre ++ [x]).length = pre.length + 1 := List.length_append
    have e2 : (pre ++ [x]).flatMap T.cells = pre.flatMap T.cells ++ x.cells := by rw [List.flatMap_append, List.flatMap_cons, List.flatMap_nil, List.append_nil]
    refine ⟨hk2.from _, hk2.walks, ⟨_, hv2, ?_⟩, hB.trans hb2⟩
    rw [e1, e2]
    exact hr2
  case done =>
    rintro D ys W hD hp ⟨⟨v, hv, hrow, _⟩, hB⟩ hK
    have hc := hv.cell
    gi_wp2
    refine ⟨by simp, .inl ⟨_, _, rfl, run_takeDeferred hK, ?_⟩⟩
    exact ⟨_, results_tmp rfl _ _ _, v, ys, rfl, hp, ownsRow_putObj hrow _ hK rfl, hB.trans (belowK_b (w := w) (Nat.le_refl _) W D _ _ (by simp at hD; omega) hK rfl rfl)⟩
  case stop =>
    rintro D c pre W _ _ h _
    exact h.elim

set_option maxHeartbeats 1000000 in
theorem collect_in (F : Fence) (n : Nat) (h48 : F.fn 41) (h61 : F.fn 54) (h49 : F.fn 43) (hro : F.round = none) (hn : 4 ≤ n) (Bm : Nat) (L : List T) (hlen : L.length ≤ 1000000) (w : World) (hseq : SeqStopsK F (n - 1 - 1) Try.prog 43 #[.pointer (some ⟨Bm, 0, none⟩)] (fun x : T => #[x.val]) KeepsWalks (·.Perm L) (fun _ => True) L.length w) :
    CallsIn F n Try.prog 41 #[.func (.func 43) #[] #[.pointer (some ⟨Bm, 0, none⟩)]] w fun e W' => ∃ (v : Value) (ss : List T), e = .returned v ∧ ss.Perm L ∧ W'.ownsRow w.heap.size 39 12 v ss.length (ss.flatMap T.cells) ∧ Below w.heap.size w W' := by
  have h1 : 1 ≤ n := by omega
  refine callsIn_of_wp Try.func41 rfl h48 ?_ hro
  simp only [Try.ntmps41, List.size_toArray, List.length_cons, List.length_nil, Nat.reduceAdd, Nat.reduceSub, Array.replicate_succ, Array.replicate_zero, List.push_toArray, List.append_toArray, List.nil_append, List.cons_append]
  gi_wp2_with (gi_at_call 54; refine (appendSeq_in F (n - 1) h61 h49 hro (by omega) Bm L hlen _ hseq).mono ?_; rintro e w' ⟨v, ss, rfl, hS, hrow, hb⟩)
  go_ret
  exact ⟨v, ss, rfl, hS, hrow, hb⟩
end Qu
end Go.Proofs.Ytdmbbbljamjhkaa
