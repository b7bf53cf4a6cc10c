/- Package queue: the iterator of maps.Values. -/
import Derived.Test.YtdmbbbljamjhkaaLf
import Derived.Shelf.AbstractIn
import Derived.RangeFuncMany
import Derived.RangeFuncLeaves
import Derived.Sort.MapsRangeIn
import Derived.Maps.OwnIn
import Derived.RegionIn
import Derived.OwnWalkIn
import Derived.TacticsInMore
import Derived.LoopNIn
import Derived.LoopIn
import Derived.Shelf.Abstract
namespace Go.Proofs.Ytdmbbbljamjhkaa
open Go.RowKit Go.Shelf
attribute [local go_sem] Oper.semAt_some

namespace Qu
open Ls (T)
/-- The step of a range over tasks, inside a fence. -/
theorem wpListIn_next_tasks {F : Fence} {nF : Nat} {ops : Array Oper} {rest : List Oper} {o : Oper} {a : Act} {Q : Exit → Act → World → Prop} (w : World) (hg : o.guard = none) (it : Operand) (hop : o.op = Op.next it false) (b r n : Nat) (l : List T) (left : Lit → Bool) (cnt : Nat)
    (hit : a.eval it = .pointer (some ⟨r, 0, none⟩)) (h : w.ranges Try.prog 3 taskR b r n (mapD l) left cnt)
    (hDone : cnt = 0 → (∀ kl, left kl = false) → wpListIn F nF Try.prog ops Q rest (a.put o.dst (.tuple #[.bool false])) w)
    (hMore : ∀ (x : T) (w' : World) (cnt' : Nat), x ∈ l → left (.int .i64 x.id) = true →
      w'.ranges Try.prog 3 taskR b r n (mapD l) (fun z => left z && !z.sameKey (.int .i64 x.id)) cnt' → cnt' < cnt → w.grownBy w' (some r) → w'.heap.size = w.heap.size →
      (Instr.entry (.pointer (some ⟨r, 0, none⟩))).run Try.prog w' = .ok (.tuple #[.int .i64 x.id, .agg #[.int .i64 x.id, .int .i64 x.ins, .int .i64 x.tok, .int .i64 x.nod, .string x.top, .int .i64 x.prio, .string x.wkr, .int .i64 x.epo, .int .i64 x.exp, .int .i64 x.aft, .int .i64 x.ret, .bool x.bro]]) w' →
      wpListIn F nF Try.prog ops Q rest (a.put o.dst (.tuple #[.bool true, .int .i64 x.id, .agg #[.int .i64 x.id, .int .i64 x.ins, .int .i64 x.tok, .int .i64 x.nod, .string x.top, .int .i64 x.prio, .string x.wkr, .int .i64 x.epo, .int .i64 x.exp, .int .i64 x.aft, .int .i64 x.ret, .bool x.bro]])) w') :
    wpListIn F nF Try.prog ops Q (o :: rest) a w :=
  wpListIn_next_ranges w hg it hop 3 law taskR (Value.int .i64) T.val (fun key kl hkey => by obtain ⟨x, rfl, _⟩ := Maps.keyOf_int_inv Try.underlying3 hkey; exact ⟨x, rfl⟩) (fun v y hv => by obtain ⟨c, rfl, _⟩ := taskR_inv hv; exact ⟨c, rfl⟩)
    b r n (mapD l) left cnt hit h hDone (fun x c kl y w' cnt' hkey hlk hv hat hrg hlt hgr hsz hen => by
      obtain ⟨x', ex, rfl, hwx⟩ := Maps.keyOf_int_inv Try.underlying3 hkey
      cases ex
      obtain ⟨c', ec, rfl⟩ := taskR_inv hv
      obtain rfl := val_inj ec
      obtain ⟨hm, rfl⟩ := mem_at hat
      exact hMore c w' cnt' hm hlk hrg hlt hgr hsz hen)
set_option maxRecDepth 100000 in
set_option maxHeartbeats 3200000 in
theorem values_in (F : Fence) (n : Nat) (h8 : F.fn 43) (hro : F.round = none) (hn : 1 ≤ n) (l Bm b : Nat) (L : List T) (hL : Asc L) (J Jx : List T → World → Prop)
    (hY : ∀ pre x W, J pre W → pre.length < L.length → YieldAt F (n - 1) Try.prog l #[x.val] W fun e W' =>
      (e = .returned (.bool true) ∧ J (pre ++ [x]) W' ∧ KeepsWalks W W') ∨ (e = .returned (.bool false) ∧ Jx (pre ++ [x]) W'))
    (W : World) (hJ : AbidesFrom W.heap.size J) (hm : W.cell? ⟨Bm, 0, none⟩ = some (.map (some b))) (hown : Owns W b L) (h0 : J [] W) :
    CallsIn F n Try.prog 43 #[.func (.yield l) #[] #[], .pointer (some ⟨Bm, 0, none⟩)] W fun e W' => (∃ v, e = .returned v) ∧
      ((∃ xs, xs.Perm L ∧ J xs W') ∨ (∃ pre, True ∧ Jx pre W')) := by
  refine callsIn_of_wp Try.func43 rfl h8 ?_ hro
  simp only [Try.ntmps43, List.size_toArray, List.length_cons, List.length_nil, Nat.reduceAdd, Nat.reduceSub, Array.replicate_succ, Array.replicate_zero, List.push_toArray, List.append_toArray, List.nil_append, List.cons_append]
  unfold Owns at hown
  gi_wp2_with (first
    | (gi_at_range; refine wpListIn_range_own _ rfl _ 28 rfl 3 39 law Try.underlying28 _ b L.length _ rfl hown ?_; intro w0 hrg0 hg0 hs0)
    | gi_in)
  go_frame
  gi_loopw [4] (fun _ wr => ∃ (left : Lit → Bool) (cnt : Nat) (done : List T), wr.ranges Try.prog 3 taskR b W.heap.size L.length (mapD L) left cnt ∧ Seen L done left cnt ∧ J done wr ∧ W.heap.size ≤ wr.heap.size)
    (fun _ wr => wr.rangeLeft b W.heap.size)
  case atStart =>
    exact ⟨_, _, [], hrg0, Seen.start L, hJ [] W w0 none h0 hg0 (fun r e => by cases e), by omega⟩
  case round =>
    obtain ⟨left, cnt, done, hrg, hseen, hJs, hsz⟩ := hrel
    gi_wp2_with (first
      | (gi_at_next; refine wpListIn_next_tasks _ rfl _ rfl b W.heap.size L.length L left cnt rfl hrg ?_ ?_)
      | gi_in)
    · intro hc0 hl0
      gi_wp2
      go_end0
      exact ⟨⟨_, rfl⟩, .inl ⟨done, hseen.all hL hl0, hJs⟩⟩
    · intro x w2 cnt2 hmem hlk hrg2 hlt hg2 hs2 hen
      have hJ2 : J done w2 := hJ done wr w2 (some W.heap.size) hJs hg2 (fun r e => by cases e; exact ⟨Nat.le_refl _, hrg.iter_walk⟩)
      have hga : w2.grownBy (w2.alloc (.cells x.cells.toArray 39)) none := World.grownBy_alloc w2 _ none
      have hJ3 : J done (w2.alloc (.cells x.cells.toArray 39)) := hJ done w2 _ none hJ2 hga (fun r e => by cases e)
      have hrg3 := hrg2.alloc (.cells x.cells.toArray 39)
      have hta : Cel (w2.alloc (.cells x.cells.toArray 39)) w2.heap.size x.cells := Cel.lit w2 x.cells.toArray 39
      have hseen2 := hseen.step hL hmem hlk hlt
      have hcl : done.length < L.length := by have := hseen.cnt; omega
      obtain ⟨fn, tmps, assign, body, hy, hR⟩ := hY done x _ hJ3 hcl
      have hsz3 : W.heap.size ≤ (w2.alloc (.cells x.cells.toArray 39)).heap.size := by simp; omega
      have HSEEN2 := Lib.hid hseen2
      have HLT := Lib.hid (show cnt2 < wr.rangeLeft b W.heap.size by rw [hrg.left_eq]; exact hlt)
      unfold T.cells at *
      obtain ⟨⟨k0, k1, k2, k3, k4, k5, k6, k7, k8, k9, k10, k11⟩, _⟩ := Ls.dz_facts hta
      unfold T.val at hy
      clear hs2 hta hga hseen2 hJ2 hJ3 hlk hlt hseen
      gi_wp2
      refine hR.mono ?_
      rintro e W3 (⟨rfl, hJ4, hk4⟩ | ⟨rfl, hJx4⟩)
      · gi_wp2
        have hrg4 := hrg3.of_walks hk4
        go_roundw
        case rel => exact ⟨_, cnt2, done ++ [x], hrg4, HSEEN2.out, hJ4, Nat.le_of_lt hrg4.lt⟩
        case measure => rw [hrg4.left_eq]; exact HLT.out
      · gi_wp2
        refine bodyPost_ret (results_none rfl _ _ _) rfl ?_
        exact ⟨⟨_, rfl⟩, .inr ⟨done ++ [x], trivial, hJx4⟩⟩
end Qu
end Go.Proofs.Ytdmbbbljamjhkaa
