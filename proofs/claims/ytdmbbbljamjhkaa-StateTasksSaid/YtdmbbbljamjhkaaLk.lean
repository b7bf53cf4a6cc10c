/- Package queue: which of two tasks comes first. -/
import Derived.Test.YtdmbbbljamjhkaaLg
import Derived.Test.YtdmbbbljamjhkaaSg
import Derived.Deep.RegionHeld3
namespace Go.Proofs.Ytdmbbbljamjhkaa
open Go.RowKit

namespace Qu
open Ls (T)
/-- Some draws, some blocks behind. -/
def Gw (w w' : World) : Prop := ∃ q os, w' = Sort.grow (w.drewN q) os
theorem Gw.refl (w : World) : Gw w w := ⟨0, #[], by rw [Sort.grow_empty]; rfl⟩
theorem Gw.alloc {w w' : World} (h : Gw w w') (o : Obj) : Gw w (w'.alloc o) := by
  obtain ⟨q, os, rfl⟩ := h
  exact ⟨q, os ++ #[o], by rw [Sort.alloc_eq_grow, Sort.grow_grow]⟩
theorem Gw.trans {w w' w'' : World} (h : Gw w w') (k : Gw w' w'') : Gw w w'' := by
  obtain ⟨q, os, rfl⟩ := h
  obtain ⟨q', os', rfl⟩ := k
  refine ⟨q + q', os ++ os', ?_⟩
  show Sort.grow (Sort.grow ((w.drewN q).drewN q') os) os' = _
  rw [Sort.grow_grow, World.drewN_drewN]
theorem Gw.drew {w w' : World} (h : Gw w w') : Gw w w'.drew := h.trans ⟨1, #[], by rw [Sort.grow_empty]; rfl⟩
theorem Gw.cell {w w' : World} (h : Gw w w') {a : Addr} {v : Value} (hb : a.block < w.heap.size) (hv : w.cell? a = some v) : w'.cell? a = some v := by
  obtain ⟨q, os, rfl⟩ := h
  exact cell_grown hb hv q os
theorem Gw.below {w w' : World} (h : Gw w w') : Below w.heap.size w w' := by
  obtain ⟨q, os, rfl⟩ := h
  refine ⟨rfl, rfl, rfl, ?_, fun k hk => ?_⟩
  · show w.heap.size ≤ (w.heap ++ os).size
    rw [Array.size_append]
    omega
  · show (w.heap ++ os)[k]? = w.heap[k]?
    rw [Array.getElem?_append_left hk]
theorem Gw.cel {w w' : World} (h : Gw w w') {q : Nat} {cs : List Value} (hc : Cel w q cs) : Cel w' q cs := hc.below h.below (Nat.le_refl _)
theorem cmp_any (a b : Int) (w : World) : Calls Try.prog 44 #[.int .i64 a, .int .i64 b] w fun e w' => e = .returned (.int .i64 (Lib.compareInt a b)) ∧ w' = w := AnyG.cmp_Compare_int sgCm a b w
set_option maxHeartbeats 1600000 in
theorem byid_any (x y : T) (w : World) : Calls Try.prog 29 #[x.val, y.val] w fun e w' => e = .returned (.int .i64 (Lib.compareInt x.id y.id)) ∧ Gw w w' := by
  have hcm := fun W => cmp_any x.id y.id W
  obtain ⟨hc, hd, _⟩ := Ls.two_lit w #[.int .i64 x.id, .int .i64 x.ins, .int .i64 x.tok, .int .i64 x.nod, .string x.top, .int .i64 x.prio, .string x.wkr, .int .i64 x.epo, .int .i64 x.exp, .int .i64 x.aft, .int .i64 x.ret, .bool x.bro] #[.int .i64 y.id, .int .i64 y.ins, .int .i64 y.tok, .int .i64 y.nod, .string y.top, .int .i64 y.prio, .string y.wkr, .int .i64 y.epo, .int .i64 y.exp, .int .i64 y.aft, .int .i64 y.ret, .bool y.bro] 39 39
  have HG := Lib.hid (((Gw.refl w).alloc (.cells #[.int .i64 x.id, .int .i64 x.ins, .int .i64 x.tok, .int .i64 x.nod, .string x.top, .int .i64 x.prio, .string x.wkr, .int .i64 x.epo, .int .i64 x.exp, .int .i64 x.aft, .int .i64 x.ret, .bool x.bro] 39)).alloc (.cells #[.int .i64 y.id, .int .i64 y.ins, .int .i64 y.tok, .int .i64 y.nod, .string y.top, .int .i64 y.prio, .string y.wkr, .int .i64 y.epo, .int .i64 y.exp, .int .i64 y.aft, .int .i64 y.ret, .bool y.bro] 39))
  have c0 := hc.cell 0 _ rfl
  have d0 := hd.cell 0 _ rfl
  clear hc hd
  generalize Lib.compareInt x.id y.id = r at *
  unfold T.val
  go_enter Try.func29, Try.ntmps29
  go_wp2_with (go_at_call 44; refine (hcm _).mono ?_; rintro e w' ⟨rfl, rfl⟩)
  go_ret
  exact ⟨rfl, HG.out⟩
end Qu
end Go.Proofs.Ytdmbbbljamjhkaa
