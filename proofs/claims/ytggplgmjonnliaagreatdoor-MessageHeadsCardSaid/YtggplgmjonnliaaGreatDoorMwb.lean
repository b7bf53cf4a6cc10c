/- Package message: headBytes, partBytes, Bytes of an Unlock. Printed by tools/specs/message/heads.py. -/
import Derived.Test.YtggplgmjonnliaaGreatDoorNt
import Derived.Test.YtggplgmjonnliaaGreatDoorNb
import Derived.Test.YtggplgmjonnliaaGreatDoorApk
import Derived.Test.YtggplgmjonnliaaGreatDoorMsk
import Derived.Test.YtggplgmjonnliaaGreatDoorMwa
import Derived.Deep.RegionHeld3
namespace Go.Proofs.YtggplgmjonnliaaGreatDoor
open Go.RowKit

namespace Ms
theorem row_on {W W' : World} {A : Option Addr} {n : Nat} {l : List Value} (hb : Below W.heap.size W W') (h : Row W W.heap.size A n l) : Row W' W'.heap.size A n l := (h.below hb (Nat.le_refl _)).mono hb.size
theorem row_al {W : World} {A : Option Addr} {n : Nat} {l : List Value} {o : Obj} (h : Row W W.heap.size A n l) : Row (W.alloc o) (W.alloc o).heap.size A n l := row_on ((Below.refl _ _).alloc (Nat.le_refl _) _) h
theorem row_dr {W : World} {A : Option Addr} {n : Nat} {l : List Value} (h : Row W W.heap.size A n l) : Row W.drew W.drew.heap.size A n l := row_on (Below.refl _ _).drew h
theorem row_li (w : World) (cs : Array Value) (t : TypeId) : Row (w.alloc (.cells cs t)) (w.alloc (.cells cs t)).heap.size (some ⟨w.heap.size, 0, none⟩) cs.size cs.toList := (Row.lit w cs t).mono (by simp)
theorem row_at {w : World} {b : Nat} {t : TypeId} (cs : Array Value) (h : b = w.heap.size) : Row (w.alloc (.cells cs t)) (w.alloc (.cells cs t)).heap.size (some ⟨b, 0, none⟩) cs.size cs.toList := by
  subst h
  exact row_li w cs t
theorem row1s (w : World) (b : Nat) (s : ByteArray) (t : TypeId) (h : b = w.heap.size) : Row (w.alloc (.cells #[.string s] t)) (w.alloc (.cells #[.string s] t)).heap.size (some ⟨b, 0, none⟩) 1 [.string s] := row_at #[.string s] h
theorem row1i (w : World) (b : Nat) (x : Int) (t : TypeId) (h : b = w.heap.size) : Row (w.alloc (.cells #[.int .i64 x] t)) (w.alloc (.cells #[.int .i64 x] t)).heap.size (some ⟨b, 0, none⟩) 1 ([x].map (Value.int .i64)) := row_at #[.int .i64 x] h
theorem row2i (w : World) (b : Nat) (x y : Int) (t : TypeId) (h : b = w.heap.size) : Row (w.alloc (.cells #[.int .i64 x, .int .i64 y] t)) (w.alloc (.cells #[.int .i64 x, .int .i64 y] t)).heap.size (some ⟨b, 0, none⟩) 2 ([x, y].map (Value.int .i64)) := row_at #[.int .i64 x, .int .i64 y] h
theorem by_on {W W' : World} {A : Option Addr} {n : Nat} {l : List UInt8} (hb : Below W.heap.size W W') (h : Bytes W W.heap.size A n l) : Bytes W' W'.heap.size A n l := (h.below hb (Nat.le_refl _)).mono hb.size
theorem by_al {W : World} {A : Option Addr} {n : Nat} {l : List UInt8} {o : Obj} (h : Bytes W W.heap.size A n l) : Bytes (W.alloc o) (W.alloc o).heap.size A n l := by_on ((Below.refl _ _).alloc (Nat.le_refl _) _) h
theorem bel_dr {w w' : World} (h : Below w.heap.size w w') : Below w.heap.size w w'.drew := h.drew
theorem bel_from {w W w' : World} (h : Below w.heap.size w W) (k : Below W.heap.size W w') : Below w.heap.size w w' := h.trans (k.mono h.size)
theorem own_nn {w : World} {base n c : Nat} {e : TypeId} {A : Option Addr} {l : List UInt8} (h : OwnBytes w base e A n c l) : A = none → n = 0 ∧ c = 0 := by
  obtain ⟨A', c', he, hA⟩ := own_form h
  injection he with h1 h2 h3
  subst h1; subst h3
  exact hA
def bκ : Cs UInt8 := ⟨1, fun x => [bv x], fun _ => rfl, fun x u hu => by
  rw [List.mem_singleton] at hu
  subst hu
  rfl⟩
theorem b_flat (l : List UInt8) : l.flatMap bκ.cs = l.map bv := by
  induction l with
  | nil => rfl
  | cons y r ih =>
    rw [List.flatMap_cons, ih]
    rfl
theorem own_k {w : World} {base n c : Nat} {e : TypeId} {A : Option Addr} {l : List UInt8} (h : OwnBytes w base e A n c l) : OwnK bκ w base e A n c l := ⟨by decide, by rw [b_flat]; exact h⟩
theorem k_own {w : World} {base n c : Nat} {e : TypeId} {A : Option Addr} {l : List UInt8} (h : OwnK bκ w base e A n c l) : OwnBytes w base e A n c l := by
  have := h.2
  rw [b_flat] at this
  exact this
theorem by_k {w : World} {B n : Nat} {A : Option Addr} {l : List UInt8} (h : Bytes w B A n l) : KRow bκ w B A n l := by
  unfold KRow
  rw [b_flat]
  exact h
/-- What a call of a putter leaves. -/
def Put (w : World) (l : List UInt8) (e : Ending) (w' : World) : Prop := ∃ A m c, e = .returned (.slice A m c) ∧ OwnBytes w' w.heap.size 5 A m c l ∧ Below w.heap.size w w'
theorem put1_text (A : Option Addr) (s : ByteArray) (w : World) (hr : Row w w.heap.size A 1 [.string s]) (hs : s.size ≤ 24) : Calls Tryz.prog 40 #[.slice none 0 0, .slice A 1 1] w (Put w (textOf s)) := by
  have h := putText_any 24 (by decide) none 0 0 [] A 1 1 [s] w (Bytes.nil _ _ _) (fun _ => ⟨rfl, rfl⟩) (by decide) hr (by decide) (fun y hy => by rw [List.mem_singleton] at hy; subst hy; exact hs)
  rw [show ([] : List UInt8) ++ textsOf [s] = textOf s by simp [textsOf]] at h
  exact h
theorem put_nums (A D : Option Addr) (m c n : Nat) (l : List UInt8) (ns : List Int) (w : World) (hr : Bytes w w.heap.size A m l) (hA : A = none → m = 0 ∧ c = 0) (hm : l.length ≤ 1000) (hns : Row w w.heap.size D n (ns.map (Value.int .i64))) (hn : n ≤ 1000) (hb : ∀ x ∈ ns, -9223372036854775808 ≤ x ∧ x ≤ 9223372036854775807) :
    Calls Tryz.prog 15 #[.slice A m c, .slice D n n] w (Put w (l ++ encs ns)) :=
  put_any A m c l D n n ns w hr hA (by have := hr.len; omega) hns (by omega) hb
theorem text_len {s : ByteArray} (h : s.size ≤ 24) : (textOf s).length ≤ 34 := by
  have h1 := textsOf_len 24 (by decide) [s] (fun y hy => by rw [List.mem_singleton] at hy; subst hy; exact h)
  simpa [textsOf] using h1
set_option maxRecDepth 10000 in
set_option maxHeartbeats 1600000 in
theorem headBytes_any (wk : ByteArray) (inc key : Int) (w : World) (hs : wk.size ≤ 24) (hi : -9223372036854775808 ≤ inc ∧ inc ≤ 9223372036854775807) (hk : -9223372036854775808 ≤ key ∧ key ≤ 9223372036854775807) :
    Calls Tryz.prog 16 #[.agg #[.string wk, .int .i64 inc, .int .i64 key]] w (Put w (textOf wk ++ encs [inc, key])) := by
  have HB0 := Lib.hid (bel_on (Below.refl w.heap.size w) (.cells #[.string wk, .int .i64 inc, .int .i64 key] 25))
  have HCA := Lib.hid (Cel.lit w #[.string wk, .int .i64 inc, .int .i64 key] 25)
  have HPT := Lib.hid (fun A W hr => put1_text A wk W hr hs)
  have HPN := Lib.hid (fun A D m c l W hr hA hm hns => put_nums A D m c 2 l [inc, key] W hr hA hm hns (by decide) (by
    intro x hx
    simp only [List.mem_cons, List.not_mem_nil, or_false] at hx
    rcases hx with rfl | rfl <;> assumption))
  have HTL := Lib.hid (text_len hs)
  clear hs hi hk
  go_enter Tryz.func16, Tryz.ntmps16
  go_upto_region 1 with (fail)
  generalize w.alloc _ = wa at *
  obtain ⟨z, hz⟩ : ∃ z, w.heap.size = z := ⟨_, rfl⟩
  have HZ := Lib.hid hz
  rw [hz] at HCA
  simp only [hz]
  clear hz
  have S0 : wa.cell? ⟨z, 0, none⟩ = some (.string wk) ∧ wa.cell? ⟨z, 1, none⟩ = some (.int .i64 inc) ∧ wa.cell? ⟨z, 2, none⟩ = some (.int .i64 key) := ⟨HCA.out.cell 0 _ rfl, HCA.out.cell 1 _ rfl, HCA.out.cell 2 _ rfl⟩
  have HS := Lib.hid (fun (W : World) (hW : Below wa.heap.size wa W) => (show W.cell? ⟨z, 0, none⟩ = some (.string wk) ∧ W.cell? ⟨z, 1, none⟩ = some (.int .i64 inc) ∧ W.cell? ⟨z, 2, none⟩ = some (.int .i64 key) from by
    have ha := HCA.out.below hW (Nat.le_refl _)
    exact ⟨ha.cell 0 _ rfl, ha.cell 1 _ rfl, ha.cell 2 _ rfl⟩))
  go_region_held3 (fun w' => w'.cell? ⟨z, 0, none⟩ = some (.string wk) ∧ w'.cell? ⟨z, 1, none⟩ = some (.int .i64 inc) ∧ w'.cell? ⟨z, 2, none⟩ = some (.int .i64 key)) (first | exact S2 | exact S1 | exact S0 | go_keep) (first
    | (go_at_call 40; (with_reducible refine (HPT.out _ _ (by repeat (first | exact row1s _ _ _ _ (by first | rfl | simp) | refine row_al ?_ | refine row_dr ?_))).mono ?_); rintro e w1 ⟨A1, m1, c1, rfl, ho1, hb1⟩; have hs1 : Below wa.heap.size wa w1 := bel_from (by repeat (first | exact Below.refl _ _ | refine bel_on ?_ _ | refine bel_dr ?_)) hb1; have HB1 := Lib.hid hs1; have S1 := HS.out _ HB1.out; clear hs1)
    | (go_at_call 15; (with_reducible refine (HPN.out _ _ _ _ (textOf wk) _ (by repeat (first | exact ho1.bytes | refine by_al ?_)) (own_nn ho1) (by have := HTL.out; omega) (by repeat (first | exact row2i _ _ _ _ _ (by first | rfl | simp) | refine row_al ?_ | refine row_dr ?_ | refine row_on hb1 ?_))).mono ?_); rintro e w2 ⟨A2, m2, c2, rfl, ho2, hb2⟩; have hs2 : Below w1.heap.size w1 w2 := bel_from (by repeat (first | exact Below.refl _ _ | refine bel_on ?_ _ | refine bel_dr ?_)) hb2; have HB2 := Lib.hid (HB1.out.trans (hs2.mono HB1.out.size)); have HO2 := Lib.hid (own_base ho2 (show w.heap.size ≤ _ from Nat.le_trans (Nat.le_trans HB0.out.size HB1.out.size) (by first | exact Nat.le_refl _ | simp))); have S2 := HS.out _ HB2.out; clear hs2 ho2))
  all_goals
    go_wp2
    go_ret
    exact ⟨A2, m2, c2, rfl, HO2.out, HB0.out.trans (HB2.out.mono HB0.out.size)⟩
end Ms
end Go.Proofs.YtggplgmjonnliaaGreatDoor
