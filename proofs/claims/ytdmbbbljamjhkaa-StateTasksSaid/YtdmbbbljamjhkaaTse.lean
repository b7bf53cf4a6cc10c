/- Package state: the bytes of a new state; first. -/
import Derived.Test.YtdmbbbljamjhkaaTsd
import Derived.Deep.RegionHeld3
namespace Go.Proofs.Ytdmbbbljamjhkaa
open Go.RowKit

namespace St
open Ls (T)
open Qu (QuC tκ)
theorem encs0 : encs [0] = [0] := by
  have : zig 0 = 0 := by decide
  simp [encs, this, enc_small]
theorem encs11 : encs [1, 1] = [2, 2] := by
  have : zig 1 = 2 := by decide
  simp [encs, this, enc_small]
/-- What the bytes of a list of nothing are. -/
def ZeroOut (w : World) (e : Ending) (w' : World) : Prop := ∃ A m c, e = .returned (.slice A m c) ∧ OwnBytes w' w.heap.size 5 A m c [0] ∧ Below w.heap.size w w'
theorem num0 (w : World) : Calls Try.prog 25 #[.slice (some ⟨w.heap.size, 0, none⟩) 1 1] (w.alloc (.cells #[.int .i64 0] 3)) (ZeroOut w) := by
  have h := numbers_any (some ⟨w.heap.size, 0, none⟩) 1 1 [0] (w.alloc (.cells #[.int .i64 0] 3)) ((Row.lit w #[.int .i64 0] 3).mono (by simp)) (by decide) (by simp)
  have hb : Below w.heap.size w (w.alloc (.cells #[.int .i64 0] 3)) := (Below.refl _ _).alloc (Nat.le_refl _) _
  refine h.mono ?_
  rintro e w' ⟨A, m, c, rfl, ho, hb2⟩
  rw [encs0] at ho
  exact ⟨A, m, c, rfl, own_base ho hb.size, hb.trans (hb2.mono hb.size)⟩
theorem num11 (A : Option Addr) (w : World) (hr : Row w w.heap.size A 2 ([1, 1].map (Value.int .i64))) : Calls Try.prog 25 #[.slice A 2 2] w fun e w' => ∃ A m c, e = .returned (.slice A m c) ∧ OwnBytes w' w.heap.size 5 A m c [2, 2] ∧ Below w.heap.size w w' := by
  refine (numbers_any A 2 2 [1, 1] w hr (by decide) (by simp)).mono ?_
  rintro e w' ⟨A, m, c, rfl, ho, hb2⟩
  rw [encs11] at ho
  exact ⟨A, m, c, rfl, ho, hb2⟩
theorem row_on {W W' : World} {A : Option Addr} {n : Nat} {l : List Value} (hb : Below W.heap.size W W') (h : Row W W.heap.size A n l) : Row W' W'.heap.size A n l := (h.below hb (Nat.le_refl _)).mono hb.size
theorem row11 (w : World) : Row (w.alloc (.cells #[.int .i64 1, .int .i64 1] 3)) (w.alloc (.cells #[.int .i64 1, .int .i64 1] 3)).heap.size (some ⟨w.heap.size, 0, none⟩) 2 ([1, 1].map (Value.int .i64)) := (Row.lit w #[.int .i64 1, .int .i64 1] 3).mono (by simp)
theorem row11d (w : World) : Row (w.alloc (.cells #[.int .i64 1, .int .i64 1] 3)).drew (w.alloc (.cells #[.int .i64 1, .int .i64 1] 3)).drew.heap.size (some ⟨w.heap.size, 0, none⟩) 2 ([1, 1].map (Value.int .i64)) := row_on (Below.refl _ _).drew (row11 w)
theorem below_alloc {w w' : World} {o : Obj} (h : Below (w.alloc o).heap.size (w.alloc o) w') : Below w.heap.size w w' := ((Below.refl _ _).alloc (Nat.le_refl _) _).trans (h.mono (by simp))
theorem below_drew {w w' : World} (h : Below w.drew.heap.size w.drew w') : Below w.heap.size w w' := (Below.refl w.heap.size w).drew.trans h
theorem parts_on {W W' : World} {L : List Part} (h : ∀ p ∈ L, Part.ok W W.heap.size p) (hb : Below W.heap.size W W') : ∀ p ∈ L, Part.ok W' W'.heap.size p := fun p hp => ⟨((h p hp).1.below hb (Nat.le_refl _)).mono hb.size, (h p hp).2⟩
theorem parts_more {W : World} {L : List Part} {base m c : Nat} {e : TypeId} {A : Option Addr} {l : List UInt8} (h : ∀ p ∈ L, Part.ok W W.heap.size p) (ho : OwnBytes W base e A m c l) (hl : l.length ≤ 1000) : ∀ p ∈ L ++ [⟨A, m, c, l⟩], Part.ok W W.heap.size p := fun p hp => by
  rcases List.mem_append.1 hp with hp | hp
  · exact h p hp
  · rw [List.mem_singleton] at hp
    subst hp
    exact ⟨ho.bytes, by have := ho.len; show m ≤ _; omega⟩
section
set_option maxHeartbeats 800000
theorem listP_none (A : Option Addr) (c : Nat) (f : Value) (w : World) : Calls Try.prog 16 #[.slice A 0 c, f] w (ZeroOut w) := by
  go_enter Try.func16, Try.ntmps16
  go_wp2_with fail
  refine (num0 w).mono ?_
  rintro e w1 ⟨A1, m1, c1, rfl, ho, hb⟩
  go_wp2
  refine wp_loop_rounds 1 ?_
  rw [rounds_succ]
  go_wp2
  go_ret
  exact ⟨A1, m1, c1, rfl, ho, hb⟩
theorem listI_none (A : Option Addr) (c : Nat) (f : Value) (w : World) : Calls Try.prog 18 #[.slice A 0 c, f] w (ZeroOut w) := by
  go_enter Try.func18, Try.ntmps18
  go_wp2_with fail
  refine (num0 w).mono ?_
  rintro e w1 ⟨A1, m1, c1, rfl, ho, hb⟩
  go_wp2
  refine wp_loop_rounds 1 ?_
  rw [rounds_succ]
  go_wp2
  go_ret
  exact ⟨A1, m1, c1, rfl, ho, hb⟩
theorem listT_none (A : Option Addr) (c : Nat) (f : Value) (w : World) : Calls Try.prog 20 #[.slice A 0 c, f] w (ZeroOut w) := by
  go_enter Try.func20, Try.ntmps20
  go_wp2_with fail
  refine (num0 w).mono ?_
  rintro e w1 ⟨A1, m1, c1, rfl, ho, hb⟩
  go_wp2
  refine wp_loop_rounds 1 ?_
  rw [rounds_succ]
  go_wp2
  go_ret
  exact ⟨A1, m1, c1, rfl, ho, hb⟩
theorem listG_none (A : Option Addr) (c : Nat) (f : Value) (w : World) : Calls Try.prog 22 #[.slice A 0 c, f] w (ZeroOut w) := by
  go_enter Try.func22, Try.ntmps22
  go_wp2_with fail
  refine (num0 w).mono ?_
  rintro e w1 ⟨A1, m1, c1, rfl, ho, hb⟩
  go_wp2
  refine wp_loop_rounds 1 ?_
  rw [rounds_succ]
  go_wp2
  go_ret
  exact ⟨A1, m1, c1, rfl, ho, hb⟩
end
theorem cel_first {w : World} {q : Nat} {a : Value} {r : List Value} (h : Cel w q (a :: r)) : Cel w q [a] :=
  ⟨fun i v hv => h.cell i v (by
    cases i with
    | zero => exact hv
    | succ i => simp at hv), fun i hi => h.froz i (by simp at hi ⊢; omega), h.lt⟩
/-- A new state. -/
def newCells : List Value := [.map none, .map none, .slice none 0 0, .slice none 0 0, .int .i64 1, .int .i64 1]
theorem new_quC {w : World} {q : Nat} (h : Cel w q newCells) : QuC w q none [] := ⟨cel_first h, List.Pairwise.nil, fun _ h => (by cases h), .inl ⟨rfl, rfl⟩⟩
theorem nns_all {a b c d e : Part} (h1 : a.a = none → a.n = 0 ∧ a.c = 0) (h2 : b.a = none → b.n = 0 ∧ b.c = 0) (h3 : c.a = none → c.n = 0 ∧ c.c = 0) (h4 : d.a = none → d.n = 0 ∧ d.c = 0) (h5 : e.a = none → e.n = 0 ∧ e.c = 0) : ∀ p ∈ [a, b, c, d, e], p.a = none → p.n = 0 ∧ p.c = 0 := by
  intro p hp
  simp only [List.mem_cons, List.not_mem_nil, or_false] at hp
  rcases hp with rfl | rfl | rfl | rfl | rfl <;> assumption
set_option maxRecDepth 10000 in
set_option maxHeartbeats 1600000 in
theorem bytes_new (q : Nat) (w : World) (h : Cel w q newCells) : Calls Try.prog 11 #[.pointer (some ⟨q, 0, none⟩)] w fun e w' => ∃ A m c, e = .returned (.slice A m c) ∧ OwnBytes w' w.heap.size 5 A m c [0, 0, 0, 0, 2, 2] ∧ Below w.heap.size w w' := by
  have HC := Lib.hid h
  have HS := Lib.hid (fun (W : World) (hW : Below w.heap.size w W) => (show W.cell? ⟨q, 2, none⟩ = some (.slice none 0 0) ∧ W.cell? ⟨q, 3, none⟩ = some (.slice none 0 0) ∧ W.cell? ⟨q, 4, none⟩ = some (.int .i64 1) ∧ W.cell? ⟨q, 5, none⟩ = some (.int .i64 1) from by
    have ha := HC.out.below hW (Nat.le_refl _)
    exact ⟨ha.cell 2 _ rfl, ha.cell 3 _ rfl, ha.cell 4 _ rfl, ha.cell 5 _ rfl⟩))
  have HN := Lib.hid num11
  have HLP := Lib.hid listP_none
  have HLI := Lib.hid listI_none
  have HLT := Lib.hid listT_none
  have HLG := Lib.hid listG_none
  have HAL := Lib.hid (fun (W : World) (hW : Below w.heap.size w W) => all_any q none [] W (new_quC (HC.out.below hW (Nat.le_refl _))) (by decide))
  have HBA := Lib.hid (fun (W : World) (hW : Below w.heap.size w W) => ball_none q W ((HC.out.below hW (Nat.le_refl _)).cell 1 _ rfl))
  have S0 := HS.out _ (Below.refl w.heap.size w)
  clear h
  go_enter Try.func11, Try.ntmps11
  go_upto_region 1 with (fail)
  go_region_held3 (fun w' => w'.cell? ⟨q, 2, none⟩ = some (.slice none 0 0) ∧ w'.cell? ⟨q, 3, none⟩ = some (.slice none 0 0) ∧ w'.cell? ⟨q, 4, none⟩ = some (.int .i64 1) ∧ w'.cell? ⟨q, 5, none⟩ = some (.int .i64 1)) (first | exact S8 | exact S7 | exact S6 | exact S5 | exact S4 | exact S3 | exact S2 | exact S1 | exact S0 | go_keep) (first
    | (go_at_call 16; (with_reducible refine (HLP.out _ _ _ _).mono ?_); rintro e w1 ⟨A1, m1, c1, rfl, ho1, hb1⟩; have hs1 : Below w.heap.size w w1 := (by first | exact hb1 | exact below_alloc hb1 | exact below_drew hb1 | exact below_drew (below_alloc hb1) | exact below_alloc (below_drew hb1)); have HB1 := Lib.hid hs1; have HP1 := Lib.hid (parts_more (L := []) (fun _ h => by cases h) ho1 (by decide)); have HN1 := Lib.hid (own_nn ho1); have S1 := HS.out _ HB1.out; clear ho1 hs1)
    | (go_at_call 18; (with_reducible refine (HLI.out _ _ _ _).mono ?_); rintro e w2 ⟨A2, m2, c2, rfl, ho2, hb2⟩; have hs2 : Below w1.heap.size w1 w2 := (by first | exact hb2 | exact below_alloc hb2 | exact below_drew hb2 | exact below_drew (below_alloc hb2) | exact below_alloc (below_drew hb2)); have HB2 := Lib.hid (HB1.out.trans (hs2.mono HB1.out.size)); have HP2 := Lib.hid (parts_more (parts_on HP1.out hs2) ho2 (by decide)); have HN2 := Lib.hid (own_nn ho2); have S2 := HS.out _ HB2.out; clear ho2 hs2)
    | (go_at_call 13; (with_reducible refine (HAL.out _ (by first | exact HB2.out | exact HB2.out.alloc HB2.out.size _)).mono ?_); rintro e w3 ⟨⟨A3, n3, c3, rfl, _, hr3, _⟩, hb3⟩; obtain rfl : 0 = n3 := hr3.len (by decide); have hs3 : Below w2.heap.size w2 w3 := (by first | exact hb3 | exact below_alloc hb3 | exact below_drew hb3 | exact below_drew (below_alloc hb3) | exact below_alloc (below_drew hb3)); have HB3 := Lib.hid (HB2.out.trans (hs3.mono HB2.out.size)); have HP3 := Lib.hid (parts_on HP2.out hs3); have S3 := HS.out _ HB3.out; clear hr3 hs3)
    | (go_at_call 20; (with_reducible refine (HLT.out _ _ _ _).mono ?_); rintro e w4 ⟨A4, m4, c4, rfl, ho4, hb4⟩; have hs4 : Below w3.heap.size w3 w4 := (by first | exact hb4 | exact below_alloc hb4 | exact below_drew hb4 | exact below_drew (below_alloc hb4) | exact below_alloc (below_drew hb4)); have HB4 := Lib.hid (HB3.out.trans (hs4.mono HB3.out.size)); have HP4 := Lib.hid (parts_more (parts_on HP3.out hs4) ho4 (by decide)); have HN4 := Lib.hid (own_nn ho4); have S4 := HS.out _ HB4.out; clear ho4 hs4)
    | (go_at_call 23; (with_reducible refine (HBA.out _ (by first | exact HB4.out | exact HB4.out.alloc HB4.out.size _)).mono ?_); rintro e w5 ⟨rfl, hb5⟩; have hs5 : Below w4.heap.size w4 w5 := (by first | exact hb5 | exact below_alloc hb5 | exact below_drew hb5 | exact below_drew (below_alloc hb5) | exact below_alloc (below_drew hb5)); have HB5 := Lib.hid (HB4.out.trans (hs5.mono HB4.out.size)); have HP5 := Lib.hid (parts_on HP4.out hs5); have S5 := HS.out _ HB5.out; clear hs5)
    | (go_at_call 22; (with_reducible refine (HLG.out _ _ _ _).mono ?_); rintro e w6 ⟨A6, m6, c6, rfl, ho6, hb6⟩; have hs6 : Below w5.heap.size w5 w6 := (by first | exact hb6 | exact below_alloc hb6 | exact below_drew hb6 | exact below_drew (below_alloc hb6) | exact below_alloc (below_drew hb6)); have HB6 := Lib.hid (HB5.out.trans (hs6.mono HB5.out.size)); have HP6 := Lib.hid (parts_more (parts_on HP5.out hs6) ho6 (by decide)); have HN6 := Lib.hid (own_nn ho6); have S6 := HS.out _ HB6.out; clear ho6 hs6)
    | (go_at_call 25; (with_reducible refine (HN.out _ _ (by first | exact row11 _ | exact row_on hb6 (row11 _) | exact row_on hb6 (row_on hb5 (row11 _)) | exact row_on hb6 (row_on hb5 (row_on hb4 (row11 _))) | exact row_on hb6 (row_on hb5 (row_on hb4 (row_on hb3 (row11 _)))) | exact row_on hb6 (row_on hb5 (row_on hb4 (row_on hb3 (row_on hb2 (row11 _))))) | exact row_on hb6 (row_on hb5 (row_on hb4 (row_on hb3 (row_on hb2 (row_on hb1 (row11 _)))))) | exact row_on hb6 (row_on hb5 (row_on hb4 (row_on hb3 (row_on hb2 (row_on hb1 (row11d _)))))))).mono ?_); rintro e w7 ⟨A7, m7, c7, rfl, ho7, hb7⟩; have hs7 : Below w6.heap.size w6 w7 := (by first | exact hb7 | exact below_alloc hb7 | exact below_drew hb7 | exact below_drew (below_alloc hb7) | exact below_alloc (below_drew hb7)); have HB7 := Lib.hid (HB6.out.trans (hs7.mono HB6.out.size)); have S7 := HS.out _ HB7.out; have kx : Below w7.heap.size w7 (w7.alloc (.cells #[.slice A1 m1 c1, .slice A2 m2 c2, .slice A4 m4 c4, .slice A6 m6 c6, .slice A7 m7 c7] 45)) := (Below.refl _ _).alloc (Nat.le_refl _) _; have hpp := parts_on (parts_more (parts_on HP6.out hs7) ho7 (by decide)) kx; have HCC := Lib.hid (concat_any (some ⟨w7.heap.size, 0, none⟩) 5 5 [⟨A1, m1, c1, [0]⟩, ⟨A2, m2, c2, [0]⟩, ⟨A4, m4, c4, [0]⟩, ⟨A6, m6, c6, [0]⟩, ⟨A7, m7, c7, [2, 2]⟩] (w7.alloc (.cells #[.slice A1 m1 c1, .slice A2 m2 c2, .slice A4 m4 c4, .slice A6 m6 c6, .slice A7 m7 c7] 45)) ((KRow.lit (κ := pκ) w7 45 [⟨A1, m1, c1, [0]⟩, ⟨A2, m2, c2, [0]⟩, ⟨A4, m4, c4, [0]⟩, ⟨A6, m6, c6, [0]⟩, ⟨A7, m7, c7, [2, 2]⟩] #[.slice A1 m1 c1, .slice A2 m2 c2, .slice A4 m4 c4, .slice A6 m6 c6, .slice A7 m7 c7] rfl).mono (by simp)) hpp (nns_all HN1.out HN2.out HN4.out HN6.out (own_nn ho7)) (by decide) (by simp [allOf])); have HBX := Lib.hid (HB7.out.trans (kx.mono HB7.out.size)); clear ho7 hs7 kx hpp)
    | (go_at_call 15; (with_reducible refine HCC.out.mono ?_); rintro e w8 ⟨A8, m8, c8, rfl, ho8, hb8⟩; have HB8 := Lib.hid (HBX.out.trans (hb8.mono HBX.out.size)); have HO8 := Lib.hid ho8; have S8 := HS.out _ HB8.out; clear ho8 hb8))
  all_goals
    go_wp2
    go_ret
    exact ⟨A8, m8, c8, rfl, own_base HO8.out HBX.out.size, HB8.out⟩
end St
end Go.Proofs.Ytdmbbbljamjhkaa
