/- AgainOwn: the walk. -/
import Derived.Test.YtfpennnbicclfaaAgm
import Derived.Test.YtfpennnbicclfaaFrame
namespace Go.Proofs.Ytfpennnbicclfaa
open Go.RowKit

namespace Ag
theorem bytes_head {w : World} {B n : Nat} {A : Option Addr} {x : UInt8} {l : List UInt8} (h : Bytes w B A n (x :: l)) : ∃ b o, A = some ⟨b, o, none⟩ ∧ b < B ∧ w.cell? ⟨b, o, none⟩ = some (.int .u8 (x.toNat : Int)) := by
  have hl : 0 < n := by have := h.len; simp at this; omega
  obtain ⟨b, o, rfl, hb, hc⟩ := h.2 hl
  exact ⟨b, o, rfl, hb, by have := hc 0 (bv x) rfl; rwa [Nat.add_zero] at this⟩
theorem own_bytes_row {w : World} {base n c : Nat} {e : TypeId} {A : Option Addr} {l : List UInt8} (h : OwnBytes w base e A n c l) : Bytes w w.heap.size A n l := RowS.own h
theorem own_head {w : World} {base n c g : Nat} {e : TypeId} {x : UInt8} {l : List UInt8} (h : OwnBytes w base e (some ⟨g, 0, none⟩) n c (x :: l)) : w.cell? ⟨g, 0, none⟩ = some (.int .u8 (x.toNat : Int)) := by
  obtain ⟨b, o, he, _, hc⟩ := bytes_head (own_bytes_row h)
  injection he with he
  injection he with e1 e2
  subst e1
  subst e2
  exact hc
theorem own_one {α : Type} {κ : Cs α} {w : World} {base c : Nat} {e : TypeId} {A : Option Addr} {l : List α} (h : OwnK κ w base e A (0 + 1) c l) : ∃ g, A = some ⟨g, 0, none⟩ ∧ base ≤ g ∧ g < w.heap.size := by
  rcases h.2.2 with ⟨_, h0⟩ | ⟨g, cap, cur, hv, hg, hh, _⟩
  · omega
  · injection hv with hA _ _
    exact ⟨g, hA, hg, blk_lt hh⟩
theorem map_single {α β : Type} {f : α → β} {b : β} : ∀ {l : List α}, l.map f = [b] → ∃ a, l = [a] ∧ f a = b
  | [], h => by cases h
  | [a], h => ⟨a, rfl, (List.cons.inj h).1⟩
  | _ :: _ :: _, h => by cases h
theorem one_at {α : Type} {κ : Cs α} {w : World} {base c g : Nat} {e : TypeId} {x : α} {v : Value} {vs : List Value} (h : OwnK κ w base e (some ⟨g, 0, none⟩) (0 + 1) c [x]) (hv : κ.cs x = v :: vs) : w.cell? ⟨g, 0, none⟩ = some v := by
  obtain ⟨b, off, he, _, hc⟩ := h.row.2 (by decide)
  injection he with he
  injection he with e1 e2
  subst e1
  subst e2
  have := hc 0 v (by rw [List.flatMap_cons, hv]; rfl)
  exact this
theorem cel_row4 {w : World} {base c g : Nat} {e : TypeId} {x : Rw} (h : OwnK rκ w base e (some ⟨g, 0, none⟩) (0 + 1) c [x]) :
    w.cell? ⟨g, 0, none⟩ = some (.string x.wkr) ∧ w.cell? ⟨g, 1, none⟩ = some (.int .i64 x.inc) ∧ w.cell? ⟨g, 2, none⟩ = some (.slice x.ka x.kn x.kc) ∧ w.cell? ⟨g, 3, none⟩ = some (.slice x.ra x.rn x.rc) := by
  obtain ⟨b, off, he, _, hc⟩ := h.row.2 (by decide)
  injection he with he
  injection he with e1 e2
  subst e1
  subst e2
  simp only [Nat.zero_add] at hc
  exact ⟨hc 0 _ rfl, hc 1 _ rfl, hc 2 _ rfl, hc 3 _ rfl⟩
theorem xor1 (x : UInt8) : Go.bits .xor .u8 (x.toNat : Int) 1 = ((x ^^^ 1).toNat : Int) := u8_xor x 1
theorem xor3 (x : UInt8) : Go.bits .xor .u8 (x.toNat : Int) 3 = ((x ^^^ 3).toNat : Int) := u8_xor x 3
theorem set_kp (w : World) (g o : Nat) (v : Value) : Kp (fun x => x = g) w (w.setCell ⟨g, o, none⟩ v) := Kp.of_grown (row := some g) (set_grown (World.grownBy.refl _ _) o _) (fun _ _ e => (Option.some.inj e).symm)
end Ag
open Ag
set_option maxRecDepth 10000 in
set_option maxHeartbeats 3200000 in
theorem againOwn_walk (A : Option Addr) (n c : Nat) (l : List UInt8) (key : Int) (w : World) (h : InBytes w A n c l) (_ : -9223372036854775808 ≤ key) (_ : key ≤ 9223372036854775807) :
    Calls Try.prog 7 #[.slice A n c, .int .i64 key] w fun e w' => e = .returned (.bool true) ∧ Below w.heap.size w w' := by
  have hl := h.bytes.len
  have HIN := Lib.hid h
  have HF := Lib.hid (first_any w)
  by_cases h0 : n = 0
  · subst h0
    go_enter Try.func7, Try.ntmps7
    go_wp2_with (go_at_call 8; refine HF.out.mono ?_; rintro e w1 ⟨rfl, hb1⟩)
    go_ret
    exact ⟨rfl, hb1⟩
  by_cases h40 : 40 < n
  · have hI1 : ¬ (n : Int) = 0 := by omega
    have hI2 : (40 : Int) < (n : Int) := by omega
    have hI3 : ((n : Int) == 0) = false := by simpa using hI1
    go_enter Try.func7, Try.ntmps7
    go_wp2_with (go_at_call 8; refine HF.out.mono ?_; rintro e w1 ⟨rfl, hb1⟩)
    go_ret
    exact ⟨rfl, hb1⟩
  obtain ⟨x, xs, rfl⟩ : ∃ x xs, l = x :: xs := by
    cases l with
    | nil => simp at hl; omega
    | cons x xs => exact ⟨x, xs, rfl⟩
  obtain ⟨ab, ao, rfl, hab, hac⟩ := bytes_head HIN.out.bytes
  have HAC := Lib.hid hac
  have HAB := Lib.hid hab
  have hn1 : 0 < n := by omega
  have hI1 : ¬ (n : Int) = 0 := by omega
  have hI2 : ¬ (40 : Int) < (n : Int) := by omega
  have hI3 : ((n : Int) == 0) = false := by simpa using hI1
  have hI4 : (0 : Int) < (n : Int) := by omega
  have HL := Lib.hid hl
  clear h hl h0 hac hab
  obtain ⟨i0, hi0, hz0, hz1, hz2⟩ := info_parts info_u8
  go_enter Try.func7, Try.ntmps7
  go_wp2_with fail
  refine HF.out.mono ?_
  rintro e w1 ⟨rfl, hb1⟩
  have HB1 := Lib.hid hb1
  clear HF hb1
  have hq3 := (Cel.lit w1 #[.map none] 27).alloc (.cells #[.string ⟨#[119]⟩, .int .i64 1, .int .i64 key] 39)
  have hsz : (w1.alloc (.cells #[.map none] 27)).heap.size = w1.heap.size + 1 := by simp
  have hh3 := Cel.lit (w1.alloc (.cells #[.map none] 27)) #[.string ⟨#[119]⟩, .int .i64 1, .int .i64 key] 39
  rw [hsz] at hh3
  have hb3 : Below w.heap.size w ((w1.alloc (.cells #[.map none] 27)).alloc (.cells #[.string ⟨#[119]⟩, .int .i64 1, .int .i64 key] 39)) := (HB1.out.alloc HB1.out.size _).alloc (by have := HB1.out.size; simp; omega) _
  have hz3 : w1.heap.size + 1 < ((w1.alloc (.cells #[.map none] 27)).alloc (.cells #[.string ⟨#[119]⟩, .int .i64 1, .int .i64 key] 39)).heap.size := by simp
  have HQ3 := Lib.hid hq3
  have HH3 := Lib.hid hh3
  have HB3 := Lib.hid hb3
  have hq0 := HB1.out.size
  clear hq3 hsz hh3 hb3
  go_upto_region 8 with (fail)
  generalize (w1.alloc _).alloc _ = w3 at *
  generalize w1.heap.size = q at *
  clear HB1 w1
  have hb4 : Below w3.heap.size w3 (w3.alloc (.cells #[] 5)) := (Below.refl _ _).alloc (Nat.le_refl _) _
  have HBY4 := Lib.hid ((HIN.out.bytes.below (HB3.out.trans (hb4.mono HB3.out.size)) (Nat.le_refl _)).mono (B' := (w3.alloc (.cells #[] 5)).heap.size) (Nat.le_trans HB3.out.size hb4.size))
  have HNIL := Lib.hid (World.ownsRow_lit w3 (e := 5) #[] 0 (Nat.le_refl _) (by decide) rfl : (w3.alloc (.cells #[] 5)).ownsRow w3.heap.size 5 1 (.slice (some ⟨w3.heap.size, 0, none⟩) 0 0) 0 [])
  have HS4 := Lib.hid hb4.size
  go_wp2_with (at_builtin; refine append_row rfl (.tmp 30) (.tmp 31) _ rfl 5 i0 _ 1 1 Try.underlying32 hi0 hz0 hz1 hz2 rfl (by decide) w3.heap.size _ 0 [] rfl HNIL.out (w3.alloc (.cells #[] 5)).heap.size (some ⟨ab, ao, none⟩) n c ((x :: xs).map bv) rfl (fun h => by cases h) HBY4.out (bv_one _) (by unfold maxLen; omega) (by omega) HS4.out ?_)
  intro v5 w5 ho5 hg5 hat5
  obtain ⟨A5, c5, rfl, _⟩ := own_form ho5
  have hb5 : Below w3.heap.size w3 w5 := hb4.grown hg5 hb4.size fun k hk => by simp [Value.ownBlock] at hk; omega
  have ho5' : OwnBytes w5 w3.heap.size 5 A5 n c5 (x :: xs) := by simpa [OwnBytes] using ho5
  obtain ⟨g5, rfl, hga, hgb⟩ := own_some ho5' hn1
  clear ho5 hg5 hat5 hb4 HBY4 HNIL HS4
  have hbk5 := BkC.zero (HQ3.out.below hb5 (Nat.le_refl _))
  have hk0 := keep_any q none [] ⟨#[119]⟩ 1 key (some ⟨g5, 0, none⟩) n c5 (x :: xs) w5 hbk5 (by decide) (own_bytes_row ho5') (fun h => by cases h) (by omega) (fun _ a ha hw => by
    cases ha
    rcases hw with h | h | ⟨_, h, _⟩
    · have h : g5 = q := h
      omega
    · cases h
    · cases h)
  rw [List.map_nil, look_nil, keep_nil] at hk0
  have HK : Hid (Calls Try.prog 12 #[.pointer (some ⟨q, 0, none⟩), .agg #[.string ⟨#[119]⟩, .int .i64 1, .int .i64 key], .slice (some ⟨g5, 0, none⟩) n c5] w5 fun e w' => e = .returned (.bool true) ∧ KeepOut q none [] [⟨⟨#[119]⟩, 1, [key], [x :: xs]⟩] w5 w') := hk0
  have HO5 := Lib.hid ho5'
  have hh5 := HH3.out.below hb5 (Nat.le_refl _)
  have HH5 := Lib.hid hh5
  have HB5 := Lib.hid (HB3.out.trans (hb5.mono HB3.out.size))
  obtain ⟨d0, d1, d2⟩ := cel3 hh5
  clear hk0 hbk5 ho5' hh5 hb5 HB3 HH3 HQ3
  have hq3 : q + 1 < w3.heap.size := hz3
  generalize w3.heap.size = b3 at *
  clear w3
  go_wp2_with fail
  (with_reducible refine HK.out.mono ?_)
  rintro e w6 ⟨rfl, m6, l6, hbk6, hl6, hkp6, hft6⟩
  have hb6 := wr_below (B := w.heap.size) hkp6 HB5.out.size (fun x hx => by have := foot_nil hx; omega)
  have hh6 := hkp6.cel HH5.out (fun hx => by have := foot_nil (.inl hx); omega)
  have ho6 : OwnBytes w6 b3 5 (some ⟨g5, 0, none⟩) n c5 (x :: xs) := hkp6.rowOwn HO5.out (fun i hi hx => by
    have h1 := foot_nil (.inl hx)
    have h2 : g5 = i := Option.some.inj hi
    omega)
  have hcx := own_head ho6
  have hfx := own_frozen ho6 0
  have hgl6 := Nat.lt_of_lt_of_le hgb hkp6.size
  obtain ⟨x1, hx1⟩ : ∃ y : UInt8, Go.bits .xor .u8 (x.toNat : Int) 1 = (y.toNat : Int) := ⟨_, xor1 x⟩
  obtain ⟨d0, d1, d2⟩ := cel3 hh6
  have hkg := set_kp w6 g5 0 (.int .u8 (x1.toNat : Int))
  have hnf : ∀ y, Foot q m6 l6 y → y ≠ g5 ∧ w.heap.size ≤ y := fun y hy => by
    rcases hft6 y hy with h | h
    · have := foot_nil h
      omega
    · have := HB5.out.size
      omega
  have hbk7 := hkg.bk hbk6 (fun y hy => (hnf y hy).1)
  have hb7 : Below w.heap.size w (w6.setCell ⟨g5, 0, none⟩ (.int .u8 (x1.toNat : Int))) := (HB5.out.trans hb6).setCell (p := ⟨g5, 0, none⟩) (by show w.heap.size ≤ g5; omega) _
  have hh7 := hkg.cel hh6 (by omega)
  have hlk0 := look_any q m6 l6 ⟨#[119]⟩ 1 key _ hbk7 (by decide)
  rw [hl6, look_one] at hlk0
  have HLK : Hid (Calls Try.prog 14 #[.pointer (some ⟨q, 0, none⟩), .agg #[.string ⟨#[119]⟩, .int .i64 1, .int .i64 key]] (w6.setCell ⟨g5, 0, none⟩ (.int .u8 (x1.toNat : Int))) fun e w' => ∃ A n c, e = .returned (.tuple #[.int .i64 1, .slice A n c]) ∧ OwnBytes w' (w6.setCell ⟨g5, 0, none⟩ (.int .u8 (x1.toNat : Int))).heap.size 5 A n c (x :: xs) ∧ Below (w6.setCell ⟨g5, 0, none⟩ (.int .u8 (x1.toNat : Int))).heap.size (w6.setCell ⟨g5, 0, none⟩ (.int .u8 (x1.toNat : Int))) w') := hlk0
  have HBK7 := Lib.hid hbk7
  have HB7 := Lib.hid hb7
  have HH7 := Lib.hid hh7
  have HNF := Lib.hid (fun y hy => (hnf y hy).2)
  have HQ7 := Lib.hid (show q + 1 < (w6.setCell ⟨g5, 0, none⟩ (.int .u8 (x1.toNat : Int))).heap.size by have := hh7.lt; exact this)
  clear hlk0 hbk7 hb7 hnf hkg hh6 hb6 ho6 hbk6 hkp6 hft6 HK HO5 HH5 HB5
  obtain ⟨e0, e1, e2⟩ := cel3 hh7
  clear hh7
  go_wp2_with fail
  have HX1 := Lib.hid hx1
  clear d0 d1 d2 e0 e1 e2 hcx hfx hgl6 hx1
  generalize w6.setCell _ _ = w7 at *
  (with_reducible refine HLK.out.mono ?_)
  rintro e w8 ⟨A8, n8, c8, rfl, ho8, hb8⟩
  obtain rfl : n8 = n := by have h1 := (own_bytes_row ho8).len; have h2 := HL.out; omega
  obtain ⟨g8, rfl, hg8a, hg8b⟩ := own_some ho8 hn1
  have hbk8 := HBK7.out.below hb8
  have HBK8 := Lib.hid hbk8
  have HB8 := Lib.hid (HB7.out.trans (hb8.mono HB7.out.size))
  have HH8 := Lib.hid (HH7.out.below hb8 (Nat.le_refl _))
  have HFT := Lib.hid (fun y (hy : Foot q m6 l6 y) => (⟨HNF.out y hy, HBK7.out.lt hy⟩ : w.heap.size ≤ y ∧ y < w7.heap.size))
  have HO8 := Lib.hid ho8
  have a8 := own_head ho8
  have f8 := own_frozen ho8 0
  have ac8 : w8.cell? ⟨ab, ao, none⟩ = some (.int .u8 (x.toNat : Int)) := (HB8.out.cell (p := ⟨ab, ao, none⟩) HAB.out).trans HAC.out
  have HQ8 := Lib.hid (Nat.lt_of_lt_of_le HQ7.out hb8.size)
  have HG8 := Lib.hid hg8a
  have hgz8 : w.heap.size ≤ w7.heap.size := HB7.out.size
  obtain ⟨d0, d1, d2⟩ := cel3 HH8.out
  clear hbk8 HBK7 HB7 HH7 HNF ho8 hb8 HLK
  generalize w7.heap.size = b7 at *
  go_upto_region 13 with (fail)
  go_quiet (fail)
  have hbd : Below w8.heap.size w8 (w8.drewN nq) := below_drewN (Below.refl w8.heap.size w8) nq
  have HBK9 := Lib.hid (HBK8.out.below hbd)
  have HB9 := Lib.hid (HB8.out.trans (hbd.mono HB8.out.size))
  have hh9 := HH8.out.below hbd (Nat.le_refl _)
  have HH9 := Lib.hid hh9
  have ho9 : OwnBytes (w8.drewN nq) b7 5 (some ⟨g8, 0, none⟩) n8 c8 (x :: xs) := own_below HO8.out hbd (Nat.le_refl _)
  have hg9 : g8 < (w8.drewN nq).heap.size := hg8b
  have HQ9 := Lib.hid (show q + 1 < (w8.drewN nq).heap.size from HQ8.out)
  clear d0 d1 d2 a8 f8 ac8 hbd HBK8 HB8 HH8 HO8 HQ8 hg8b
  have a9 := own_head ho9
  have f9 := own_frozen ho9 0
  obtain ⟨d0, d1, d2⟩ := cel3 hh9
  clear hh9 ho9
  go_upto_region 15 with (fail)
  generalize w8.drewN nq = w9 at *
  have hkg := set_kp w9 g8 0 (.int .u8 (x1.toNat : Int))
  have hbkA := hkg.bk HBK9.out (fun y hy e => by have := (HFT.out y hy).2; have := HG8.out; omega)
  have HAL := Lib.hid (all_any q m6 l6 _ hbkA)
  have HBKA := Lib.hid hbkA
  have HBA := Lib.hid (HB9.out.setCell (p := ⟨g8, 0, none⟩) (by show w.heap.size ≤ g8; have := HG8.out; omega) (.int .u8 (x1.toNat : Int)))
  have HHA := Lib.hid (hkg.cel HH9.out (by have := HG8.out; have := HQ7.out; omega))
  have hx1 := HX1.out
  have hszA : (w9.setCell ⟨g8, 0, none⟩ (.int .u8 (x1.toNat : Int))).heap.size = w9.heap.size := by simp
  have HFA := Lib.hid (fun y (hy : Foot q m6 l6 y) => HBKA.out.lt hy)
  clear hkg hbkA
  have HWA := Lib.hid (show w9.heap.size ≤ (w9.setCell ⟨g8, 0, none⟩ (.int .u8 (x1.toNat : Int))).heap.size by rw [hszA]; exact Nat.le_refl _)
  have HQA := Lib.hid (show q + 1 < (w9.setCell ⟨g8, 0, none⟩ (.int .u8 (x1.toNat : Int))).heap.size by rw [hszA]; exact HQ9.out)
  go_wp2_with fail
  clear d0 d1 d2 a9 f9 hg9 hszA hx1
  generalize w9.setCell _ _ = wA at *
  (with_reducible refine HAL.out.mono ?_)
  rintro e w10 ⟨A10, c10, ps, rfl, hab, hro, hpo, hb10⟩
  rw [hl6] at hab
  obtain ⟨p, rfl, hab2⟩ := map_single hab
  clear hab
  obtain ⟨wk, ic, ka, kc, ks, ra, rc, rs⟩ := p
  have hab : (⟨wk, ic, ks, rs.map Part.l⟩ : Ab) = ⟨⟨#[119]⟩, 1, [key], [x :: xs]⟩ := hab2
  injection hab with hw1 hi1 hk1 hr1
  subst hk1
  obtain ⟨rp, rfl, hr2⟩ := map_single hr1
  clear hr1
  obtain ⟨pa, pn, pc, pl⟩ := rp
  have hr2 : pl = x :: xs := hr2
  subst hr2
  have hpo := hpo _ (List.mem_singleton.2 rfl)
  have hrep := (hpo.rep _ (List.mem_singleton.2 rfl)).1
  have hkeys := hpo.keys
  have hrows := hpo.rows
  dsimp only [List.length_cons, List.length_nil, Pg.raw, List.map_cons, List.map_nil] at hrep hkeys hrows hro
  obtain rfl : pn = n8 := by have h1 := (own_bytes_row hrep).len; have h2 := HL.out; omega
  obtain ⟨gp, rfl, hgp1, hgp2⟩ := own_some hrep hn1
  obtain ⟨gk, rfl, hgk1, hgk2⟩ := own_one hkeys
  obtain ⟨gr, rfl, hgr1, hgr2⟩ := own_one hrows
  obtain ⟨ga, rfl, hga1, hga2⟩ := own_one hro
  have hca := cel_row4 hro
  have hck : w10.cell? ⟨gk, 0, none⟩ = some (.int .i64 key) := one_at hkeys rfl
  have hcr : w10.cell? ⟨gr, 0, none⟩ = some (.slice (some ⟨gp, 0, none⟩) pn pc) := one_at hrows rfl
  have hcp := own_head hrep
  have fk := own1_frozen hkeys.2 0
  have fp := own_frozen hrep 0
  obtain ⟨q0, q1, q2, q3⟩ := hca
  dsimp only [Pg.raw, List.length_cons, List.length_nil] at q2 q3
  obtain ⟨x3, hx3⟩ : ∃ y : UInt8, Go.bits .xor .u8 (x.toNat : Int) 3 = (y.toNat : Int) := ⟨_, xor3 x⟩
  have HX3 := Lib.hid hx3
  have HB10 := Lib.hid (HBA.out.trans (hb10.mono HBA.out.size))
  have HBK10 := Lib.hid (HBKA.out.below hb10)
  have HH10 := Lib.hid (HHA.out.below hb10 (Nat.le_refl _))
  have HGS := Lib.hid (And.intro hgp1 (And.intro hgk1 (And.intro (own_ne_type hrep hkeys.2 (by decide) rfl rfl) (own_ne_type hrep hro.2 (by decide) rfl rfl))))
  clear hrep hkeys hrows hro hpo hb10 HBA HBKA HHA hw1 hi1 HAL hx3
  go_upto_region 19 with (fail)
  have hx3 := HX3.out
  apply once
  case h =>
    intro ho
    go_region
    all_goals exact ho
  have hkp : Kp (fun y => y = gp) w10 (w10.setCell ⟨gp, 0, none⟩ (.int .u8 (x3.toNat : Int))).drew := (set_kp w10 gp 0 (.int .u8 (x3.toNat : Int))).past (Kp.of_below (fun _ => False) (Below.refl _ _).drew (Nat.le_refl _)) (fun _ _ h => h.elim)
  have hgs : gp ≠ gk ∧ gp ≠ ga := HGS.out.2.2
  have r2 : (w10.setCell ⟨gp, 0, none⟩ (.int .u8 (x3.toNat : Int))).drew.cell? ⟨ga, 2, none⟩ = some (.slice (some ⟨gk, 0, none⟩) 1 kc) := (hkp.cell (a := ⟨ga, 2, none⟩) hga2 (fun e => hgs.2 e.symm)).trans q2
  have rk : (w10.setCell ⟨gp, 0, none⟩ (.int .u8 (x3.toNat : Int))).drew.cell? ⟨gk, 0, none⟩ = some (.int .i64 key) := (hkp.cell (a := ⟨gk, 0, none⟩) hgk2 (fun e => hgs.1 e.symm)).trans hck
  have rf : (w10.setCell ⟨gp, 0, none⟩ (.int .u8 (x3.toNat : Int))).drew.frozen? ⟨gk, 0, none⟩ = false := (World.frozen?_of_block (a := ⟨gk, 0, none⟩) (hkp.block gk hgk2 (fun e => hgs.1 e.symm))).trans fk
  have rl : gk < (w10.setCell ⟨gp, 0, none⟩ (.int .u8 (x3.toNat : Int))).drew.heap.size := Nat.lt_of_lt_of_le hgk2 hkp.size
  have HBK11 := Lib.hid (hkp.bk HBK10.out (fun y hy e => by have h1 := HFA.out y hy; have h2 := HGS.out.1; omega))
  have HB11 := Lib.hid ((HB10.out.setCell (p := ⟨gp, 0, none⟩) (by show w.heap.size ≤ gp; have h2 := HGS.out.1; have h3 := HB9.out.size; have h4 := HWA.out; omega) (.int .u8 (x3.toNat : Int))).drew)
  have HH11 := Lib.hid (hkp.cel HH10.out (by have h2 := HGS.out.1; have h3 := HQA.out; omega))
  clear hkp hgs q0 q1 q2 q3 hck hcr hcp fk fp hx3 hga1 hga2 hgr1 hgr2 hgp1 hgp2 hgk2 HBK10 HB10 HH10
  generalize (w10.setCell _ _).drew = w11 at *
  have hkp := set_kp w11 gk 0 (.int .i64 (wrap64 (key + 1)))
  have hbk12 := hkp.bk HBK11.out (fun y hy e => by have h1 := HFA.out y hy; have h2 := HGS.out.2.1; omega)
  have hlk0 := look_any q m6 l6 ⟨#[119]⟩ 1 key _ hbk12 (by decide)
  rw [hl6, look_one] at hlk0
  have HLK : Hid (Calls Try.prog 14 #[.pointer (some ⟨q, 0, none⟩), .agg #[.string ⟨#[119]⟩, .int .i64 1, .int .i64 key]] (w11.setCell ⟨gk, 0, none⟩ (.int .i64 (wrap64 (key + 1)))) fun e w' => ∃ A n c, e = .returned (.tuple #[.int .i64 1, .slice A n c]) ∧ OwnBytes w' (w11.setCell ⟨gk, 0, none⟩ (.int .i64 (wrap64 (key + 1)))).heap.size 5 A n c (x :: xs) ∧ Below (w11.setCell ⟨gk, 0, none⟩ (.int .i64 (wrap64 (key + 1)))).heap.size (w11.setCell ⟨gk, 0, none⟩ (.int .i64 (wrap64 (key + 1)))) w') := hlk0
  have HB12 := Lib.hid (HB11.out.setCell (p := ⟨gk, 0, none⟩) (by show w.heap.size ≤ gk; have h2 := HGS.out.2.1; have h3 := HB9.out.size; have h4 := HWA.out; omega) (.int .i64 (wrap64 (key + 1))))
  have hh12 := hkp.cel HH11.out (by have h2 := HGS.out.2.1; have h3 := HQA.out; omega)
  obtain ⟨e0, e1, e2⟩ := cel3 hh12
  clear hkp hbk12 hlk0 hh12
  go_wp2_with fail
  clear e0 e1 e2 r2 rk rf rl
  generalize w11.setCell _ _ = w12 at *
  (with_reducible refine HLK.out.mono ?_)
  rintro e w13 ⟨A13, n13, c13, rfl, ho13, hb13⟩
  obtain rfl : n13 = pn := by have h1 := (own_bytes_row ho13).len; have h2 := HL.out; omega
  obtain ⟨g13, rfl, _, hg13⟩ := own_some ho13 hn1
  have hb := HB12.out.trans (hb13.mono HB12.out.size)
  have a13 := own_head ho13
  have ac13 : w13.cell? ⟨ab, ao, none⟩ = some (.int .u8 (x.toNat : Int)) := (hb.cell (p := ⟨ab, ao, none⟩) HAB.out).trans HAC.out
  have HBZ := Lib.hid hb
  clear ho13 hb13 hb HB12 HLK
  go_upto_region 22 with (fail)
  go_quiet (fail)
  go_wp2
  go_ret
  exact ⟨rfl, HBZ.out.trans ((below_drewN (Below.refl w13.heap.size w13) _).mono HBZ.out.size)⟩
end Go.Proofs.Ytfpennnbicclfaa
