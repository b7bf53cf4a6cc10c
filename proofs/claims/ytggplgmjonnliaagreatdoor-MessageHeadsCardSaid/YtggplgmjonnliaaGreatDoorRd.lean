/- Walks of package num: a Reader, step by step. -/
import Derived.Test.YtggplgmjonnliaaGreatDoorNum
import Derived.Test.YtggplgmjonnliaaGreatDoorApp
import Derived.Test.YtggplgmjonnliaaGreatDoorClone
import Derived.Test.YtggplgmjonnliaaGreatDoorErr
namespace Go.Proofs.YtggplgmjonnliaaGreatDoor
open Go.RowKit

/-- The four sentinels that a Reader tells. -/
structure RdErrs (W : World) (E : Int → Option Addr) : Prop where
  e101 : ErrIn W E 101 4
  e102 : ErrIn W E 102 1
  e105 : ErrIn W E 105 0
  e107 : ErrIn W E 107 3
theorem RdErrs.at101 {W w : World} {E : Int → Option Addr} (h : RdErrs W E) (hb : Below W.heap.size W w) : ErrIn w E 101 4 := h.e101.below hb
theorem RdErrs.at102 {W w : World} {E : Int → Option Addr} (h : RdErrs W E) (hb : Below W.heap.size W w) : ErrIn w E 102 1 := h.e102.below hb
theorem RdErrs.at105 {W w : World} {E : Int → Option Addr} (h : RdErrs W E) (hb : Below W.heap.size W w) : ErrIn w E 105 0 := h.e105.below hb
theorem RdErrs.at107 {W w : World} {E : Int → Option Addr} (h : RdErrs W E) (hb : Below W.heap.size W w) : ErrIn w E 107 3 := h.e107.below hb
/-- The program's Reader lies in block p: the bytes that are left, the error (as its number; 0: none). -/
structure RdC (E : Int → Option Addr) (w : World) (p : Nat) (l : List UInt8) (e : Int) : Prop where
  ex : ∃ A n c ev, w.cell? ⟨p, 0, none⟩ = some (.slice A n c) ∧ w.cell? ⟨p, 1, none⟩ = some ev ∧ w.frozen? ⟨p, 0, none⟩ = false ∧ w.frozen? ⟨p, 1, none⟩ = false ∧
    Bytes w w.heap.size A n l ∧ (A = none → n = 0 ∧ c = 0) ∧ n ≤ c ∧ c ≤ maxLen ∧ (∀ a, A = some a → a.block < p) ∧ SeenBy E ev e

/-- The document's; its bytes lie below block B. -/
structure RdD (w : World) (B p : Nat) (l : List UInt8) (e : Int) : Prop where
  ex : ∃ A n c, w.cell? ⟨p, 0, none⟩ = some (.slice A n c) ∧ w.cell? ⟨p, 1, none⟩ = some (.int .i64 e) ∧ w.frozen? ⟨p, 0, none⟩ = false ∧ w.frozen? ⟨p, 1, none⟩ = false ∧
    Bytes w w.heap.size A n l ∧ (A = none → n = 0 ∧ c = 0) ∧ n ≤ c ∧ c ≤ maxLen ∧ (0 < n → ∀ a, A = some a → a.block < B)
  low : B ≤ p

theorem RdC.lt {E : Int → Option Addr} {w : World} {p : Nat} {l : List UInt8} {e : Int} (h : RdC E w p l e) : p < w.heap.size := by
  obtain ⟨A, n, c, ev, h0, _⟩ := h.ex
  exact cell_lt h0
theorem RdD.lt {w : World} {B p : Nat} {l : List UInt8} {e : Int} (h : RdD w B p l e) : p < w.heap.size := by
  obtain ⟨A, n, c, h0, _⟩ := h.ex
  exact cell_lt h0

/-- What 'next' answers, and what is then left. -/
def nextOf (l : List UInt8) (e : Int) : Int × List UInt8 × Int :=
  if e ≠ 0 then (0, l, e) else match l with
    | [] => (0, [], 101)
    | x :: t => (x.toNat, t, 0)

/-- One of its two cells is written. -/
theorem RdC.set0 {E : Int → Option Addr} {w : World} {p : Nat} {l' : List UInt8} {e : Int} {v0 ev : Value} {A' : Option Addr} {n' c' : Nat} (h0 : w.cell? ⟨p, 0, none⟩ = some v0) (h1 : w.cell? ⟨p, 1, none⟩ = some ev) (f0 : w.frozen? ⟨p, 0, none⟩ = false) (f1 : w.frozen? ⟨p, 1, none⟩ = false)
    (hr : Bytes w w.heap.size A' n' l') (hA : A' = none → n' = 0 ∧ c' = 0) (hn : n' ≤ c') (hc : c' ≤ maxLen) (ha : ∀ a, A' = some a → a.block < p) (hs : SeenBy E ev e) : RdC E (w.setCell ⟨p, 0, none⟩ (.slice A' n' c')) p l' e :=
  ⟨A', n', c', ev, World.cell?_setCell_same _ _ _ h0, (World.cell?_setCell_other _ _ _ _ (by simp)).trans h1, by simpa using f0, by simpa using f1,
    bytes_kept hr (grown_setCell _ _ _) (fun _ a h e => Nat.ne_of_lt (ha a h) (Option.some.inj e).symm), hA, hn, hc, ha, hs⟩
theorem RdC.set1 {E : Int → Option Addr} {w : World} {p : Nat} {l' : List UInt8} {e : Int} {v1 ev : Value} {A' : Option Addr} {n' c' : Nat} (h0 : w.cell? ⟨p, 0, none⟩ = some (.slice A' n' c')) (h1 : w.cell? ⟨p, 1, none⟩ = some v1) (f0 : w.frozen? ⟨p, 0, none⟩ = false) (f1 : w.frozen? ⟨p, 1, none⟩ = false)
    (hr : Bytes w w.heap.size A' n' l') (hA : A' = none → n' = 0 ∧ c' = 0) (hn : n' ≤ c') (hc : c' ≤ maxLen) (ha : ∀ a, A' = some a → a.block < p) (hs : SeenBy E ev e) : RdC E (w.setCell ⟨p, 1, none⟩ ev) p l' e :=
  ⟨A', n', c', ev, (World.cell?_setCell_other _ _ _ _ (by simp)).trans h0, World.cell?_setCell_same _ _ _ h1, by simpa using f0, by simpa using f1,
    bytes_kept hr (grown_setCell _ _ _) (fun _ a h e => Nat.ne_of_lt (ha a h) (Option.some.inj e).symm), hA, hn, hc, ha, hs⟩
theorem RdD.set0 {w : World} {B p : Nat} {l' : List UInt8} {e : Int} {v0 : Value} {A' : Option Addr} {n' c' : Nat} (h0 : w.cell? ⟨p, 0, none⟩ = some v0) (h1 : w.cell? ⟨p, 1, none⟩ = some (.int .i64 e)) (f0 : w.frozen? ⟨p, 0, none⟩ = false) (f1 : w.frozen? ⟨p, 1, none⟩ = false)
    (hr : Bytes w w.heap.size A' n' l') (hA : A' = none → n' = 0 ∧ c' = 0) (hn : n' ≤ c') (hc : c' ≤ maxLen) (ha : 0 < n' → ∀ a, A' = some a → a.block < B) (hB : B ≤ p) : RdD (w.setCell ⟨p, 0, none⟩ (.slice A' n' c')) B p l' e :=
  ⟨⟨A', n', c', World.cell?_setCell_same _ _ _ h0, (World.cell?_setCell_other _ _ _ _ (by simp)).trans h1, by simpa using f0, by simpa using f1,
    bytes_kept hr (grown_setCell _ _ _) (fun hn a h e => Nat.ne_of_lt (Nat.lt_of_lt_of_le (ha hn a h) hB) (Option.some.inj e).symm), hA, hn, hc, ha⟩, hB⟩
theorem RdD.set1 {w : World} {B p : Nat} {l' : List UInt8} {e : Int} {v1 : Value} {A' : Option Addr} {n' c' : Nat} (h0 : w.cell? ⟨p, 0, none⟩ = some (.slice A' n' c')) (h1 : w.cell? ⟨p, 1, none⟩ = some v1) (f0 : w.frozen? ⟨p, 0, none⟩ = false) (f1 : w.frozen? ⟨p, 1, none⟩ = false)
    (hr : Bytes w w.heap.size A' n' l') (hA : A' = none → n' = 0 ∧ c' = 0) (hn : n' ≤ c') (hc : c' ≤ maxLen) (ha : 0 < n' → ∀ a, A' = some a → a.block < B) (hB : B ≤ p) : RdD (w.setCell ⟨p, 1, none⟩ (.int .i64 e)) B p l' e :=
  ⟨⟨A', n', c', (World.cell?_setCell_other _ _ _ _ (by simp)).trans h0, World.cell?_setCell_same _ _ _ h1, by simpa using f0, by simpa using f1,
    bytes_kept hr (grown_setCell _ _ _) (fun hn a h e => Nat.ne_of_lt (Nat.lt_of_lt_of_le (ha hn a h) hB) (Option.some.inj e).symm), hA, hn, hc, ha⟩, hB⟩

theorem RdC.kept {E : Int → Option Addr} {w w' : World} {p : Nat} {l : List UInt8} {e : Int} {row : Option Nat} (h : RdC E w p l e) (hg : w.grownBy w' row) (h1 : ∀ b, b ≤ p → row ≠ some b) : RdC E w' p l e := by
  obtain ⟨A, n, c, ev, h0, h2, f0, f1, hr, hA, hnc, hc, ha, hs⟩ := h.ex
  have hlt := h.lt
  have hblk := hg.block p hlt (fun e => h1 p (Nat.le_refl _) e.symm)
  exact ⟨A, n, c, ev, (World.cell?_of_block (a := ⟨p, 0, none⟩) hblk).trans h0, (World.cell?_of_block (a := ⟨p, 1, none⟩) hblk).trans h2, (World.frozen?_of_block (a := ⟨p, 0, none⟩) hblk).trans f0, (World.frozen?_of_block (a := ⟨p, 1, none⟩) hblk).trans f1,
    bytes_kept hr hg (fun _ a e => h1 _ (Nat.le_of_lt (ha a e))), hA, hnc, hc, ha, hs⟩
theorem RdC.below {E : Int → Option Addr} {w w' : World} {p : Nat} {l : List UInt8} {e : Int} (h : RdC E w p l e) (hb : Below w.heap.size w w') : RdC E w' p l e :=
  h.kept (row := none) ⟨hb.os, hb.tape, hb.output, hb.size, fun k hk _ => hb.block k hk⟩ (fun _ _ h => by cases h)
theorem RdC.drew {E : Int → Option Addr} {w : World} {p : Nat} {l : List UInt8} {e : Int} (h : RdC E w p l e) : RdC E w.drew p l e := h.kept (grown_drew w none) (fun _ _ h => by cases h)
theorem RdD.kept {w w' : World} {B p : Nat} {l : List UInt8} {e : Int} {row : Option Nat} (h : RdD w B p l e) (hg : w.grownBy w' row) (h1 : row ≠ some p) (h3 : ∀ b, b < B → row ≠ some b) : RdD w' B p l e := by
  obtain ⟨A, n, c, h0, h2, f0, f1, hr, hA, hnc, hc, ha⟩ := h.ex
  have hlt := h.lt
  have hblk := hg.block p hlt (fun e => h1 e.symm)
  exact ⟨⟨A, n, c, (World.cell?_of_block (a := ⟨p, 0, none⟩) hblk).trans h0, (World.cell?_of_block (a := ⟨p, 1, none⟩) hblk).trans h2, (World.frozen?_of_block (a := ⟨p, 0, none⟩) hblk).trans f0, (World.frozen?_of_block (a := ⟨p, 1, none⟩) hblk).trans f1,
    bytes_kept hr hg (fun hn a e => h3 _ (ha hn a e)), hA, hnc, hc, ha⟩, h.low⟩
theorem RdD.below {w w' : World} {B p : Nat} {l : List UInt8} {e : Int} (h : RdD w B p l e) (hb : Below w.heap.size w w') : RdD w' B p l e :=
  h.kept (row := none) ⟨hb.os, hb.tape, hb.output, hb.size, fun k hk _ => hb.block k hk⟩ (fun h => by cases h) (fun _ _ h => by cases h)

theorem RdD.drew {w : World} {B p : Nat} {l : List UInt8} {e : Int} (h : RdD w B p l e) : RdD w.drew B p l e := h.kept (grown_drew w none) (fun h => by cases h) (fun _ _ h => by cases h)
section
variable {E : Int → Option Addr} {W w : World} {p : Nat} {l : List UInt8} {e : Int}
set_option maxHeartbeats 800000 in
theorem next_any (hE : RdErrs W E) (hb : Below W.heap.size W w) (hR : RdC E w p l e) :
    Calls Tryz.prog 69 #[.pointer (some ⟨p, 0, none⟩)] w fun x w' => x = .returned (.int .u8 (nextOf l e).1) ∧ RdC E w' p (nextOf l e).2.1 (nextOf l e).2.2 ∧ w.grownBy w' (some p) := by
  obtain ⟨A, n, c, ev, h0, h1, f0, f1, hr, hA, hnc, hc, ha, hs⟩ := hR.ex
  have hln := hr.len
  by_cases he : e = 0
  · subst he
    obtain rfl := seen_nil hs
    cases l with
    | nil =>
      obtain rfl : 0 = n := hln
      obtain ⟨a, hka, hg⟩ := hE.at101 (hb)
      unfold errV at hg
      go_enter Tryz.func69, Tryz.ntmps69
      go_wp2
      go_ret
      exact ⟨rfl, RdC.set1 h0 h1 f0 f1 hr (fun h => ⟨rfl, (hA h).2⟩) hnc hc ha (SeenBy.err 101 a hka (by decide)), grown_setCell _ _ _⟩
    | cons x t =>
      obtain ⟨b, off, rfl, hbb, hcx⟩ := hr.at_ (k := 0) (by simp at hln; omega)
      simp only [List.getElem_cons_zero, Nat.add_zero] at hcx
      have hbp' := ha _ rfl
      have hbp : b ≠ p := Nat.ne_of_lt hbp'
      simp only [List.length_cons] at hln
      have hr' : Bytes w w.heap.size (some ⟨b, off + 1, none⟩) (n - 1) t := hr.back (k := 1) (by omega)
      by_cases hc1 : c = 1
      · subst hc1
        obtain rfl : t = [] := List.eq_nil_of_length_eq_zero (by omega)
        go_enter Tryz.func69, Tryz.ntmps69
        go_wp2
        go_ret
        refine ⟨rfl, RdC.set0 h0 h1 f0 f1 ?_ (fun h => by cases h) (by omega) (by unfold maxLen; omega) ha hs, grown_setCell _ _ _⟩
        exact Bytes.nil _ _ _
      · go_enter Tryz.func69, Tryz.ntmps69
        go_wp2
        go_ret
        exact ⟨rfl, RdC.set0 h0 h1 f0 f1 hr' (fun h => by cases h) (by omega) (by omega) (fun a h => by cases h; exact hbp') hs, grown_setCell _ _ _⟩
  · obtain ⟨a, rfl⟩ := seen_not hs he
    unfold errV at *
    rw [show nextOf l e = (0, l, e) from by simp [nextOf, he]]
    go_enter Tryz.func69, Tryz.ntmps69
    go_wp2
    go_ret
    exact ⟨rfl, hR, World.grownBy.refl _ _⟩
theorem next_nil (hE : RdErrs W E) (hb : Below W.heap.size W w) (hR : RdC E w p [] 0) :
    Calls Tryz.prog 69 #[.pointer (some ⟨p, 0, none⟩)] w fun x w' => x = .returned (.int .u8 0) ∧ RdC E w' p [] 101 ∧ w.grownBy w' (some p) := by
  have := next_any hE hb hR
  simpa only [nextOf, ne_eq, not_true_eq_false, if_false] using this
theorem next_cons {x : UInt8} {t : List UInt8} (hE : RdErrs W E) (hb : Below W.heap.size W w) (hR : RdC E w p (x :: t) 0) :
    Calls Tryz.prog 69 #[.pointer (some ⟨p, 0, none⟩)] w fun y w' => y = .returned (.int .u8 (x.toNat : Int)) ∧ RdC E w' p t 0 ∧ w.grownBy w' (some p) := by
  have := next_any hE hb hR
  simpa only [nextOf, ne_eq, not_true_eq_false, if_false] using this
theorem next_err (he : e ≠ 0) (hE : RdErrs W E) (hb : Below W.heap.size W w) (hR : RdC E w p l e) :
    Calls Tryz.prog 69 #[.pointer (some ⟨p, 0, none⟩)] w fun y w' => y = .returned (.int .u8 0) ∧ RdC E w' p l e ∧ w.grownBy w' (some p) := by
  have := next_any hE hb hR
  simpa only [nextOf, ne_eq, he, not_false_eq_true, if_true] using this
end
end Go.Proofs.YtggplgmjonnliaaGreatDoor
