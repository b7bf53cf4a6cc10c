/- A step that more than one order leads to: what follows is proved once. Package reach: From, To. Plain mathematics of the document's From: marks spread till nothing is new. -/
import Derived.Test.YtjdgloofdafebaaProg
import Derived.Test.YtjdgloofdafebaaQfY
namespace Go.Proofs.Ytjdgloofdafebaa

/-- What follows is proved once, however many orders come to it. -/
theorem once {A B : Prop} (h : A → B) (a : A) : B := h a
end Go.Proofs.Ytjdgloofdafebaa
namespace Go.Proofs.Ytjdgloofdafebaa
open Go.RowKit

namespace Pr
section
variable (s : ByteArray) (A : Option Addr) (n c : Nat) (F : Option Addr) (m d : Nat) (fl : List Fl)
theorem nxt_len' (n : Nat) (fl : List Fl) {m : Nat} (hm : m ≤ 100000) (u : Nat) : (nxt n fl m u).length ≤ 100000 := Nat.le_trans (nxt_len n fl m u) hm
theorem bck_len' (n : Nat) (fl : List Fl) {m : Nat} (hm : m ≤ 100000) (u : Nat) : (bck n fl m u).length ≤ 100000 := Nat.le_trans (bck_len n fl m u) hm
theorem MarksOut.after {n : Nat} {Q : Nat → Prop} {w w1 w' : World} {e : Ending} (hb : Below w.heap.size w w1) (h : MarksOut n Q w1 e w') : MarksOut n Q w e w' := by
  obtain ⟨⟨g, f, h1, h2, h3, h4⟩, h5⟩ := h
  exact ⟨⟨g, f, h1, h2, Nat.le_trans hb.size h3, h4⟩, hb.trans (h5.mono hb.size)⟩
set_option maxHeartbeats 800000 in
theorem rfrom_any (node : Int) (w : World) (hF : KRow Fl.κ w w.heap.size F m fl) (hn : n ≤ 100000) (hm : m ≤ 100000) :
    Calls Try.prog 16 #[.agg #[.string s, .slice A n c, .slice F m d], .int .i64 node] w (MarksOut n (Comes n (nxt n fl m) node) w) := by
  have hba : Below w.heap.size w (w.alloc (.cells #[.string s, .slice A n c, .slice F m d] 25)) := (Below.refl _ _).alloc (Nat.le_refl _) _
  have HC := Lib.hid (Cel.lit w #[.string s, .slice A n c, .slice F m d] 25)
  have HFa := Lib.hid ((hF.below hba (Nat.le_refl _)).mono hba.size)
  have HB := Lib.hid hba
  clear hF hba
  go_enter Try.func16, Try.ntmps16
  go_upto_region 1 with (fail)
  generalize w.alloc _ = wa at *
  obtain ⟨⟨z0, z1, z2⟩, _⟩ := tri_facts HC.out
  go_wp2_with fail
  refine (onward_any s A n c F m d fl wa HFa.out hn hm).mono ?_
  rintro e w1 ⟨⟨nb, B, rfl, hnx, _⟩, hb1⟩
  have HR := Lib.hid (reached_any nb B w1.heap.size n (nxt n fl m) node w1 hnx (Nat.le_refl _) hn (nxt_len' n fl hm) (fun u v h => (nxt_lt h).2))
  have HB1 := Lib.hid (HB.out.trans (hb1.mono HB.out.size))
  clear hnx hb1 z0 z1 z2
  go_wp2_with fail
  refine HR.out.mono ?_
  rintro e w2 ⟨⟨g, f, rfl, h2, h3, h4⟩, h5⟩
  have HF : Hid (MarksOut n (Comes n (nxt n fl m) node) w (.returned (.slice (some ⟨g, 0, none⟩) n n)) w2) := MarksOut.after HB1.out ⟨⟨g, f, rfl, h2, h3, h4⟩, h5⟩
  clear h2 h3 h4 h5
  go_wp2
  go_ret
  exact HF.out
set_option maxHeartbeats 800000 in
theorem rto_any (node : Int) (w : World) (hF : KRow Fl.κ w w.heap.size F m fl) (hn : n ≤ 100000) (hm : m ≤ 100000) :
    Calls Try.prog 18 #[.agg #[.string s, .slice A n c, .slice F m d], .int .i64 node] w (MarksOut n (Comes n (bck n fl m) node) w) := by
  have hba : Below w.heap.size w (w.alloc (.cells #[.string s, .slice A n c, .slice F m d] 25)) := (Below.refl _ _).alloc (Nat.le_refl _) _
  have HC := Lib.hid (Cel.lit w #[.string s, .slice A n c, .slice F m d] 25)
  have HFa := Lib.hid ((hF.below hba (Nat.le_refl _)).mono hba.size)
  have HB := Lib.hid hba
  clear hF hba
  go_enter Try.func18, Try.ntmps18
  go_upto_region 1 with (fail)
  generalize w.alloc _ = wa at *
  obtain ⟨⟨z0, z1, z2⟩, _⟩ := tri_facts HC.out
  go_wp2_with fail
  refine (backward_any s A n c F m d fl wa HFa.out hn hm).mono ?_
  rintro e w1 ⟨⟨nb, B, rfl, hnx, _⟩, hb1⟩
  have HR := Lib.hid (reached_any nb B w1.heap.size n (bck n fl m) node w1 hnx (Nat.le_refl _) hn (bck_len' n fl hm) (fun u v h => (bck_lt h).2))
  have HB1 := Lib.hid (HB.out.trans (hb1.mono HB.out.size))
  clear hnx hb1 z0 z1 z2
  go_wp2_with fail
  refine HR.out.mono ?_
  rintro e w2 ⟨⟨g, f, rfl, h2, h3, h4⟩, h5⟩
  have HF : Hid (MarksOut n (Comes n (bck n fl m) node) w (.returned (.slice (some ⟨g, 0, none⟩) n n)) w2) := MarksOut.after HB1.out ⟨⟨g, f, rfl, h2, h3, h4⟩, h5⟩
  clear h2 h3 h4 h5
  go_wp2
  go_ret
  exact HF.out
end
end Pr
end Go.Proofs.Ytjdgloofdafebaa
namespace Go.Proofs.Ytjdgloofdafebaa
open Go.RowKit

namespace Pr
/-- Of the first j flows none leads from what is come to, to what is not. -/
def Shut (n : Nat) (fl : List Fl) (a : Nat) (f : Nat → Bool) (j : Nat) : Prop := ∀ i, i < j → okF n fl[i]! = true → ((fl[i]!).frm = (a : Int) ∨ f (fl[i]!).frm.toNat = true) → f (fl[i]!).til.toNat = true
/-- What is marked is come to. -/
def Sound (n : Nat) (fl : List Fl) (a : Nat) (f : Nat → Bool) : Prop := ∀ v, f v = true → v < n ∧ Rc.Way (nxt n fl fl.length) a v
section
variable {n a j x y : Nat} {fl : List Fl} {f : Nat → Bool}
theorem Shut.zero : Shut n fl a f 0 := fun i h => absurd h (Nat.not_lt_zero i)
theorem Shut.skip (h : Shut n fl a f j) (hs : okF n fl[j]! = false ∨ ¬ ((fl[j]!).frm = (a : Int) ∨ f (fl[j]!).frm.toNat = true) ∨ f (fl[j]!).til.toNat = true) : Shut n fl a f (j + 1) := by
  intro i hi h1 h2
  rcases Nat.lt_or_ge i j with h3 | h3
  · exact h i h3 h1 h2
  · obtain rfl : i = j := by omega
    rcases hs with h4 | h4 | h4
    · rw [h4] at h1; cases h1
    · exact absurd h2 h4
    · exact h4
theorem nxt_of {i : Nat} (hi : i < fl.length) (h1 : okF n fl[i]! = true) (hx : (fl[i]!).frm = (x : Int)) (hy : (fl[i]!).til = (y : Int)) : y ∈ nxt n fl fl.length x := by
  refine nxt_mem.2 ⟨fl[i]!, ?_, h1, hx, hy⟩
  rw [List.take_length, getElem!_pos fl i hi]
  exact List.getElem_mem hi
theorem Sound.step (h : Sound n fl a f) {i : Nat} (hi : i < fl.length) (h1 : okF n fl[i]! = true) (hx : (fl[i]!).frm = (x : Int)) (hy : (fl[i]!).til = (y : Int)) (h2 : x = a ∨ f x = true) : Sound n fl a (Rc.mark f y) := by
  intro v hv
  rcases Rc.mark_or hv with rfl | hv
  · obtain ⟨p, q, hp, hq, _, hqn⟩ := okF_iff.1 h1
    refine ⟨by omega, ?_⟩
    have hm := nxt_of hi h1 hx hy
    rcases h2 with e | e
    · exact .one (e ▸ hm)
    · exact .more (h x e).2 hm
  · exact h v hv
theorem Shut.all (h : Shut n fl a f fl.length) {v : Nat} (hw : Rc.Way (nxt n fl fl.length) a v) : f v = true := by
  have key : ∀ {u v : Nat}, v ∈ nxt n fl fl.length u → (u = a ∨ f u = true) → f v = true := by
    intro u v hv hu
    obtain ⟨g, hg, h1, h2, h3⟩ := nxt_mem.1 hv
    rw [List.take_length] at hg
    obtain ⟨i, hi⟩ := List.getElem?_of_mem hg
    obtain ⟨hi1, hi2⟩ := List.getElem?_eq_some_iff.1 hi
    have e : fl[i]! = g := by rw [getElem!_pos fl i hi1]; exact hi2
    have := h i hi1 (by rw [e]; exact h1) (by rw [e, h2]; rcases hu with rfl | hu
                                              · exact .inl rfl
                                              · exact .inr (by simpa using hu))
    rw [e, h3] at this
    simpa using this
  induction hw with
  | one h1 => exact key h1 (.inl rfl)
  | more _ h2 ih => exact key h2 (.inr ih)
theorem Shut.comes (h : Shut n fl a f fl.length) (hs : Sound n fl a f) (ha : a < n) (v : Nat) : f v = true ↔ Comes n (nxt n fl fl.length) (a : Int) v :=
  ⟨fun h1 => ⟨a, rfl, ha, (hs v h1).2⟩, fun ⟨b, e, _, h1⟩ => h.all (by rwa [show a = b by omega])⟩
end
end Pr
end Go.Proofs.Ytjdgloofdafebaa
