/- Walks of package vars: take, Take. -/
import Derived.Test.YthkgjdhbibialaaDoorVh
import Derived.Test.YthkgjdhbibialaaDoorRk
import Derived.Test.YthkgjdhbibialaaDoorVq
namespace Go.Proofs.YthkgjdhbibialaaDoor
open Go.RowKit

namespace Vr
/-- The next variable, what is then left, the error. -/
def takeV (bl : List UInt8) (e : Int) : V × List UInt8 × Int :=
  let a := textSays 24 bl e
  let b := intSays 1 3 a.2.1 a.2.2
  let c := intSays (-9223372036854775808) 9223372036854775807 b.2.1 b.2.2
  let d := textSays 60 c.2.1 c.2.2
  (⟨⟨a.1.toArray⟩, b.1, c.1, ⟨d.1.toArray⟩⟩, d.2)
def takeN : Nat → List UInt8 × Int → List V × List UInt8 × Int
  | 0, s => ([], s)
  | k + 1, s => ((takeN k s).1 ++ [(takeV (takeN k s).2.1 (takeN k s).2.2).1], (takeV (takeN k s).2.1 (takeN k s).2.2).2)
def takeAll (bl : List UInt8) (e : Int) : List V × List UInt8 × Int :=
  let r := takeN (intSays 0 12 bl e).1.toNat (intSays 0 12 bl e).2
  if r.2.2 = 0 then r else ([], r.2)
theorem takeN_len (k : Nat) (s : List UInt8 × Int) : (takeN k s).1.length = k := by
  induction k with
  | zero => rfl
  | succ k ih => simp [takeN, ih]
end Vr

/-- A variable in a block of its own, which is known whole. -/
def Blk4 (w : World) (b : Nat) (v : Vr.V) : Prop := w.heap[b]? = some (.cells #[.string v.name, .int .i64 v.kind, .int .i64 v.num, .string v.text] 45 (0, 0))
section
variable {w w' : World} {b : Nat} {v : Vr.V}
theorem Blk4.lt (h : Blk4 w b v) : b < w.heap.size := by
  rcases Nat.lt_or_ge b w.heap.size with h' | h'
  · exact h'
  · unfold Blk4 at h; rw [Array.getElem?_eq_none h'] at h; cases h
theorem Blk4.cell (h : Blk4 w b v) (i : Nat) : w.cell? ⟨b, i, none⟩ = (#[.string v.name, .int .i64 v.kind, .int .i64 v.num, .string v.text] : Array Value)[i]? := cell_of_row w b i _ _ (0, 0) h
theorem Blk4.frozen (h : Blk4 w b v) (i : Nat) : w.frozen? ⟨b, i, none⟩ = false := by unfold World.frozen?; rw [h]; rfl
theorem Blk4.new (w : World) (v : Vr.V) : Blk4 (w.alloc (.cells #[.string v.name, .int .i64 v.kind, .int .i64 v.num, .string v.text] 45)) w.heap.size v := heap_alloc_new w _
theorem Blk4.grown {row : Option Nat} (h : Blk4 w b v) (hg : w.grownBy w' row) (hr : row ≠ some b) : Blk4 w' b v := (hg.block b h.lt (fun e => hr e.symm)).trans h
theorem Blk4.set0 (h : Blk4 w b v) (s : ByteArray) : Blk4 (w.setCell ⟨b, 0, none⟩ (.string s)) b { v with name := s } := by
  unfold Blk4 at h ⊢
  simp [World.setCell, Array.getElem?_modify, h]
theorem Blk4.set1 (h : Blk4 w b v) (x : Int) : Blk4 (w.setCell ⟨b, 1, none⟩ (.int .i64 x)) b { v with kind := x } := by
  unfold Blk4 at h ⊢
  simp [World.setCell, Array.getElem?_modify, h]
theorem Blk4.set2 (h : Blk4 w b v) (x : Int) : Blk4 (w.setCell ⟨b, 2, none⟩ (.int .i64 x)) b { v with num := x } := by
  unfold Blk4 at h ⊢
  simp [World.setCell, Array.getElem?_modify, h]
theorem Blk4.set3 (h : Blk4 w b v) (s : ByteArray) : Blk4 (w.setCell ⟨b, 3, none⟩ (.string s)) b { v with text := s } := by
  unfold Blk4 at h ⊢
  simp [World.setCell, Array.getElem?_modify, h]
theorem grown_setNew {W : World} {row : Option Nat} (hg : W.grownBy w row) {q : Addr} (hq : W.heap.size ≤ q.block) (u : Value) : W.grownBy (w.setCell q u) row :=
  have h := (Below.refl 0 w).setCell (Nat.zero_le q.block) u
  ⟨h.os.trans hg.os, h.tape.trans hg.tape, h.output.trans hg.output, Nat.le_trans hg.size h.size, fun k hk hne => (Below.heap_setCell w q u k (by omega)).trans (hg.block k hk hne)⟩
theorem grown_allocNew {W : World} {row : Option Nat} (hg : W.grownBy w row) (o : Obj) : W.grownBy (w.alloc o) row := hg.trans (grown_alloc _ _ _)
end

section
variable {E : Int → Option Addr} {W w : World} {p : Nat} {bl : List UInt8} {e : Int}
set_option maxRecDepth 10000 in
set_option maxHeartbeats 4000000 in
theorem take_any (hE : RdErrs W E) (hb : Below W.heap.size W w) (hp : W.heap.size ≤ p) (hR : RdC E w p bl e) :
    Calls Tryd.prog 49 #[.pointer (some ⟨p, 0, none⟩)] w fun x w' => x = .returned (Vr.takeV bl e).1.val ∧ RdC E w' p (Vr.takeV bl e).2.1 (Vr.takeV bl e).2.2 ∧ w.grownBy w' (some p) := by
  have hgr : ∀ {w1 : World}, w.grownBy w1 (some p) → Below W.heap.size W w1 := fun hg => hb.grown hg hb.size (fun k hk => by cases hk; exact hp)
  have hpl := hR.lt
  have hg2 : w.grownBy ((w.alloc (.cells #[.string ⟨#[]⟩, .int .i64 0, .int .i64 0, .string ⟨#[]⟩] 45)).alloc (.cells #[.string ⟨#[]⟩, .int .i64 0, .int .i64 0, .string ⟨#[]⟩] 45)) (some p) := grown_allocNew (grown_alloc w _ _) _
  have hR2 := hR.below (((Below.refl w.heap.size w).alloc (Nat.le_refl _) (.cells #[.string ⟨#[]⟩, .int .i64 0, .int .i64 0, .string ⟨#[]⟩] 45)).alloc (by simp) (.cells #[.string ⟨#[]⟩, .int .i64 0, .int .i64 0, .string ⟨#[]⟩] 45))
  have k0 : Blk4 ((w.alloc (.cells #[.string ⟨#[]⟩, .int .i64 0, .int .i64 0, .string ⟨#[]⟩] 45)).alloc (.cells #[.string ⟨#[]⟩, .int .i64 0, .int .i64 0, .string ⟨#[]⟩] 45)) w.heap.size default := (Blk4.new w default).grown (grown_alloc _ _ none) (by simp)
  have k1 : Blk4 ((w.alloc (.cells #[.string ⟨#[]⟩, .int .i64 0, .int .i64 0, .string ⟨#[]⟩] 45)).alloc (.cells #[.string ⟨#[]⟩, .int .i64 0, .int .i64 0, .string ⟨#[]⟩] 45)) (w.heap.size + 1) default := by
    have := Blk4.new (w.alloc (.cells #[.string ⟨#[]⟩, .int .i64 0, .int .i64 0, .string ⟨#[]⟩] 45)) default
    rwa [World.size_alloc] at this
  obtain ⟨z, hz⟩ : ∃ z, z = Vr.takeV bl e := ⟨_, rfl⟩
  have HZ := Lib.hid hz
  rw [← hz]
  clear hz
  unfold Vr.takeV at HZ
  go_enter Tryd.func49, Tryd.ntmps49
  go_wp2_with fail
  generalize (w.alloc (.cells #[.string ⟨#[]⟩, .int .i64 0, .int .i64 0, .string ⟨#[]⟩] 45)).alloc (.cells #[.string ⟨#[]⟩, .int .i64 0, .int .i64 0, .string ⟨#[]⟩] 45) = w2 at *
  obtain ⟨q0, hq0⟩ : ∃ q0, w.heap.size = q0 := ⟨_, rfl⟩
  rw [hq0]
  rw [hq0] at k0 k1 hpl
  have HQ := Lib.hid hq0
  clear hq0
  obtain ⟨a, ha⟩ : ∃ a, a = textSays 24 bl e := ⟨_, rfl⟩
  have hT := text_any 24 hE (hgr hg2) hp hR2
  rw [← ha] at hT
  have HA := Lib.hid ha
  clear ha
  go_wp2_with fail
  refine hT.mono ?_
  rintro x w3 ⟨rfl, hR3, hg3⟩
  have hg3' := hg2.trans hg3
  have k0 := k0.grown hg3 (by intro e; have := Option.some.inj e; omega)
  have k1 := k1.grown hg3 (by intro e; have := Option.some.inj e; omega)
  clear hT hR2 hg2 hg3
  have m0 := k1.cell 0
  have f0 := k1.frozen 0
  simp only [List.getElem?_toArray, List.getElem?_cons_zero] at m0
  go_upto_region 3 with (fail)
  have hR3' := hR3.kept (grown_setCell w3 ⟨q0 + 1, 0, none⟩ (.string ⟨a.1.toArray⟩)) (fun b hb e => by have := Option.some.inj e; simp only at this; omega)
  have hg3s := grown_setNew hg3' (q := ⟨q0 + 1, 0, none⟩) (by rw [HQ.out]; simp) (.string ⟨a.1.toArray⟩)
  have k0 := k0.grown (grown_setCell w3 ⟨q0 + 1, 0, none⟩ (.string ⟨a.1.toArray⟩)) (by intro e; have := Option.some.inj e; simp only at this; omega)
  have k1 := k1.set0 ⟨a.1.toArray⟩
  clear m0 f0 hR3 hg3'
  generalize w3.setCell ⟨q0 + 1, 0, none⟩ (.string ⟨a.1.toArray⟩) = w3s at *
  obtain ⟨b, hbq⟩ : ∃ b, b = intSays 1 3 a.2.1 a.2.2 := ⟨_, rfl⟩
  have hT := int_any 1 3 hE (hgr hg3s) hp hR3'
  rw [← hbq] at hT
  have HB := Lib.hid hbq
  clear hbq
  go_wp2_with fail
  refine hT.mono ?_
  rintro x w4 ⟨rfl, hR4, hg4⟩
  have hg4' := hg3s.trans hg4
  have k0 := k0.grown hg4 (by intro e; have := Option.some.inj e; omega)
  have k1 := k1.grown hg4 (by intro e; have := Option.some.inj e; omega)
  clear hT hR3' hg3s hg4
  have m0 := k1.cell 1
  have f0 := k1.frozen 1
  simp only [List.getElem?_toArray, List.getElem?_cons_zero, List.getElem?_cons_succ] at m0
  go_upto_region 4 with (fail)
  have hR4' := hR4.kept (grown_setCell w4 ⟨q0 + 1, 1, none⟩ (.int .i64 b.1)) (fun b hb e => by have := Option.some.inj e; simp only at this; omega)
  have hg4s := grown_setNew hg4' (q := ⟨q0 + 1, 1, none⟩) (by rw [HQ.out]; simp) (.int .i64 b.1)
  have k0 := k0.grown (grown_setCell w4 ⟨q0 + 1, 1, none⟩ (.int .i64 b.1)) (by intro e; have := Option.some.inj e; simp only at this; omega)
  have k1 := k1.set1 b.1
  clear m0 f0 hR4 hg4'
  generalize w4.setCell ⟨q0 + 1, 1, none⟩ (.int .i64 b.1) = w4s at *
  obtain ⟨c, hcq⟩ : ∃ c, c = intSays (-9223372036854775808) 9223372036854775807 b.2.1 b.2.2 := ⟨_, rfl⟩
  have hT := int_any (-9223372036854775808) 9223372036854775807 hE (hgr hg4s) hp hR4'
  rw [← hcq] at hT
  have HC := Lib.hid hcq
  clear hcq
  go_wp2_with fail
  refine hT.mono ?_
  rintro x w5 ⟨rfl, hR5, hg5⟩
  have hg5' := hg4s.trans hg5
  have k0 := k0.grown hg5 (by intro e; have := Option.some.inj e; omega)
  have k1 := k1.grown hg5 (by intro e; have := Option.some.inj e; omega)
  clear hT hR4' hg4s hg5
  have m0 := k1.cell 2
  have f0 := k1.frozen 2
  simp only [List.getElem?_toArray, List.getElem?_cons_zero, List.getElem?_cons_succ] at m0
  go_upto_region 5 with (fail)
  have hR5' := hR5.kept (grown_setCell w5 ⟨q0 + 1, 2, none⟩ (.int .i64 c.1)) (fun b hb e => by have := Option.some.inj e; simp only at this; omega)
  have hg5s := grown_setNew hg5' (q := ⟨q0 + 1, 2, none⟩) (by rw [HQ.out]; simp) (.int .i64 c.1)
  have k0 := k0.grown (grown_setCell w5 ⟨q0 + 1, 2, none⟩ (.int .i64 c.1)) (by intro e; have := Option.some.inj e; simp only at this; omega)
  have k1 := k1.set2 c.1
  clear m0 f0 hR5 hg5'
  generalize w5.setCell ⟨q0 + 1, 2, none⟩ (.int .i64 c.1) = w5s at *
  obtain ⟨d, hdq⟩ : ∃ d, d = textSays 60 c.2.1 c.2.2 := ⟨_, rfl⟩
  have hT := text_any 60 hE (hgr hg5s) hp hR5'
  rw [← hdq] at hT
  have HD := Lib.hid hdq
  clear hdq
  go_wp2_with fail
  refine hT.mono ?_
  rintro x w6 ⟨rfl, hR6, hg6⟩
  have hg6' := hg5s.trans hg6
  have k0 := k0.grown hg6 (by intro e; have := Option.some.inj e; omega)
  have k1 := k1.grown hg6 (by intro e; have := Option.some.inj e; omega)
  clear hT hR5' hg5s hg6
  have m0 := k1.cell 3
  have f0 := k1.frozen 3
  simp only [List.getElem?_toArray, List.getElem?_cons_zero, List.getElem?_cons_succ] at m0
  go_upto_region 6 with (fail)
  have hR6' := hR6.kept (grown_setCell w6 ⟨q0 + 1, 3, none⟩ (.string ⟨d.1.toArray⟩)) (fun b hb e => by have := Option.some.inj e; simp only at this; omega)
  have hg6s := grown_setNew hg6' (q := ⟨q0 + 1, 3, none⟩) (by rw [HQ.out]; simp) (.string ⟨d.1.toArray⟩)
  have k0 := k0.grown (grown_setCell w6 ⟨q0 + 1, 3, none⟩ (.string ⟨d.1.toArray⟩)) (by intro e; have := Option.some.inj e; simp only at this; omega)
  have k1 := k1.set3 ⟨d.1.toArray⟩
  clear m0 f0 hR6 hg6'
  generalize w6.setCell ⟨q0 + 1, 3, none⟩ (.string ⟨d.1.toArray⟩) = w6s at *
  have m0 := k1.cell 0
  have m1 := k1.cell 1
  have m2 := k1.cell 2
  have m3 := k1.cell 3
  have n0 := k0.cell 0
  have n1 := k0.cell 1
  have n2 := k0.cell 2
  have n3 := k0.cell 3
  have f0 := k0.frozen 0
  have f1 := k0.frozen 1
  have f2 := k0.frozen 2
  have f3 := k0.frozen 3
  simp only [List.getElem?_toArray, List.getElem?_cons_zero, List.getElem?_cons_succ] at m0 m1 m2 m3 n0 n1 n2 n3
  have hlt : q0 < w6s.heap.size := k0.lt
  obtain rfl : z = (⟨⟨a.1.toArray⟩, b.1, c.1, ⟨d.1.toArray⟩⟩, d.2) := by rw [HZ.out, HD.out, HC.out, HB.out, HA.out]
  go_wp2
  refine bodyPost_ret (v := .agg #[.string ⟨a.1.toArray⟩, .int .i64 b.1, .int .i64 c.1, .string ⟨d.1.toArray⟩]) (by simp [results, Tryd.results49, go_sem, n0, n1, n2, n3]; done) rfl ⟨rfl, ?_, ?_⟩
  · have hne : ∀ b, b ≤ p → some q0 ≠ some b := fun b hb e => by have := Option.some.inj e; omega
    exact (((hR6'.kept (grown_setCell _ ⟨q0, 0, none⟩ _) hne).kept (grown_setCell _ ⟨q0, 1, none⟩ _) hne).kept (grown_setCell _ ⟨q0, 2, none⟩ _) hne).kept (grown_setCell _ ⟨q0, 3, none⟩ _) hne
  · exact grown_setNew (grown_setNew (grown_setNew (grown_setNew hg6s (q := ⟨q0, 0, none⟩) (by rw [HQ.out]; exact Nat.le_refl _) _) (q := ⟨q0, 1, none⟩) (by rw [HQ.out]; exact Nat.le_refl _) _) (q := ⟨q0, 2, none⟩) (by rw [HQ.out]; exact Nat.le_refl _) _) (q := ⟨q0, 3, none⟩) (by rw [HQ.out]; exact Nat.le_refl _) _

theorem intSays_le {lo hi : Int} (h0 : lo ≤ 0) (h1 : 0 ≤ hi) (l : List UInt8) (e : Int) : lo ≤ (intSays lo hi l e).1 ∧ (intSays lo hi l e).1 ≤ hi := by
  by_cases h : (intSays lo hi l e).2.2 = 0
  · exact intSays_range h
  · have : (intSays lo hi l e).1 = 0 := by
      unfold intSays at h ⊢
      split
      · rfl
      · rename_i he
        rw [if_neg he] at h
        split
        · rfl
        · rename_i h2
          rw [if_neg h2] at h
          split
          · rfl
          · rename_i h3
            rw [if_neg h3] at h
            exact absurd rfl h
    rw [this]
    exact ⟨h0, h1⟩
theorem ownv_keep {w w' : World} {base px n c : Nat} {e : TypeId} {A : Option Addr} {l : List Vr.V} (h : OwnVars w base e A n c l) (hg : w.grownBy w' (some px)) (hp : px < base) : OwnVars w' base e A n c l :=
  World.ownsRow.kept h hg (by
    cases hb : (Value.slice A n c).ownBlock with
    | none => exact .inl rfl
    | some g =>
      refine .inr fun e => ?_
      have := (h.lt g hb).1
      have := Option.some.inj e
      omega)

set_option maxRecDepth 10000 in
set_option maxHeartbeats 4000000 in
theorem takeAll_any (hE : RdErrs W E) (hb : Below W.heap.size W w) (hp : W.heap.size ≤ p) (hR : RdC E w p bl e) :
    Calls Tryd.prog 28 #[.pointer (some ⟨p, 0, none⟩)] w fun x w' => ∃ A' n' c', x = .returned (.slice A' n' c') ∧ OwnVars w' w.heap.size 45 A' n' c' (Vr.takeAll bl e).1 ∧ RdC E w' p (Vr.takeAll bl e).2.1 (Vr.takeAll bl e).2.2 ∧ w.grownBy w' (some p) := by
  have hgr : ∀ {w1 : World}, w.grownBy w1 (some p) → Below W.heap.size W w1 := fun hg => hb.grown hg hb.size (fun k hk => by cases hk; exact hp)
  have hpl := hR.lt
  have hI := int_any 0 12 hE hb hp hR
  have hle := intSays_le (lo := 0) (hi := 12) (by omega) (by omega) bl e
  obtain ⟨z, hz⟩ : ∃ z, z = Vr.takeAll bl e := ⟨_, rfl⟩
  have HZ := Lib.hid hz
  rw [← hz]
  clear hz
  unfold Vr.takeAll at HZ
  obtain ⟨r, hr⟩ : ∃ r, r = intSays 0 12 bl e := ⟨_, rfl⟩
  rw [← hr] at hI hle
  have HR := Lib.hid hr
  clear hr
  obtain ⟨⟨n, hn⟩, hle2⟩ : (∃ n : Nat, r.1 = n) ∧ r.1 ≤ 12 := ⟨⟨r.1.toNat, by omega⟩, hle.2⟩
  rw [hn] at hI hle2
  have HN := Lib.hid hn
  clear hn hle
  go_enter Tryd.func28, Tryd.ntmps28
  go_wp2_with fail
  refine hI.mono ?_
  rintro x w1 ⟨rfl, hR1, hg1⟩
  go_wp2_with fail
  go_loopw [3, 6] (fun o i wr => ∃ k : Nat, k ≤ n ∧ i = .int .i64 k ∧ ∃ A2 c2, o = .slice A2 k c2 ∧ OwnVars wr w.heap.size 45 A2 k c2 (Vr.takeN k r.2).1 ∧ RdC E wr p (Vr.takeN k r.2).2.1 (Vr.takeN k r.2).2.2 ∧ w.grownBy wr (some p)) (fun _ i _ => n - (intOf i).toNat)
  case atStart => exact ⟨0, Nat.zero_le _, rfl, none, 0, rfl, World.ownsRow_nil _ _ _ _, hR1, hg1⟩
  case round =>
    obtain ⟨k, hk, rfl, A2, c2, rfl, ho, hRk, hgk⟩ := hrel
    by_cases hkn : k < n
    · have hT := take_any hE (hgr hgk) hp hRk
      have hS : Vr.takeN (k + 1) r.2 = ((Vr.takeN k r.2).1 ++ [(Vr.takeV (Vr.takeN k r.2).2.1 (Vr.takeN k r.2).2.2).1], (Vr.takeV (Vr.takeN k r.2).2.1 (Vr.takeN k r.2).2.2).2) := rfl
      have HS := Lib.hid hS
      clear hS
      obtain ⟨t, ht⟩ : ∃ t, t = Vr.takeV (Vr.takeN k r.2).2.1 (Vr.takeN k r.2).2.2 := ⟨_, rfl⟩
      rw [← ht] at hT HS
      clear ht
      obtain ⟨v, t2⟩ := t
      unfold Vr.V.val at hT
      dsimp only at hT
      go_wp2_with fail
      refine hT.mono ?_
      rintro x w2 ⟨rfl, hR2, hg2⟩
      have ho2 := ownv_keep ho hg2 hpl
      have hg2' := hgk.trans hg2
      clear hT ho hRk hg2
      go_wp2_with (at_builtin; refine append_var rfl (.tmp 8) (.tmp 11) rfl w2 v w.heap.size _ k _ _ rfl ho2 rfl ?h5 hg2'.size ?_)
      case h5 => omega
      intro A4 c4 w4 ho4 hg4
      have hne : ∀ b, b ≤ p → (Value.slice A2 k c2).ownBlock ≠ some b := fun b hb e => by
        have := (ho2.lt b e).1
        omega
      go_wp2
      go_roundw
      case measure => simp [intOf]; omega
      case rel =>
        refine ⟨k + 1, by omega, by go_num, A4, c4, rfl, by rw [HS.out]; exact ho4, by rw [HS.out]; exact hR2.kept hg4.grown hne, ?_⟩
        have hgg := hg4.grown
        exact ⟨hgg.os.trans hg2'.os, hgg.tape.trans hg2'.tape, hgg.output.trans hg2'.output, Nat.le_trans hg2'.size hgg.size, fun j hj hn => (hgg.block j (Nat.lt_of_lt_of_le hj hg2'.size) (fun e => by have := (ho2.lt j e.symm).1; omega)).trans (hg2'.block j hj hn)⟩
    · obtain rfl : k = n := by omega
      have hEr := err_any hRk
      go_wp2_with fail
      refine hEr.mono ?_
      rintro x w2 ⟨⟨ev, rfl, hs⟩, rfl⟩
      by_cases h0 : (Vr.takeN k r.2).2.2 = 0
      · rw [h0] at hs
        obtain rfl := seen_nil hs
        obtain rfl : z = Vr.takeN k r.2 := by
          rw [HZ.out, ← HR.out]
          show (if (Vr.takeN r.1.toNat r.2).2.2 = 0 then _ else _) = _
          rw [HN.out, Int.toNat_natCast, if_pos h0]
        clear h0 hs
        go_wp2
        go_ret
        exact ⟨A2, k, c2, rfl, ho, hRk, hgk⟩
      · obtain ⟨a, rfl⟩ := seen_not hs h0
        obtain rfl : z = ([], (Vr.takeN k r.2).2) := by
          rw [HZ.out, ← HR.out]
          show (if (Vr.takeN r.1.toNat r.2).2.2 = 0 then _ else _) = _
          rw [HN.out, Int.toNat_natCast, if_neg h0]
        clear h0 hs
        unfold errV
        go_wp2
        go_ret
        exact ⟨none, 0, 0, rfl, World.ownsRow_nil _ _ _ _, hRk, hgk⟩
end
end Go.Proofs.YthkgjdhbibialaaDoor
