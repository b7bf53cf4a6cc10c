/- Walks of package vars: one variable is set in a row of the call's own. -/
import Derived.Test.YthkgjdhbibialaaDoorVg
namespace Go.Proofs.YthkgjdhbibialaaDoor
open Go.RowKit

section
variable {w : World}
theorem insert_any (base : Nat) (A : Option Addr) (n c : Nat) (l : List Vr.V) (i vb : Nat) (v : Vr.V) (ho : OwnVars w base 45 A n c l) (hi : i ≤ n) (hn : n ≤ 1000000) (hbase : base ≤ w.heap.size)
    (hvb : w.heap[vb]? = some (.cells #[.string v.name, .int .i64 v.kind, .int .i64 v.num, .string v.text] 45 (0, 0))) (hne : ∀ a, A = some a → a.block ≠ vb) :
    Calls Tryd.prog 53 #[.slice A n c, .int .i64 i, .slice (some ⟨vb, 0, none⟩) 1 1] w fun e w' => ∃ A' c', e = .returned (.slice A' (n + 1) c') ∧ OwnVars w' base 45 A' (n + 1) c' (l.take i ++ v :: l.drop i) ∧ Below base w w' := by
  by_cases h : i = n
  · subst h
    have hl := ho.len
    have := insert_end base A i c l vb v ho hn hbase hvb
    rwa [show l.take i ++ v :: l.drop i = l ++ [v] from by rw [List.take_of_length_le (by omega), List.drop_of_length_le (by omega)]]
  · by_cases h2 : n + 1 ≤ c
    · exact insert_room base A n c l i vb v ho (by omega) h2 hn hvb hne
    · exact insert_grow base A n c l i vb v ho (by omega) (by omega) hn hbase hvb

set_option maxHeartbeats 400000 in
theorem behind_any (s : ByteArray) (B : Nat) (hB : B < w.heap.size) (hc : w.cell? ⟨B, 0, none⟩ = some (.string s)) (W : World) (v : Vr.V) (hb : Below w.heap.size w W) :
    Calls Tryd.prog 52 (#[v.val] ++ #[.pointer (some ⟨B, 0, none⟩)]) W fun e w' => e = .returned (.bool (Vr.behind s v)) ∧ Below w.heap.size w w' := by
  have hc' : W.cell? ⟨B, 0, none⟩ = some (.string s) := (hb.cell (p := ⟨B, 0, none⟩) hB).trans hc
  have hBW : B < W.heap.size := Nat.lt_of_lt_of_le hB hb.size
  have hne : B ≠ W.heap.size := by omega
  unfold Vr.V.val
  show Calls Tryd.prog 52 #[_, _] W _
  go_enter Tryd.func52, Tryd.ntmps52
  go_wp2
  go_ret
  refine ⟨ret_bool ?_, hb.alloc hb.size _⟩
  rw [← Bool.not_or, Vr.leq_of, Bool.not_not]
  rfl

theorem ownv_frozen {base n c g : Nat} {e : TypeId} {l : List Vr.V} (h : OwnVars w base e (some ⟨g, 0, none⟩) n c l) (o : Nat) : w.frozen? ⟨g, o, none⟩ = false := by
  rcases h.2 with ⟨hv, _⟩ | ⟨g', cap, cur, hv, hg, hh, _⟩
  · cases hv
  · obtain rfl : g = g' := by injection hv with hA; injection hA with hA; injection hA
    unfold World.frozen?
    rw [hh]; rfl
theorem ownv_set {base n c g k : Nat} {e : TypeId} {l : List Vr.V} (h : OwnVars w base e (some ⟨g, 0, none⟩) n c l) (hk : k < l.length) (v : Vr.V) :
    OwnVars ((((w.setCell ⟨g, k * 4, none⟩ (.string v.name)).setCell ⟨g, k * 4 + 1, none⟩ (.int .i64 v.kind)).setCell ⟨g, k * 4 + 2, none⟩ (.int .i64 v.num)).setCell ⟨g, k * 4 + 3, none⟩ (.string v.text)) base e (some ⟨g, 0, none⟩) n c (l.set k v) := by
  have h1 := (World.ownsRow.stored h (k * 4) (.string v.name)).1
  have h2 := (World.ownsRow.stored h1 (k * 4 + 1) (.int .i64 v.kind)).1
  have h3 := (World.ownsRow.stored h2 (k * 4 + 2) (.int .i64 v.num)).1
  have h4 := (World.ownsRow.stored h3 (k * 4 + 3) (.string v.text)).1
  rw [Vr.flat_set l k v hk] at h4
  exact h4

set_option maxRecDepth 10000 in
set_option maxHeartbeats 4000000 in
theorem with_any (base : Nat) (A : Option Addr) (n c : Nat) (l : List Vr.V) (v : Vr.V) (ho : OwnVars w base 45 A n c l) (hn : n ≤ 1000000) (hbase : base ≤ w.heap.size) :
    Calls Tryd.prog 34 #[.slice A n c, v.val] w fun e w' => ∃ A' n' c', e = .returned (.slice A' n' c') ∧ OwnVars w' base 45 A' n' c' (Vr.setOne l v) ∧ Below base w w' := by
  have HL := Lib.hid ho.len
  have hb1 : Below w.heap.size w (w.alloc (.cells #[.string v.name, .int .i64 v.kind, .int .i64 v.num, .string v.text] 45)) := (Below.refl _ _).alloc (Nat.le_refl _) _
  have ho1 := ho.below hb1 (Nat.le_refl _)
  have hP := place_any (w := w.alloc (.cells #[.string v.name, .int .i64 v.kind, .int .i64 v.num, .string v.text] 45)) A n c l v.name ho1.row (by omega)
  rcases Vr.idx_cases (Vr.named v.name) l with ⟨hi, _⟩ | ⟨k, hi, hk, _⟩
  · have HS : Hid (Vr.setOne l v = l.take (Vr.place l v.name) ++ v :: l.drop (Vr.place l v.name)) := by show _ = _; unfold Vr.setOne; rw [hi, if_neg (by omega)]
    rw [hi] at hP
    clear hi
    have eg : ∀ args w, (callFunc 52 args).run Tryd.prog w = .ok (.enter 52 args) w := enters_of Tryd.func52 (by kernel_rfl) rfl
    have hple := Vr.place_le l v.name
    have hpl : Vr.place l v.name = _ := rfl
    unfold Vr.place at hpl
    change Vr.place l v.name = _ at hpl
    have hbl : Below base w (w.alloc (.cells #[.string v.name, .int .i64 v.kind, .int .i64 v.num, .string v.text] 45)) := hb1.mono hbase
    rcases Vr.idx_cases (Vr.behind v.name) l with ⟨hj, _⟩ | ⟨j, hj, hjl, _⟩
    · rw [hj, if_pos (by omega)] at hpl
      have HPL := Lib.hid hpl
      clear hpl hple
      unfold Vr.V.val
      go_enter Tryd.func34, Tryd.ntmps34
      go_wp2_with fail
      refine hP.mono ?_
      rintro e w2 ⟨rfl, hb2⟩
      have ho2 := ho1.below hb2 (Nat.le_refl _)
      have b0 := hb2.cell (p := ⟨w.heap.size, 0, none⟩) (by simp)
      have hBl2 := hbl.trans (hb2.mono (Nat.le_trans hbase hb1.size))
      have hw2 : w.heap.size < w2.heap.size := by have := hb2.size; simp at this; omega
      have hI := idx_any (w := w2) 52 #[.pointer (some ⟨w.heap.size, 0, none⟩)] (Vr.behind v.name) eg A n c l (behind_any v.name w.heap.size hw2 (by rw [b0]; simp)) ho2.row (by omega)
      rw [hj] at hI
      clear hj
      go_wp2_with fail
      refine hI.mono ?_
      rintro e w3 ⟨rfl, hb3⟩
      have ho3 := ho2.below hb3 (Nat.le_refl _)
      have hBl3 := hBl2.trans (hb3.mono (Nat.le_trans hbase hBl2.size))
      have hz3 : base ≤ w3.heap.size := Nat.le_trans hbase hBl3.size
      have hb23 := hb2.trans (hb3.mono hb2.size)
      have b0 := hb23.cell (p := ⟨w.heap.size, 0, none⟩) (by simp)
      have b1 := hb23.cell (p := ⟨w.heap.size, 1, none⟩) (by simp)
      have b2 := hb23.cell (p := ⟨w.heap.size, 2, none⟩) (by simp)
      have b3 := hb23.cell (p := ⟨w.heap.size, 3, none⟩) (by simp)
      have hb4 : Below w3.heap.size w3 (w3.alloc (.cells #[.string v.name, .int .i64 v.kind, .int .i64 v.num, .string v.text] 45)) := (Below.refl _ _).alloc (Nat.le_refl _) _
      have ho4 := ho3.below hb4 (Nat.le_refl _)
      have hIns := insert_any base A n c l n w3.heap.size v ho4 (Nat.le_refl _) hn (Nat.le_trans hz3 (by simp)) (heap_alloc_new w3 _) (fun a ha e => by
        have := (ho3.lt a.block (by rw [ha]; rfl)).2
        omega)
      go_wp2_with fail
      refine hIns.mono ?_
      rintro e w5 ⟨A5, c5, rfl, ho5, hb5⟩
      go_wp2
      go_ret
      refine ⟨A5, _, c5, rfl, ?_, (hBl3.trans (hb4.mono hz3)).trans hb5⟩
      rw [HS.out, HPL.out, HL.out]
      exact ho5
    · rw [hj, if_neg (by omega)] at hpl
      have HPL := Lib.hid hpl
      have hjn : j < n := by rw [← HL.out]; exact hjl
      clear hpl hple
      unfold Vr.V.val
      go_enter Tryd.func34, Tryd.ntmps34
      go_wp2_with fail
      refine hP.mono ?_
      rintro e w2 ⟨rfl, hb2⟩
      have ho2 := ho1.below hb2 (Nat.le_refl _)
      have b0 := hb2.cell (p := ⟨w.heap.size, 0, none⟩) (by simp)
      have hBl2 := hbl.trans (hb2.mono (Nat.le_trans hbase hb1.size))
      have hw2 : w.heap.size < w2.heap.size := by have := hb2.size; simp at this; omega
      have hI := idx_any (w := w2) 52 #[.pointer (some ⟨w.heap.size, 0, none⟩)] (Vr.behind v.name) eg A n c l (behind_any v.name w.heap.size hw2 (by rw [b0]; simp)) ho2.row (by omega)
      rw [hj] at hI
      clear hj
      have hj0 : (0 : Int) ≤ (j : Int) := by omega
      go_wp2_with fail
      refine hI.mono ?_
      rintro e w3 ⟨rfl, hb3⟩
      have ho3 := ho2.below hb3 (Nat.le_refl _)
      have hBl3 := hBl2.trans (hb3.mono (Nat.le_trans hbase hBl2.size))
      have hz3 : base ≤ w3.heap.size := Nat.le_trans hbase hBl3.size
      have hb23 := hb2.trans (hb3.mono hb2.size)
      have b0 := hb23.cell (p := ⟨w.heap.size, 0, none⟩) (by simp)
      have b1 := hb23.cell (p := ⟨w.heap.size, 1, none⟩) (by simp)
      have b2 := hb23.cell (p := ⟨w.heap.size, 2, none⟩) (by simp)
      have b3 := hb23.cell (p := ⟨w.heap.size, 3, none⟩) (by simp)
      have hb4 : Below w3.heap.size w3 (w3.alloc (.cells #[.string v.name, .int .i64 v.kind, .int .i64 v.num, .string v.text] 45)) := (Below.refl _ _).alloc (Nat.le_refl _) _
      have ho4 := ho3.below hb4 (Nat.le_refl _)
      have hIns := insert_any base A n c l j w3.heap.size v ho4 (by omega) hn (Nat.le_trans hz3 (by simp)) (heap_alloc_new w3 _) (fun a ha e => by
        have := (ho3.lt a.block (by rw [ha]; rfl)).2
        omega)
      go_wp2_with fail
      refine hIns.mono ?_
      rintro e w5 ⟨A5, c5, rfl, ho5, hb5⟩
      go_wp2
      go_ret
      refine ⟨A5, _, c5, rfl, ?_, (hBl3.trans (hb4.mono hz3)).trans hb5⟩
      rw [HS.out, HPL.out]
      simpa using ho5
  · have HS : Hid (Vr.setOne l v = l.set k v) := by show _ = _; unfold Vr.setOne; rw [hi, if_pos (by omega)]; rfl
    rw [hi] at hP
    clear hi
    have hkn : k < n := by rw [← HL.out]; exact hk
    unfold Vr.V.val
    go_enter Tryd.func34, Tryd.ntmps34
    go_wp2_with fail
    refine hP.mono ?_
    rintro e w2 ⟨rfl, hb2⟩
    have ho2 := ho1.below hb2 (Nat.le_refl _)
    obtain ⟨g, cur, rfl, hbg, hh, hnc, hcm, hcs, hct⟩ := own_block ho2 (by omega)
    obtain ⟨c0, c1, c2, c3⟩ := ho2.row.of hkn
    rw [Nat.zero_add] at c0 c1 c2 c3
    have f0 := ownv_frozen ho2 (k * 4)
    have f1 := ownv_frozen ho2 (k * 4 + 1)
    have f2 := ownv_frozen ho2 (k * 4 + 2)
    have f3 := ownv_frozen ho2 (k * 4 + 3)
    have b0 := hb2.cell (p := ⟨w.heap.size, 0, none⟩) (by simp)
    have b1 := hb2.cell (p := ⟨w.heap.size, 1, none⟩) (by simp)
    have b2 := hb2.cell (p := ⟨w.heap.size, 2, none⟩) (by simp)
    have b3 := hb2.cell (p := ⟨w.heap.size, 3, none⟩) (by simp)
    have hset := Lib.hid (ownv_set ho2 (k := k) hk v)
    have hgw : g ≠ w.heap.size := by
      have := own_base ho (Nat.le_refl _)
      have h3 := (ho.lt g rfl).2
      omega
    have hk0 : (0 : Int) ≤ (k : Int) := by omega
    have hkI : (k : Int) < (n : Int) := by omega
    clear hh hnc hcm hcs hct
    go_wp2
    go_ret
    refine ⟨_, _, _, rfl, ?_, ?_⟩
    · rw [HS.out]
      exact hset.out
    · exact (((((hb1.mono hbase).trans (hb2.mono (Nat.le_trans hbase hb1.size))).setCell hbg _).setCell hbg _).setCell hbg _).setCell hbg _
end
end Go.Proofs.YthkgjdhbibialaaDoor
