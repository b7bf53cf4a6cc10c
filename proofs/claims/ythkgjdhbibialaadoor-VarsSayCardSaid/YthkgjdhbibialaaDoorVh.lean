/- One variable more behind a row of one's own; the document's copy of variables; are they few, their texts short? -/
import Derived.Test.YthkgjdhbibialaaDoorVd
namespace Go.Proofs.YthkgjdhbibialaaDoor
open Go.RowKit

theorem varRow_lit (w : World) (v : Vr.V) : VRow (w.alloc (.cells #[.string v.name, .int .i64 v.kind, .int .i64 v.num, .string v.text] 45)) (w.heap.size + 1) (some ⟨w.heap.size, 0, none⟩) 1 [v] := by
  refine ⟨rfl, fun _ => ⟨w.heap.size, 0, rfl, by omega, fun k u hu => ?_⟩⟩
  have := cell_of_row (w.alloc (.cells #[.string v.name, .int .i64 v.kind, .int .i64 v.num, .string v.text] 45)) w.heap.size k _ _ (0, 0) (heap_alloc_new w _)
  rw [Nat.zero_add]
  exact this.trans (by simpa [Vr.V.cells] using hu)

theorem append_var {ops : Array Oper} {rest : List Oper} {o : Oper} {a : Act} {Q : Exit → Act → World → Prop} (hgd : o.guard = none) (s x : Operand)
    (ho : o.op = .call { callee := .builtin .append, args := #[s, x], argTypes := #[22, 22] })
    (w : World) (v : Vr.V) (base : Nat) (A : Option Addr) (n c : Nat) (l : List Vr.V) (hs : a.eval s = .slice A n c) (hown : OwnVars w base 45 A n c l)
    (hx : a.eval x = .slice (some ⟨w.heap.size, 0, none⟩) 1 1) (hn : n ≤ 1000000) (hbase : base ≤ w.heap.size)
    (h : ∀ A' c' w', OwnVars w' base 45 A' (n + 1) c' (l ++ [v]) → Grew w w' (.slice A n c) (.slice A' (n + 1) c') → wpList Tryd.prog ops Q rest (a.put o.dst (.slice A' (n + 1) c')) w') :
    wpList Tryd.prog ops Q (o :: rest) a (w.alloc (.cells #[.string v.name, .int .i64 v.kind, .int .i64 v.num, .string v.text] 45)) := by
  obtain ⟨i0, hi0, hz0, hz1, hz2⟩ := info_parts info_var
  refine append_row hgd s x _ ho 45 i0 _ 4 48 Tryd.underlying22 hi0 hz0 hz1 hz2 rfl (by decide) base _ n (l.flatMap Vr.V.cells) hs (World.ownsRow.alloc hown _) (w.heap.size + 1) _ 1 1 ([v].flatMap Vr.V.cells) hx (fun h => by cases h) (varRow_lit w v) (flat4_one [v]) (by unfold maxLen; omega) (by omega) (by simp; omega) fun v' w' h1 h2 h3 => ?_
  obtain ⟨A', c', rfl, _⟩ := own_form h1
  refine h A' c' w' (by unfold OwnVars; rw [List.flatMap_append]; exact h1) ⟨(grown_alloc w _ _).trans h2, fun g hg => ?_⟩
  rcases h3 with h3 | h3
  · exact .inl (h3.symm.trans hg)
  · rw [h3] at hg
    obtain rfl := Option.some.inj hg
    exact .inr (by simp)

section
variable {w : World}
set_option maxHeartbeats 800000 in
theorem refvars_any (A : Option Addr) (n c : Nat) (l : List Vr.V) (hr : VRow w w.heap.size A n l) (hn : n ≤ 1000000) :
    Calls Tryd.prog 22 #[.slice A n c] w fun e w' => ∃ A' c', e = .returned (.slice A' n c') ∧ OwnVars w' w.heap.size 45 A' n c' l ∧ Below w.heap.size w w' := by
  obtain ⟨i0, hi0, hz0, hz1, hz2⟩ := info_parts info_var
  have HL := Lib.hid hr.len
  go_enter Tryd.func22, Tryd.ntmps22
  go_wp2_with (at_make; refine wpList_make_own _ rfl _ _ 22 rfl w.heap.size 45 i0 _ 4 Tryd.underlying22 hi0 hz0 hz1 .i64 .i64 _ n rfl rfl ?h1 ?h2 ?h3 ?h4 ?_)
  case h1 => rfl
  case h2 => rw [hz2]; omega
  case h3 => unfold maxLen; omega
  case h4 => exact Nat.le_refl _
  intro w1 ho1 hg1
  have hb1 : Below w.heap.size w w1 := (Below.refl _ _).grown hg1 (Nat.le_refl _) (fun k hk => by cases hk)
  go_wp2
  go_loopw [3, 4] (fun v i wr => ∃ k : Nat, k ≤ n ∧ i = .int .i64 k ∧ (∃ A1 c1, v = .slice A1 k c1 ∧ OwnVars wr w.heap.size 45 A1 k c1 (l.take k)) ∧ Below w.heap.size w wr) (fun _ i _ => n - (intOf i).toNat)
  case atStart => exact ⟨0, Nat.zero_le _, rfl, ⟨_, _, rfl, by simpa [OwnVars] using ho1⟩, hb1⟩
  case round =>
    obtain ⟨k, hk, rfl, ⟨A1, c1, rfl, ho⟩, hbw⟩ := hrel
    by_cases hlt : k < n
    · obtain ⟨b, off, rfl, hb, c0, c1', c2, c3⟩ := (hr.below hbw (Nat.le_refl _)).at_ hlt
      have hs := hbw.size
      have hk' : k < l.length := by rw [HL.out]; exact hlt
      have H := Lib.hid (show l.take (k + 1) = l.take k ++ [l[k]!] by rw [getElem!_pos l k hk']; exact List.take_succ_eq_append_getElem hk')
      generalize l[k]! = x at *
      have hk0 : (0 : Int) ≤ (k : Int) := by omega
      have hkI : (k : Int) < (n : Int) := by omega
      go_wp2_with (at_builtin; refine append_var rfl (.tmp 14) (.tmp 19) rfl _ x w.heap.size _ k _ _ rfl ho rfl ?h5 hs ?_)
      case h5 => omega
      intro A2 c4 w2 ho2 hg2
      go_wp2
      go_roundw
      case measure => simp [intOf]; omega
      case rel =>
        refine ⟨k + 1, by omega, by go_num, ⟨A2, c4, rfl, by rw [H.out]; exact ho2⟩, below_grew hbw hg2 ho (Nat.le_refl _)⟩
    · have hkn : l.take k = l := List.take_of_length_le (by rw [HL.out]; omega)
      obtain rfl : k = n := by omega
      rw [hkn] at ho
      go_wp2
      go_ret
      exact ⟨A1, c1, rfl, ho, hbw⟩

set_option maxHeartbeats 800000 in
theorem light_any (A : Option Addr) (n c : Nat) (l : List Vr.V) (hr : VRow w w.heap.size A n l) (hn : n ≤ 9223372036854775807) (hv : ∀ v ∈ l, Vr.InV v) :
    Calls Tryd.prog 9 #[.slice A n c] w fun e w' => e = .returned (.bool (Vr.light l)) ∧ w = w' := by
  have HL := Lib.hid hr.len
  have HV := Lib.hid hv
  clear hv
  by_cases h20 : 20 < n
  · rw [Vr.light_many (by rw [HL.out]; exact h20)]
    go_enter Tryd.func9, Tryd.ntmps9
    go_wp2
    go_ret
    exact ⟨rfl, rfl⟩
  · go_enter Tryd.func9, Tryd.ntmps9
    go_wp2_with fail
    go_loop [3] (fun i => ∃ k : Nat, k ≤ n ∧ i = .int .i64 k ∧ Hid (∀ j, j < k → l[j]!.name.size ≤ 40 ∧ l[j]!.text.size ≤ 100)) (fun i => n - (intOf i).toNat)
    case atStart => exact ⟨0, Nat.zero_le _, rfl, fun j h => absurd h (Nat.not_lt_zero j)⟩
    case round =>
      obtain ⟨k, hk, rfl, hall⟩ := hrel
      by_cases hkn : k < n
      · obtain ⟨b, off, rfl, hbb, c0, c1, c2, c3⟩ := hr.at_ hkn
        have hI := HV.out l[k]! (by rw [getElem!_pos l k (by rw [HL.out]; exact hkn)]; exact List.getElem_mem _)
        have hIn := hI.n
        have hIt := hI.t
        have HN := Lib.hid (@Vr.light_not l k (by rw [HL.out]; exact hkn))
        have HP : Hid (l[k]!.name.size ≤ 40 ∧ l[k]!.text.size ≤ 100 → ∀ j, j < k + 1 → l[j]!.name.size ≤ 40 ∧ l[j]!.text.size ≤ 100) := fun hp j hj => by
          by_cases e : j = k
          · subst e; exact hp
          · exact hall j (by omega)
        have hk0 : (0 : Int) ≤ (k : Int) := by omega
        have hkI : (k : Int) < (n : Int) := by omega
        clear hI
        generalize l[k]! = v at *
        by_cases h40 : 40 < v.name.size
        · have h40' : (40 : Int) < (v.name.size : Int) := by omega
          go_wp2
          go_ret
          exact ⟨ret_bool (HN.out (.inl h40)).symm, rfl⟩
        · have h40' : ¬ (40 : Int) < (v.name.size : Int) := by omega
          by_cases h100 : 100 < v.text.size
          · have h100' : (100 : Int) < (v.text.size : Int) := by omega
            go_wp2
            go_ret
            exact ⟨ret_bool (HN.out (.inr h100)).symm, rfl⟩
          · have h100' : ¬ (100 : Int) < (v.text.size : Int) := by omega
            go_wp2
            go_round
            case measure => simp [intOf]; omega
            case rel => exact ⟨k + 1, by omega, by go_num, HP.out ⟨by omega, by omega⟩⟩
      · have : k = n := by omega
        subst this
        go_wp2
        go_ret
        exact ⟨ret_bool (Vr.light_all (by rw [HL.out]; omega) (by rw [HL.out]; exact hall)).symm, rfl⟩
end
end Go.Proofs.YthkgjdhbibialaaDoor
