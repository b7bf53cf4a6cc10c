/- Walks of package vars: Set. -/
import Derived.Test.YthkgjdhbibialaaDoorVw
namespace Go.Proofs.YthkgjdhbibialaaDoor
open Go.RowKit

namespace Vr
def sets (l more : List V) : List V := more.foldl setOne l
theorem sets_take {l more : List V} {k : Nat} (h : k < more.length) : sets l (more.take (k + 1)) = setOne (sets l (more.take k)) more[k] := by
  unfold sets
  rw [List.take_succ_eq_append_getElem h, List.foldl_append]
  rfl
theorem sets_len_le (more : List V) : ∀ l : List V, l.length ≤ (sets l more).length ∧ (sets l more).length ≤ l.length + more.length := by
  induction more with
  | nil => intro l; simp [sets]
  | cons v more ih =>
    intro l
    have h1 := setOne_len l v
    have h2 := ih (setOne l v)
    simp only [sets, List.foldl_cons, List.length_cons] at h2 ⊢
    omega
theorem sets_more (l more : List V) (k : Nat) : (sets l (more.take k)).length ≤ (sets l more).length := by
  have h : sets l more = sets (sets l (more.take k)) (more.drop k) := by
    unfold sets
    rw [← List.foldl_append, List.take_append_drop]
  rw [h]
  exact (sets_len_le _ _).1
theorem setOne_all {p : V → Prop} {l : List V} {v : V} (h : ∀ x ∈ l, p x) (hv : p v) : ∀ x ∈ setOne l v, p x := by
  unfold setOne
  split
  · intro x hx
    rcases List.mem_or_eq_of_mem_set hx with h' | rfl
    · exact h x h'
    · exact hv
  · intro x hx
    rcases List.mem_append.1 hx with h' | h'
    · exact h x (List.mem_of_mem_take h')
    · rcases List.mem_cons.1 h' with rfl | h'
      · exact hv
      · exact h x (List.mem_of_mem_drop h')
/-- What Set answers: the list; what is amiss. -/
def setV (l more : List V) : List V × Int × Option Nat := if (check (sets l more)).1 = 0 then (sets l more, 0, none) else ([], check (sets l more))
/-- What was made so far is all, or too much already. -/
def Done (l more o : List V) : Prop := o = sets l more ∨ 12 < o.length ∧ o.length ≤ (sets l more).length
theorem setV_fine {l more o : List V} (h : Done l more o) (h0 : (check o).1 = 0) : setV l more = (o, 0, none) := by
  rcases h with rfl | ⟨h, _⟩
  · unfold setV; rw [if_pos h0]
  · rw [check_many h] at h0; cases h0
theorem setV_bad {l more o : List V} (h : Done l more o) (h0 : (check o).1 ≠ 0) : setV l more = ([], check o) := by
  rcases h with rfl | ⟨h, h2⟩
  · unfold setV; rw [if_neg h0]
  · unfold setV
    rw [check_many h, check_many (show 12 < (sets l more).length by omega), if_neg (by decide)]
end Vr

section
variable {E : Int → Option Addr} {W w : World}
set_option maxRecDepth 10000 in
set_option maxHeartbeats 4000000 in
theorem set_any (A : Option Addr) (n c : Nat) (l : List Vr.V) (C : Option Addr) (m cc : Nat) (more : List Vr.V) (hE : VaErrs W E) (hb : Below W.heap.size W w) (hr : VRow w w.heap.size A n l) (hA : A = none → n = 0 ∧ c = 0) (hn : n ≤ 1000)
    (hm : VRow w w.heap.size C m more) (hmm : m ≤ 1000) (hv : ∀ v ∈ l, Vr.InV v) (hu : ∀ v ∈ more, Vr.InV v) :
    Calls Tryd.prog 12 #[.slice A n c, .slice C m cc] w fun e w' => ∃ A' n' c' ev, e = .returned (.tuple #[.slice A' n' c', ev]) ∧ OwnVars w' w.heap.size 45 A' n' c' (Vr.setV l more).1 ∧ SeenF E w' ev (Vr.setV l more).2.1 (Vr.setV l more).2.2 ∧ Below w.heap.size w w' := by
  have HL := Lib.hid hr.len
  have HM := Lib.hid hm.len
  have HV := Lib.hid hv
  have HU := Lib.hid hu
  have hC := vclone_any A n c l w hr hA (by omega)
  clear hv hu
  go_enter Tryd.func12, Tryd.ntmps12
  go_wp2_with fail
  refine hC.mono ?_
  rintro e w1 ⟨A1, c1, rfl, ho1, hb1⟩
  go_wp2_with fail
  go_loopw [6, 14] (fun o i wr => ∃ k : Nat, k ≤ m ∧ i = .int .i64 k ∧ ∃ A2 n2 c2, o = .slice A2 n2 c2 ∧ OwnVars wr w.heap.size 45 A2 n2 c2 (Vr.sets l (more.take k)) ∧ n2 ≤ n + k ∧ Below w.heap.size w wr ∧ Hid (∀ v ∈ Vr.sets l (more.take k), Vr.InV v)) (fun _ i _ => m - (intOf i).toNat)
  case atStart => exact ⟨0, Nat.zero_le _, rfl, A1, n, c1, rfl, by simpa [Vr.sets] using ho1, by omega, hb1, (show ∀ v ∈ Vr.sets l (more.take 0), Vr.InV v by simpa [Vr.sets] using HV.out)⟩
  case round =>
    obtain ⟨k, hk, rfl, A2, n2, c2, rfl, ho2, hn2, hbw, hall⟩ := hrel
    by_cases hkm : k < m
    · have hkl : k < more.length := by rw [HM.out]; exact hkm
      obtain ⟨b, off, rfl, hbb, d0, d1, d2, d3⟩ := (hm.below hbw (Nat.le_refl _)).at_ hkm
      have HT := Lib.hid (show Vr.sets l (more.take (k + 1)) = Vr.setOne (Vr.sets l (more.take k)) more[k]! by rw [getElem!_pos more k hkl]; exact Vr.sets_take hkl)
      have HI := Lib.hid (show Vr.InV more[k]! by rw [getElem!_pos more k hkl]; exact HU.out _ (List.getElem_mem hkl))
      generalize more[k]! = v at *
      have hbv : Below wr.heap.size wr (wr.alloc (.cells #[.string v.name, .int .i64 v.kind, .int .i64 v.num, .string v.text] 45)) := (Below.refl _ _).alloc (Nat.le_refl _) _
      have hW := with_any w.heap.size A2 n2 c2 _ v (ho2.below hbv (Nat.le_refl _)) (by omega) (Nat.le_trans hbw.size (by simp))
      unfold Vr.V.val at hW
      go_wp2_with fail
      refine hW.mono ?_
      rintro e w3 ⟨A3, n3, c3, rfl, ho3, hb3⟩
      have hbw3 : Below w.heap.size w w3 := (hbw.trans (hbv.mono hbw.size)).trans hb3
      have hl3 := ho3.len
      have hs3 := Vr.setOne_len (Vr.sets l (more.take k)) v
      have hl2 := ho2.len
      have hn3 : n3 ≤ n + (k + 1) := by omega
      have HA3 : Hid (∀ x ∈ Vr.sets l (more.take (k + 1)), Vr.InV x) := by show ∀ x ∈ _, _; rw [HT.out]; exact Vr.setOne_all hall.out HI.out
      have ho3 : OwnVars w3 w.heap.size 45 A3 n3 c3 (Vr.sets l (more.take (k + 1))) := by rw [HT.out]; exact ho3
      have HLn := Lib.hid ho3.len
      clear hl3 hs3 hl2 HT hW hb3 ho2 hbw d0 d1 d2 d3 hall
      by_cases h12 : 12 < n3
      · have h12' : (12 : Int) < (n3 : Int) := by omega
        have hK := check_any (W := W) A3 n3 c3 (Vr.sets l (more.take (k + 1))) hE (hb.trans (hbw3.mono hb.size)) ho3.row (by omega) HA3.out
        go_wp2_with fail
        refine hK.mono ?_
        rintro e w4 ⟨⟨ev, rfl, hs⟩, hb4⟩
        have hbw4 : Below w.heap.size w w4 := hbw3.trans (hb4.mono hbw3.size)
        by_cases h0 : (Vr.check (Vr.sets l (more.take (k + 1)))).1 = 0
        · rw [h0, Vr.check_pos h0] at hs
          obtain rfl := hs.none_of
          have HR := Lib.hid (Vr.setV_fine (.inr ⟨by rw [HLn.out]; exact h12, Vr.sets_more l more (k + 1)⟩) h0)
          clear h0 hs
          go_wp2
          go_ret2
          rw [HR.out]
          exact ⟨_, _, _, _, rfl, (ho3.below hb4 (Nat.le_refl _)), .nil, hbw4⟩
        · have HR := Lib.hid (Vr.setV_bad (.inr ⟨by rw [HLn.out]; exact h12, Vr.sets_more l more (k + 1)⟩) h0)
          obtain ⟨t, a, rfl⟩ := hs.some_of h0
          have HS := Lib.hid hs
          clear h0 hs
          go_wp2
          go_ret2
          rw [HR.out]
          exact ⟨_, _, _, _, rfl, World.ownsRow_nil _ _ _ _, HS.out, hbw4⟩
      · have h12' : ¬ (12 : Int) < (n3 : Int) := by omega
        go_wp2
        go_roundw
        case measure => simp [intOf]; omega
        case rel => exact ⟨k + 1, by omega, by go_num, A3, n3, c3, rfl, ho3, hn3, hbw3, HA3⟩
    · have hkm' : k = m := by omega
      have HE := Lib.hid (show Vr.sets l (more.take k) = Vr.sets l more by rw [List.take_of_length_le (by rw [HM.out]; omega)])
      have hK := check_any (W := W) A2 n2 c2 (Vr.sets l (more.take k)) hE (hb.trans (hbw.mono hb.size)) ho2.row (by omega) hall.out
      go_wp2_with fail
      refine hK.mono ?_
      rintro e w4 ⟨⟨ev, rfl, hs⟩, hb4⟩
      have hbw4 : Below w.heap.size w w4 := hbw.trans (hb4.mono hbw.size)
      by_cases h0 : (Vr.check (Vr.sets l (more.take k))).1 = 0
      · rw [h0, Vr.check_pos h0] at hs
        obtain rfl := hs.none_of
        have HR := Lib.hid (Vr.setV_fine (.inl HE.out) h0)
        clear h0 hs
        go_wp2
        go_ret2
        rw [HR.out]
        exact ⟨_, _, _, _, rfl, (ho2.below hb4 (Nat.le_refl _)), .nil, hbw4⟩
      · have HR := Lib.hid (Vr.setV_bad (.inl HE.out) h0)
        obtain ⟨t, a, rfl⟩ := hs.some_of h0
        have HS := Lib.hid hs
        clear h0 hs
        go_wp2
        go_ret2
        rw [HR.out]
        exact ⟨_, _, _, _, rfl, World.ownsRow_nil _ _ _ _, HS.out, hbw4⟩
end
end Go.Proofs.YthkgjdhbibialaaDoor
