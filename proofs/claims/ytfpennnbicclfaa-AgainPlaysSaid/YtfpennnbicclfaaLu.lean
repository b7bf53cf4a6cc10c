/- A region whose order is left open and whose last operation waits for all the others: that one is told apart. -/
import Derived.Test.YtfpennnbicclfaaRegion
namespace Go.Proofs.Ytfpennnbicclfaa.Rg
open Go Go.RowKit

section
variable {P : Program} {ops : Array Oper} {Q : Exit → Act → World → Prop}
/-- Operation L is the last one, and waits for all the others. -/
def lastAll (ops : Array Oper) (L : Nat) : Bool :=
  decide (L + 1 = ops.size) && (List.range L).all fun i => match ops[L]? with | none => false | some o => o.after.toList.any fun e => e.on == i && Region.binds .any e
theorem any_last {a0 : Act} {w0 : World} {R : Nat → Value → World → Prop} (hf : fine ops a0.tmps.size = true) (L : Nat) (hL : lastAll ops L = true)
    (hR : ∀ i v w w', R i v w → Below w.heap.size w w' → R i v w')
    (step : ∀ i o, ops[i]? = some o → i ≠ L → ∀ a w, Pre ops a0 w0 R o a w → wpOp P ops Q i (fun a' w' => ∃ v, a' = a.put o.dst v ∧ (o.dst = none → v = undef) ∧ R i v w' ∧ Below w.heap.size w w') a w)
    (fin : ∀ a w, a.tmps.size = a0.tmps.size → a.defers = a0.defers → (∀ t, writes ops t = false → a.tmps.getD t undef = a0.tmps.getD t undef) → (∀ i, i < L → R i (val ops a i) w) → Below w0.heap.size w0 w → wpOp P ops Q L (fun a' w' => Q .normal a' w') a w) :
    ∀ (fuel : Nat) (listed : Array Bool) (a : Act) (w : World), listed.size = ops.size → listed.getD L true = false → left listed ≤ fuel → St ops a0 w0 R listed a w → wpAny P .any ops Q fuel listed a w := by
  have hLs : L + 1 = ops.size := by
    unfold lastAll at hL
    simp only [Bool.and_eq_true, decide_eq_true_eq] at hL
    exact hL.1
  intro fuel
  induction fuel with
  | zero =>
    intro listed a w hs hLf hl h
    exfalso
    have h1 := all_of_left (listed := listed) (by omega) (i := L) (by omega)
    have hlt : L < listed.size := by omega
    simp [Array.getD_eq_getD_getElem?, hlt] at h1 hLf
    rw [h1] at hLf
    cases hLf
  | succ fuel ih =>
    intro listed a w hs hLf hl h
    refine ⟨fun hr => ?_, fun i hi => ?_⟩
    · exfalso
      have h1 := all_of_ready hf hs hr L (by omega)
      have hlt : L < listed.size := by omega
      simp [Array.getD_eq_getD_getElem?, hlt] at h1 hLf
      rw [h1] at hLf
      cases hLf
    obtain ⟨h0, o, ho, hdep⟩ := mem_ready.1 hi
    have hilt : i < ops.size := (Array.getElem?_eq_some_iff.1 ho).1
    have hfi := List.all_eq_true.1 hf i (List.mem_range.2 hilt)
    simp only [ho, Bool.and_eq_true] at hfi
    have honlt : ∀ e ∈ o.after, Region.binds .any e = true → e.on < ops.size := by
      intro e he hb
      have := Array.all_eq_true_iff_forall_mem.1 hfi.2 e he
      simp only [hb, Bool.not_true, Bool.false_or, decide_eq_true_eq] at this
      omega
    by_cases hiL : i = L
    · subst hiL
      have hall : ∀ j, j < i → listed.getD j false = true := fun j hj => by
        unfold lastAll at hL
        simp only [Bool.and_eq_true, decide_eq_true_eq] at hL
        have h2 := List.all_eq_true.1 hL.2 j (List.mem_range.2 hj)
        rw [ho] at h2
        simp only [List.any_eq_true, Bool.and_eq_true, beq_iff_eq] at h2
        obtain ⟨e, he, h3, h4⟩ := h2
        have := hdep e (Array.mem_toList_iff.1 he) h4
        rw [h3] at this
        exact this
      refine wpOp_mono (fun a' w' hq => ?_) (fin a w h.size h.defers h.rest (fun j hj => h.done j (by omega) (hall j hj)) h.grew)
      have hr : Region.ready .any ops (listed.setIfInBounds i true) = [] := by
        cases hr : Region.ready .any ops (listed.setIfInBounds i true) with
        | nil => rfl
        | cons j l =>
          exfalso
          have hj : j ∈ Region.ready .any ops (listed.setIfInBounds i true) := by rw [hr]; simp
          obtain ⟨h5, o', ho', _⟩ := mem_ready.1 hj
          have hjlt : j < ops.size := (Array.getElem?_eq_some_iff.1 ho').1
          by_cases hji : j = i
          · subst hji
            have hlt : j < listed.size := by omega
            simp [Array.getD_eq_getD_getElem?, hlt] at h5
          · rw [getD_set_ne true (Ne.symm hji)] at h5
            have h6 := hall j (by omega)
            have hlt : j < listed.size := by omega
            simp [Array.getD_eq_getD_getElem?, hlt] at h5 h6
            rw [h6] at h5
            cases h5
      cases fuel with
      | zero => exact ⟨hr, hq⟩
      | succ fuel => exact ⟨fun _ => hq, fun j hj => by rw [hr] at hj; cases hj⟩
    refine wpOp_mono ?_ (step i o ho hiL a w ⟨h.size, h.rest, fun e he hb => h.done e.on (honlt e he hb) (hdep e he hb), h.grew⟩)
    rintro a' w' ⟨v, rfl, hnone, hv, hb⟩
    have hg : Below w0.heap.size w0 w' := h.grew.trans (hb.mono h.grew.size)
    refine ih _ _ _ (by simpa using hs) (by rw [getD_set_ne true hiL]; exact hLf) (by have := left_set (by omega) h0; omega) ⟨by rw [size_put]; exact h.size, by rw [defers_put]; exact h.defers, ?_, ?_, hg⟩
    · intro t ht
      rw [getD_put_ne]
      · exact h.rest t ht
      · intro hd
        have hdi : dstOf ops i = some t := by simp [dstOf, ho, hd]
        rw [writes_of hdi] at ht
        cases ht
    · intro j hj hlj
      by_cases hji : j = i
      · subst hji
        have hval : val ops (a.put o.dst v) j = v := by
          unfold val dstOf
          simp only [ho, Option.bind_some]
          cases hd : o.dst with
          | none => exact (hnone hd).symm
          | some d =>
            have h1 := hfi.1
            rw [hd] at h1
            simp only [Bool.and_eq_true, decide_eq_true_eq] at h1
            exact getD_put_eq a d v (by rw [h.size]; exact h1.1)
        rw [hval]
        exact hv
      · have hlj' : listed.getD j false = true := by rwa [getD_set_ne false (Ne.symm hji)] at hlj
        have hval : val ops (a.put o.dst v) j = val ops a j := by
          unfold val
          cases hd : dstOf ops j with
          | none => rfl
          | some d =>
            refine getD_put_ne a _ v d ?_
            intro he
            have h1 := hfi.1
            rw [he] at h1
            simp only [Bool.and_eq_true, decide_eq_true_eq] at h1
            have := List.all_eq_true.1 h1.2 j (List.mem_range.2 hj)
            simp [hji, hd] at this
        rw [hval]
        exact hR j _ w w' (h.done j hj hlj') hb

/-- THE LAW, with a last operation that waits for all the others. -/
theorem region_last {id : Nat} {a0 : Act} {w : World} (hm : P.follows .mixedOrders = true) (R : Nat → Value → World → Prop) (hf : fine ops a0.tmps.size = true) (L : Nat) (hL : lastAll ops L = true)
    (hR : ∀ i v w w', R i v w → Below w.heap.size w w' → R i v w')
    (step : ∀ i o, ops[i]? = some o → i ≠ L → ∀ a w', Pre ops a0 w.drew R o a w' → wpOp P ops Q i (fun a' w'' => ∃ v, a' = a.put o.dst v ∧ (o.dst = none → v = undef) ∧ R i v w'' ∧ Below w'.heap.size w' w'') a w')
    (fin : ∀ a w', a.tmps.size = a0.tmps.size → a.defers = a0.defers → (∀ t, writes ops t = false → a.tmps.getD t undef = a0.tmps.getD t undef) → (∀ i, i < L → R i (val ops a i) w') → Below w.heap.size w w' → wpOp P ops Q L (fun a' w' => Q .normal a' w') a w') :
    (Code.region id ops true).wp P Q a0 w := by
  refine wp_region_any hm ?_
  have hleft : ∀ n, left (Array.replicate n false) = n := by intro n; simp [left, List.countP_replicate]
  refine any_last (w0 := w.drew) hf L hL hR step (fun a w' h1 h2 h3 h4 h5 => fin a w' h1 h2 h3 h4 ((Below.refl w.heap.size w).drew.trans h5)) ops.size _ a0 _ (by simp) (by unfold lastAll at hL; simp only [Bool.and_eq_true, decide_eq_true_eq] at hL; have h1 := hL.1; simp [Array.getD_eq_getD_getElem?, show L < ops.size by omega]) (by rw [hleft]; exact Nat.le_refl _) ⟨rfl, rfl, fun _ _ => rfl, fun i hi h => ?_, Below.refl _ _⟩
  simp [Array.getD_eq_getD_getElem?, hi] at h

end
end Go.Proofs.Ytfpennnbicclfaa.Rg
