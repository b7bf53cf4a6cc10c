/- A region whose order is left open, as XRegion, where the words may say what has been done so far: stores into what the region itself has made, rows that are appended to. Each step says itself which words stay. -/
import Derived.Test.YtlmlhjepolefaaaRegion
namespace Go.Proofs.Ytlmlhjepolefaaa.Rgi
open Go Go.RowKit Rg

/-- Done so far, and one more. -/
def upd (L : Nat → Bool) (i : Nat) : Nat → Bool := fun k => if k = i then true else L k
section
variable {P : Program} {ops : Array Oper} {Q : Exit → Act → World → Prop}
abbrev Wd := (Nat → Bool) → Nat → Value → World → Prop
def lst (listed : Array Bool) : Nat → Bool := fun k => listed.getD k false
structure St (ops : Array Oper) (a0 : Act) (w0 : World) (R : Wd) (listed : Array Bool) (a : Act) (w : World) : Prop where
  size : a.tmps.size = a0.tmps.size
  defers : a.defers = a0.defers
  rest : ∀ t, writes ops t = false → a.tmps.getD t undef = a0.tmps.getD t undef
  done : ∀ i, i < ops.size → lst listed i = true → R (lst listed) i (val ops a i) w
  grew : Below w0.heap.size w0 w

/-- What a step may lean on. -/
structure Pre (ops : Array Oper) (a0 : Act) (w0 : World) (R : Wd) (i : Nat) (L : Nat → Bool) (o : Oper) (a : Act) (w : World) : Prop where
  size : a.tmps.size = a0.tmps.size
  rest : ∀ t, writes ops t = false → a.tmps.getD t undef = a0.tmps.getD t undef
  new : L i = false
  dep : ∀ e ∈ o.after, Region.binds .any e = true → L e.on = true ∧ R L e.on (val ops a e.on) w
  all : ∀ j, j < ops.size → L j = true → R L j (val ops a j) w
  ord : ∀ j o', ops[j]? = some o' → L j = true → ∀ e ∈ o'.after, Region.binds .any e = true → L e.on = true
  grew : Below w0.heap.size w0 w

theorem any_each {a0 : Act} {w0 : World} {R : Wd} (hf : fine ops a0.tmps.size = true)
    (step : ∀ i o, ops[i]? = some o → ∀ L a w, Pre ops a0 w0 R i L o a w → wpOp P ops Q i (fun a' w' => ∃ v, a' = a.put o.dst v ∧ (o.dst = none → v = undef) ∧ R (upd L i) i v w' ∧ (∀ j, j < ops.size → L j = true → R L j (val ops a j) w → R (upd L i) j (val ops a j) w') ∧ Below w0.heap.size w0 w') a w)
    (fin : ∀ L a w, a.tmps.size = a0.tmps.size → a.defers = a0.defers → (∀ t, writes ops t = false → a.tmps.getD t undef = a0.tmps.getD t undef) → (∀ i, i < ops.size → L i = true) → (∀ i, i < ops.size → R L i (val ops a i) w) → Below w0.heap.size w0 w → Q .normal a w) :
    ∀ (fuel : Nat) (listed : Array Bool) (a : Act) (w : World), listed.size = ops.size → left listed ≤ fuel → (∀ j o', ops[j]? = some o' → lst listed j = true → ∀ e ∈ o'.after, Region.binds .any e = true → lst listed e.on = true) → St ops a0 w0 R listed a w → wpAny P .any ops Q fuel listed a w := by
  have hend : ∀ (listed : Array Bool) (a : Act) (w : World), listed.size = ops.size → St ops a0 w0 R listed a w → (∀ i, i < ops.size → listed.getD i true = true) → Q .normal a w := by
    intro listed a w hs h hall
    have hL : ∀ i, i < ops.size → lst listed i = true := fun i hi => by
      have := hall i hi
      have hlt : i < listed.size := by omega
      unfold lst
      simp [Array.getD_eq_getD_getElem?, hlt] at this ⊢
      exact this
    exact fin (lst listed) a w h.size h.defers h.rest hL (fun i hi => h.done i hi (hL i hi)) h.grew
  intro fuel
  induction fuel with
  | zero =>
    intro listed a w hs hl hor h
    have hall : ∀ i, i < ops.size → listed.getD i true = true := fun i hi => all_of_left (by omega) (by omega)
    refine ⟨?_, hend listed a w hs h hall⟩
    cases hr : Region.ready .any ops listed with
    | nil => rfl
    | cons j l =>
      exfalso
      have hj : j ∈ Region.ready .any ops listed := by rw [hr]; simp
      obtain ⟨h0, o, ho, _⟩ := mem_ready.1 hj
      rw [hall j (Array.getElem?_eq_some_iff.1 ho).1] at h0
      cases h0
  | succ fuel ih =>
    intro listed a w hs hl hor h
    refine ⟨fun hr => hend listed a w hs h (all_of_ready hf hs hr), fun i hi => ?_⟩
    obtain ⟨h0, o, ho, hdep⟩ := mem_ready.1 hi
    have hilt : i < ops.size := (Array.getElem?_eq_some_iff.1 ho).1
    have hfi := List.all_eq_true.1 hf i (List.mem_range.2 hilt)
    simp only [ho, Bool.and_eq_true] at hfi
    have honlt : ∀ e ∈ o.after, Region.binds .any e = true → e.on < ops.size := by
      intro e he hb
      have := Array.all_eq_true_iff_forall_mem.1 hfi.2 e he
      simp only [hb, Bool.not_true, Bool.false_or, decide_eq_true_eq] at this
      omega
    have hnew : lst listed i = false := by
      have hlt : i < listed.size := by omega
      unfold lst
      simp [Array.getD_eq_getD_getElem?, hlt] at h0 ⊢
      exact h0
    have hupd : lst (listed.setIfInBounds i true) = upd (lst listed) i := by
      funext k
      unfold lst upd
      by_cases e : k = i
      · subst e
        have hlt : k < listed.size := by omega
        simp [Array.getD_eq_getD_getElem?, hlt]
      · rw [if_neg e]
        exact getD_set_ne false (Ne.symm e)
    refine wpOp_mono ?_ (step i o ho (lst listed) a w ⟨h.size, h.rest, hnew, fun e he hb => ⟨hdep e he hb, h.done e.on (honlt e he hb) (hdep e he hb)⟩, h.done, hor, h.grew⟩)
    rintro a' w' ⟨v, rfl, hnone, hv, hst, hg⟩
    refine ih _ _ _ (by simpa using hs) (by have := left_set (by omega) h0; omega) ?_ ⟨by rw [size_put]; exact h.size, by rw [defers_put]; exact h.defers, ?_, ?_, hg⟩
    · rw [hupd]
      intro j o' ho' hj e he hb
      unfold upd at hj ⊢
      by_cases hei : e.on = i
      · rw [if_pos hei]
      · rw [if_neg hei]
        by_cases hji : j = i
        · subst hji
          rw [ho] at ho'
          obtain rfl := Option.some.inj ho'
          exact hdep e he hb
        · rw [if_neg hji] at hj
          exact hor j o' ho' hj e he hb
    · intro t ht
      rw [getD_put_ne]
      · exact h.rest t ht
      · intro hd
        have hdi : dstOf ops i = some t := by simp [dstOf, ho, hd]
        rw [writes_of hdi] at ht
        cases ht
    · rw [hupd]
      intro j hj hlj
      by_cases hji : j = i
      · subst hji
        have hval : val ops (a.put o.dst v) j = v := by
          unfold val dstOf
          simp only [ho, Option.bind_some]
          cases hd : o.dst with
          | none => exact (hnone hd).symm
          | some d =>
            have h1 := hfi.1
            rw [hd] at h1
            simp only [Bool.and_eq_true, decide_eq_true_eq] at h1
            exact getD_put_eq a d v (by rw [h.size]; exact h1.1)
        rw [hval]
        exact hv
      · have hlj' : lst listed j = true := by unfold upd at hlj; rwa [if_neg hji] at hlj
        have hval : val ops (a.put o.dst v) j = val ops a j := by
          unfold val
          cases hd : dstOf ops j with
          | none => rfl
          | some d =>
            refine getD_put_ne a _ v d ?_
            intro he
            have h1 := hfi.1
            rw [he] at h1
            simp only [Bool.and_eq_true, decide_eq_true_eq] at h1
            have := List.all_eq_true.1 h1.2 j (List.mem_range.2 hj)
            simp [hji, hd] at this
        rw [hval]
        exact hst j hj hlj' (h.done j hj hlj')

/-- THE LAW. -/
theorem region_each {id : Nat} {a0 : Act} {w : World} (hm : P.follows .mixedOrders = true) (R : Wd) (hf : fine ops a0.tmps.size = true)
    (step : ∀ i o, ops[i]? = some o → ∀ L a w', Pre ops a0 w.drew R i L o a w' → wpOp P ops Q i (fun a' w'' => ∃ v, a' = a.put o.dst v ∧ (o.dst = none → v = undef) ∧ R (upd L i) i v w'' ∧ (∀ j, j < ops.size → L j = true → R L j (val ops a j) w' → R (upd L i) j (val ops a j) w'') ∧ Below w.drew.heap.size w.drew w'') a w')
    (fin : ∀ L a w', a.tmps.size = a0.tmps.size → a.defers = a0.defers → (∀ t, writes ops t = false → a.tmps.getD t undef = a0.tmps.getD t undef) → (∀ i, i < ops.size → L i = true) → (∀ i, i < ops.size → R L i (val ops a i) w') → Below w.heap.size w w' → Q .normal a w') :
    (Code.region id ops true).wp P Q a0 w := by
  refine wp_region_any hm ?_
  have hleft : ∀ n, left (Array.replicate n false) = n := by intro n; simp [left, List.countP_replicate]
  have hno : ∀ i, lst (Array.replicate ops.size false) i = false := fun i => by
    unfold lst
    rw [Array.getD_eq_getD_getElem?, Array.getElem?_replicate]
    split <;> rfl
  refine any_each (w0 := w.drew) hf step (fun L a w' h1 h2 h3 h4 h5 h6 => fin L a w' h1 h2 h3 h4 h5 ((Below.refl w.heap.size w).drew.trans h6)) ops.size _ a0 _ (by simp) (by rw [hleft]; exact Nat.le_refl _) (fun j _ _ h => by rw [hno] at h; cases h) ⟨rfl, rfl, fun _ _ => rfl, fun i hi h => ?_, Below.refl _ _⟩
  rw [hno] at h
  cases h

theorem Pre.at_ {a0 : Act} {w0 : World} {R : Wd} {i : Nat} {L : Nat → Bool} {o : Oper} {a : Act} {w : World} (hp : Pre ops a0 w0 R i L o a w) (j : Nat) (h : (o.after.toList.any fun e => e.on == j && Region.binds .any e) = true) : L j = true ∧ R L j (val ops a j) w := by
  rw [List.any_eq_true] at h
  obtain ⟨e, he, hb⟩ := h
  simp only [Bool.and_eq_true, beq_iff_eq] at hb
  have := hp.dep e (Array.mem_toList_iff.1 he) hb.2
  rw [hb.1] at this
  exact this
/-- What a done one waits for is done. -/
theorem Pre.down {a0 : Act} {w0 : World} {R : Wd} {i : Nat} {L : Nat → Bool} {o : Oper} {a : Act} {w : World} (hp : Pre ops a0 w0 R i L o a w) (j k : Nat) (o' : Oper) (ho : ops[j]? = some o') (h : (o'.after.toList.any fun e => e.on == k && Region.binds .any e) = true) (hj : L j = true) : L k = true := by
  rw [List.any_eq_true] at h
  obtain ⟨e, he, hb⟩ := h
  simp only [Bool.and_eq_true, beq_iff_eq] at hb
  have := hp.ord j o' ho hj e (Array.mem_toList_iff.1 he) hb.2
  rwa [hb.1] at this
/-- What waits for this one is not done yet. -/
theorem Pre.not {a0 : Act} {w0 : World} {R : Wd} {i : Nat} {L : Nat → Bool} {o : Oper} {a : Act} {w : World} (hp : Pre ops a0 w0 R i L o a w) (j : Nat) (o' : Oper) (ho : ops[j]? = some o') (h : (o'.after.toList.any fun e => e.on == i && Region.binds .any e) = true) : L j = false := by
  cases hj : L j with
  | false => rfl
  | true =>
    rw [List.any_eq_true] at h
    obtain ⟨e, he, hb⟩ := h
    simp only [Bool.and_eq_true, beq_iff_eq] at hb
    have := hp.ord j o' ho hj e (Array.mem_toList_iff.1 he) hb.2
    rw [hb.1, hp.new] at this
    cases this
abbrev After (ops : Array Oper) (R : Wd) (L : Nat → Bool) (w0 : World) (i : Nat) (o : Oper) (a : Act) (w : World) : Act → World → Prop := fun a' w'' => ∃ v, a' = a.put o.dst v ∧ (o.dst = none → v = undef) ∧ R (upd L i) i v w'' ∧ (∀ j, j < ops.size → L j = true → R L j (val ops a j) w → R (upd L i) j (val ops a j) w'') ∧ Below w0.heap.size w0 w''
variable {R : Wd} {L : Nat → Bool} {w0 : World}
theorem step_run {i : Nat} {o : Oper} {a : Act} {w w' : World} {v : Value} (ho : ops[i]? = some o) (hw : Region.wanted o (yielded ops a.tmps) = true) (hd : o.dst ≠ none)
    (hrun : (execOp a.eval o).run P w = .ok (.value v) w') (hr : R (upd L i) i v w') (hs : ∀ j, j < ops.size → L j = true → R L j (val ops a j) w → R (upd L i) j (val ops a j) w') (hb : Below w0.heap.size w0 w') :
    wpOp P ops Q i (After ops R L w0 i o a w) a w := by
  unfold wpOp
  simp only [ho, hw, if_true, Oper.wp, hrun, Oper.upon]
  exact .inl ⟨v, rfl, fun h => absurd h hd, hr, hs, hb⟩
theorem step_done {i : Nat} {o : Oper} {a : Act} {w w' : World} (ho : ops[i]? = some o) (hw : Region.wanted o (yielded ops a.tmps) = true)
    (hrun : (execOp a.eval o).run P w = .ok .skip w') (hr : R (upd L i) i undef w') (hs : ∀ j, j < ops.size → L j = true → R L j (val ops a j) w → R (upd L i) j (val ops a j) w') (hb : Below w0.heap.size w0 w') :
    wpOp P ops Q i (After ops R L w0 i o a w) a w := by
  unfold wpOp
  simp only [ho, hw, if_true, Oper.wp, hrun, Oper.upon]
  exact .inl ⟨undef, rfl, fun _ => rfl, hr, hs, hb⟩
theorem step_call {i : Nat} {o : Oper} {a : Act} {w : World} {f : FuncId} {args : Array Value} (ho : ops[i]? = some o) (hw : Region.wanted o (yielded ops a.tmps) = true) (hd : o.dst ≠ none)
    (hrun : (execOp a.eval o).run P w = .ok (.enter f args) w) (hc : Calls P f args w fun e w' => ∃ v, e = .returned v ∧ R (upd L i) i v w' ∧ (∀ j, j < ops.size → L j = true → R L j (val ops a j) w → R (upd L i) j (val ops a j) w') ∧ Below w0.heap.size w0 w') :
    wpOp P ops Q i (After ops R L w0 i o a w) a w := by
  unfold wpOp
  simp only [ho, hw, if_true, Oper.wp, hrun, Oper.upon]
  refine .inl (hc.mono fun e w' he => ?_)
  obtain ⟨v, rfl, h1, h2, h3⟩ := he
  exact ⟨v, rfl, fun h => absurd h hd, h1, h2, h3⟩
theorem step_wp {i : Nat} {o : Oper} {a : Act} {w : World} {K : Act → World → Prop} {E : Prop} (ho : ops[i]? = some o) (hw : Region.wanted o (yielded ops a.tmps) = true)
    (h : if Region.wanted o (yielded ops a.tmps) = true then Oper.wp P o a w K Q else E) : wpOp P ops Q i K a w := by
  rw [if_pos hw] at h
  unfold wpOp
  simp only [ho, hw, if_true]
  exact .inl h
end
/-- Words as a list. -/
def rows (l : List ((Nat → Bool) → Value → World → Prop)) : Wd := fun L i v w => (l.getD i (fun _ _ _ => True)) L v w
theorem stay {l : List ((Nat → Bool) → Value → World → Prop)} {L L' : Nat → Bool} {w w' : World} (h : ∀ p ∈ l, ∀ v, p L v w → p L' v w') (i : Nat) (v : Value) (hp : rows l L i v w) : rows l L' i v w' := by
  unfold rows at *
  rw [List.getD_eq_getElem?_getD] at *
  cases hi : l[i]? with
  | none => trivial
  | some p =>
    rw [hi] at hp
    exact h p (List.mem_of_getElem? hi) v hp
end Go.Proofs.Ytlmlhjepolefaaa.Rgi
