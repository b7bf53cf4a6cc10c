/- A region whose order is left open, whatever stands in it: one step an operation, in whatever act and world may lie before it. Each operation has a word on the value that it leaves; the words stay true while memory only grows. -/
import Derived.Orders
import Derived.Below
namespace Go.Proofs.Ytfpennnbicclfaa.Rg
open Go Go.RowKit

section
variable {P : Program} {ops : Array Oper} {Q : Exit → Act → World → Prop}

def dstOf (ops : Array Oper) (i : Nat) : Option Tmp := (ops[i]?).bind (·.dst)
def val (ops : Array Oper) (a : Act) (i : Nat) : Value := match dstOf ops i with | some d => a.tmps.getD d undef | none => undef
/-- Does some operation of the region write this slot? -/
def writes (ops : Array Oper) (t : Nat) : Bool := ops.toList.any fun o => o.dst == some t
/-- Each slot is written once, none beyond the frame; each waits for earlier ones alone. -/
def fine (ops : Array Oper) (n : Nat) : Bool :=
  (List.range ops.size).all fun i =>
    match ops[i]? with
    | none => true
    | some o => (match o.dst with | none => true | some d => decide (d < n) && (List.range ops.size).all (fun j => j == i || dstOf ops j != some d)) && o.after.all (fun e => !Region.binds .any e || decide (e.on < i))

structure St (ops : Array Oper) (a0 : Act) (w0 : World) (R : Nat → Value → World → Prop) (listed : Array Bool) (a : Act) (w : World) : Prop where
  size : a.tmps.size = a0.tmps.size
  defers : a.defers = a0.defers
  rest : ∀ t, writes ops t = false → a.tmps.getD t undef = a0.tmps.getD t undef
  done : ∀ i, i < ops.size → listed.getD i false = true → R i (val ops a i) w
  grew : Below w0.heap.size w0 w

/-- What a step may lean on. -/
structure Pre (ops : Array Oper) (a0 : Act) (w0 : World) (R : Nat → Value → World → Prop) (o : Oper) (a : Act) (w : World) : Prop where
  size : a.tmps.size = a0.tmps.size
  rest : ∀ t, writes ops t = false → a.tmps.getD t undef = a0.tmps.getD t undef
  dep : ∀ e ∈ o.after, Region.binds .any e = true → R e.on (val ops a e.on) w
  grew : Below w0.heap.size w0 w

theorem writes_of {i : Nat} {t : Tmp} (h : dstOf ops i = some t) : writes ops t = true := by
  unfold dstOf at h
  cases ho : ops[i]? with
  | none => simp [ho] at h
  | some o =>
    simp only [ho, Option.bind_some] at h
    unfold writes
    rw [List.any_eq_true]
    exact ⟨o, by rw [Array.mem_toList_iff]; exact Array.mem_of_getElem? ho, by simp [h]⟩

theorem getD_put_ne (a : Act) (d : Option Tmp) (v : Value) (t : Nat) (h : d ≠ some t) : (a.put d v).tmps.getD t undef = a.tmps.getD t undef := by
  cases d with
  | none => rfl
  | some d =>
    have : d ≠ t := fun e => h (by rw [e])
    simp [Act.put, Array.getD_eq_getD_getElem?, this]
theorem getD_put_eq (a : Act) (d : Tmp) (v : Value) (h : d < a.tmps.size) : (a.put (some d) v).tmps.getD d undef = v := by
  simp [Act.put, Array.getD_eq_getD_getElem?, h]
theorem size_put (a : Act) (d : Option Tmp) (v : Value) : (a.put d v).tmps.size = a.tmps.size := by cases d <;> simp [Act.put]
theorem defers_put (a : Act) (d : Option Tmp) (v : Value) : (a.put d v).defers = a.defers := by cases d <;> rfl

def left (listed : Array Bool) : Nat := listed.toList.countP (fun b => !b)
theorem left_set {listed : Array Bool} {i : Nat} (h : i < listed.size) (hi : listed.getD i true = false) : left (listed.setIfInBounds i true) + 1 = left listed := by
  obtain ⟨l⟩ := listed
  simp only [left, List.setIfInBounds_toArray, List.toList_toArray] at *
  simp only [List.size_toArray] at h
  have hi' : l[i]? = some false := by
    simp [Array.getD_eq_getD_getElem?, List.getElem?_eq_getElem h] at hi
    rw [List.getElem?_eq_getElem h, hi]
  clear hi
  induction l generalizing i with
  | nil => simp at h
  | cons b l ih =>
    cases i with
    | zero =>
      simp at hi'
      subst hi'
      simp
    | succ i =>
      have := ih (i := i) (by simpa using h) (by simpa using hi')
      simp only [List.set_cons_succ, List.countP_cons]
      omega
theorem all_of_left {listed : Array Bool} (h : left listed = 0) {i : Nat} (hi : i < listed.size) : listed.getD i true = true := by
  unfold left at h
  rw [List.countP_eq_zero] at h
  have := h listed[i] (by simp)
  simp [Array.getD_eq_getD_getElem?, hi] at this ⊢
  exact this

theorem all_of_ready {n : Nat} (hf : fine ops n = true) {listed : Array Bool} (hs : listed.size = ops.size) (hr : Region.ready .any ops listed = []) : ∀ i, i < ops.size → listed.getD i true = true := by
  intro i
  induction i using Nat.strongRecOn with
  | ind i ih =>
    intro hi
    cases hc : listed.getD i true with
    | true => rfl
    | false =>
      exfalso
      have hm : i ∈ Region.ready .any ops listed := by
        rw [mem_ready]
        refine ⟨hc, ops[i], Array.getElem?_eq_getElem hi, fun e he hb => ?_⟩
        have h1 := List.all_eq_true.1 hf i (List.mem_range.2 hi)
        simp only [Array.getElem?_eq_getElem hi, Bool.and_eq_true] at h1
        have h2 := Array.all_eq_true_iff_forall_mem.1 h1.2 e he
        simp only [hb, Bool.not_true, Bool.false_or, decide_eq_true_eq] at h2
        have h3 := ih e.on h2 (by omega)
        have hlt : e.on < listed.size := by omega
        simp [Array.getD_eq_getD_getElem?, hlt] at h3 ⊢
        exact h3
      rw [hr] at hm
      cases hm

theorem any_each {a0 : Act} {w0 : World} {R : Nat → Value → World → Prop} (hf : fine ops a0.tmps.size = true)
    (hR : ∀ i v w w', R i v w → Below w.heap.size w w' → R i v w')
    (step : ∀ i o, ops[i]? = some o → ∀ a w, Pre ops a0 w0 R o a w → wpOp P ops Q i (fun a' w' => ∃ v, a' = a.put o.dst v ∧ (o.dst = none → v = undef) ∧ R i v w' ∧ Below w.heap.size w w') a w)
    (fin : ∀ a w, a.tmps.size = a0.tmps.size → a.defers = a0.defers → (∀ t, writes ops t = false → a.tmps.getD t undef = a0.tmps.getD t undef) → (∀ i, i < ops.size → R i (val ops a i) w) → Below w0.heap.size w0 w → Q .normal a w) :
    ∀ (fuel : Nat) (listed : Array Bool) (a : Act) (w : World), listed.size = ops.size → left listed ≤ fuel → St ops a0 w0 R listed a w → wpAny P .any ops Q fuel listed a w := by
  have hend : ∀ (listed : Array Bool) (a : Act) (w : World), listed.size = ops.size → St ops a0 w0 R listed a w → (∀ i, i < ops.size → listed.getD i true = true) → Q .normal a w := by
    intro listed a w hs h hall
    refine fin a w h.size h.defers h.rest (fun i hi => h.done i hi ?_) h.grew
    have := hall i hi
    have hlt : i < listed.size := by omega
    simp [Array.getD_eq_getD_getElem?, hlt] at this ⊢
    exact this
  intro fuel
  induction fuel with
  | zero =>
    intro listed a w hs hl h
    have hall : ∀ i, i < ops.size → listed.getD i true = true := fun i hi => all_of_left (by omega) (by omega)
    refine ⟨?_, hend listed a w hs h hall⟩
    cases hr : Region.ready .any ops listed with
    | nil => rfl
    | cons j l =>
      exfalso
      have hj : j ∈ Region.ready .any ops listed := by rw [hr]; simp
      obtain ⟨h0, o, ho, _⟩ := mem_ready.1 hj
      rw [hall j (Array.getElem?_eq_some_iff.1 ho).1] at h0
      cases h0
  | succ fuel ih =>
    intro listed a w hs hl h
    refine ⟨fun hr => hend listed a w hs h (all_of_ready hf hs hr), fun i hi => ?_⟩
    obtain ⟨h0, o, ho, hdep⟩ := mem_ready.1 hi
    have hilt : i < ops.size := (Array.getElem?_eq_some_iff.1 ho).1
    have hfi := List.all_eq_true.1 hf i (List.mem_range.2 hilt)
    simp only [ho, Bool.and_eq_true] at hfi
    have honlt : ∀ e ∈ o.after, Region.binds .any e = true → e.on < ops.size := by
      intro e he hb
      have := Array.all_eq_true_iff_forall_mem.1 hfi.2 e he
      simp only [hb, Bool.not_true, Bool.false_or, decide_eq_true_eq] at this
      omega
    refine wpOp_mono ?_ (step i o ho a w ⟨h.size, h.rest, fun e he hb => h.done e.on (honlt e he hb) (hdep e he hb), h.grew⟩)
    rintro a' w' ⟨v, rfl, hnone, hv, hb⟩
    have hg : Below w0.heap.size w0 w' := h.grew.trans (hb.mono h.grew.size)
    refine ih _ _ _ (by simpa using hs) (by have := left_set (by omega) h0; omega) ⟨by rw [size_put]; exact h.size, by rw [defers_put]; exact h.defers, ?_, ?_, hg⟩
    · intro t ht
      rw [getD_put_ne]
      · exact h.rest t ht
      · intro hd
        have hdi : dstOf ops i = some t := by simp [dstOf, ho, hd]
        rw [writes_of hdi] at ht
        cases ht
    · intro j hj hlj
      by_cases hji : j = i
      · subst hji
        have hval : val ops (a.put o.dst v) j = v := by
          unfold val dstOf
          simp only [ho, Option.bind_some]
          cases hd : o.dst with
          | none => exact (hnone hd).symm
          | some d =>
            have h1 := hfi.1
            rw [hd] at h1
            simp only [Bool.and_eq_true, decide_eq_true_eq] at h1
            exact getD_put_eq a d v (by rw [h.size]; exact h1.1)
        rw [hval]
        exact hv
      · have hlj' : listed.getD j false = true := by rwa [getD_set_ne false (Ne.symm hji)] at hlj
        have hval : val ops (a.put o.dst v) j = val ops a j := by
          unfold val
          cases hd : dstOf ops j with
          | none => rfl
          | some d =>
            refine getD_put_ne a _ v d ?_
            intro he
            have h1 := hfi.1
            rw [he] at h1
            simp only [Bool.and_eq_true, decide_eq_true_eq] at h1
            have := List.all_eq_true.1 h1.2 j (List.mem_range.2 hj)
            simp [hji, hd] at this
        rw [hval]
        exact hR j _ w w' (h.done j hj hlj') hb

/-- THE LAW. -/
theorem region_each {id : Nat} {a0 : Act} {w : World} (hm : P.follows .mixedOrders = true) (R : Nat → Value → World → Prop) (hf : fine ops a0.tmps.size = true)
    (hR : ∀ i v w w', R i v w → Below w.heap.size w w' → R i v w')
    (step : ∀ i o, ops[i]? = some o → ∀ a w', Pre ops a0 w.drew R o a w' → wpOp P ops Q i (fun a' w'' => ∃ v, a' = a.put o.dst v ∧ (o.dst = none → v = undef) ∧ R i v w'' ∧ Below w'.heap.size w' w'') a w')
    (fin : ∀ a w', a.tmps.size = a0.tmps.size → a.defers = a0.defers → (∀ t, writes ops t = false → a.tmps.getD t undef = a0.tmps.getD t undef) → (∀ i, i < ops.size → R i (val ops a i) w') → Below w.heap.size w w' → Q .normal a w') :
    (Code.region id ops true).wp P Q a0 w := by
  refine wp_region_any hm ?_
  have hleft : ∀ n, left (Array.replicate n false) = n := by intro n; simp [left, List.countP_replicate]
  refine any_each (w0 := w.drew) hf hR step (fun a w' h1 h2 h3 h4 h5 => fin a w' h1 h2 h3 h4 ((Below.refl w.heap.size w).drew.trans h5)) ops.size _ a0 _ (by simp) (by rw [hleft]; exact Nat.le_refl _) ⟨rfl, rfl, fun _ _ => rfl, fun i hi h => ?_, Below.refl _ _⟩
  simp [Array.getD_eq_getD_getElem?, hi] at h

theorem fold_size (a : Act) : ∀ (ds : List Nat) (x : Act), (ds.foldl (fun x d => x.put (some d) (a.tmps.getD d undef)) x).tmps.size = x.tmps.size
  | [], _ => rfl
  | d :: ds, x => by rw [List.foldl_cons, fold_size a ds, size_put]
theorem fold_defers (a : Act) : ∀ (ds : List Nat) (x : Act), (ds.foldl (fun x d => x.put (some d) (a.tmps.getD d undef)) x).defers = x.defers
  | [], _ => rfl
  | d :: ds, x => by rw [List.foldl_cons, fold_defers a ds, defers_put]
theorem fold_at (a : Act) (t : Nat) : ∀ (ds : List Nat) (x : Act), x.tmps.size = a.tmps.size → (t ∈ ds ∨ x.tmps.getD t undef = a.tmps.getD t undef) → (ds.foldl (fun x d => x.put (some d) (a.tmps.getD d undef)) x).tmps.getD t undef = a.tmps.getD t undef
  | [], x, _, h => by
    rcases h with h | h
    · cases h
    · exact h
  | d :: ds, x, hs, h => by
    rw [List.foldl_cons]
    refine fold_at a t ds _ (by rw [size_put]; exact hs) ?_
    by_cases e : d = t
    · subst e
      right
      by_cases hd : d < x.tmps.size
      · exact getD_put_eq x d _ hd
      · have h1 : ¬ d < a.tmps.size := by omega
        simp [Act.put, Array.getD_eq_getD_getElem?, hd, h1]
    · rcases h with h | h
      · rcases List.mem_cons.1 h with h | h
        · exact absurd h.symm e
        · exact .inl h
      · right
        rw [getD_put_ne _ _ _ _ (fun h => e (Option.some.inj h))]
        exact h
/-- The frame behind a region: what was there, and what the region has written. -/
theorem act_puts {a a0 : Act} (hs : a.tmps.size = a0.tmps.size) (hd : a.defers = a0.defers) (hr : ∀ t, writes ops t = false → a.tmps.getD t undef = a0.tmps.getD t undef) (ds : List Nat)
    (h : (ops.toList.all fun o => match o.dst with | none => true | some d => ds.contains d) = true) : a = ds.foldl (fun x d => x.put (some d) (a.tmps.getD d undef)) a0 := by
  have key : ∀ t, (ds.foldl (fun x d => x.put (some d) (a.tmps.getD d undef)) a0).tmps.getD t undef = a.tmps.getD t undef := by
    intro t
    refine fold_at a t ds a0 hs.symm ?_
    cases hw : writes ops t with
    | false => exact .inr (hr t hw).symm
    | true =>
      left
      unfold writes at hw
      obtain ⟨o, ho, hd⟩ := List.any_eq_true.1 hw
      have h1 := List.all_eq_true.1 h o ho
      rw [beq_iff_eq] at hd
      rw [hd] at h1
      simpa using h1
  have hsz := fold_size a ds a0
  have hdf := fold_defers a ds a0
  generalize ds.foldl (fun x d => x.put (some d) (a.tmps.getD d undef)) a0 = b at *
  obtain ⟨ta, da⟩ := a
  obtain ⟨tb, db⟩ := b
  simp only at *
  have : ta = tb := by
    apply Array.ext
    · omega
    · intro i h1 h2
      have := key i
      simp only [Array.getD_eq_getD_getElem?, Array.getElem?_eq_getElem h1, Array.getElem?_eq_getElem h2, Option.getD_some] at this
      exact this.symm
  subst this
  rw [hd, hdf]
/-! ### For a region that is written out -/
@[reducible] def Each (p : Nat → Oper → Prop) : Nat → List Oper → Prop
  | _, [] => True
  | k, o :: l => p k o ∧ Each p (k + 1) l
theorem each_get {p : Nat → Oper → Prop} : ∀ (l : List Oper) (k : Nat), Each p k l → ∀ i o, l[i]? = some o → p (k + i) o
  | [], _, _, i, o, h => by simp at h
  | x :: l, k, ⟨h1, h2⟩, i, o, h => by
    cases i with
    | zero => simp at h; subst h; exact h1
    | succ i =>
      have := each_get l (k + 1) h2 i o (by simpa using h)
      rwa [Nat.add_assoc, Nat.add_comm 1 i] at this
theorem by_each {p : Nat → Oper → Prop} (l : List Oper) (h : Each p 0 l) : ∀ i o, l.toArray[i]? = some o → p i o := by
  intro i o hi
  have := each_get l 0 h i o (by simpa using hi)
  rwa [Nat.zero_add] at this

theorem Pre.at_ {a0 : Act} {w0 : World} {R : Nat → Value → World → Prop} {o : Oper} {a : Act} {w : World} (hp : Pre ops a0 w0 R o a w) (j : Nat) (h : (o.after.toList.any fun e => e.on == j && Region.binds .any e) = true) : R j (val ops a j) w := by
  rw [List.any_eq_true] at h
  obtain ⟨e, he, hb⟩ := h
  simp only [Bool.and_eq_true, beq_iff_eq] at hb
  have := hp.dep e (Array.mem_toList_iff.1 he) hb.2
  rw [hb.1] at this
  exact this

theorem wanted_none {o : Oper} {a : Act} (h : o.guard = none) : Region.wanted o (yielded ops a.tmps) = true := by simp [Region.wanted, h]
theorem wanted_not {o : Oper} {a : Act} {g : Nat} {b : Bool} {d : Tmp} (h : o.guard = some (g, b)) (hd : dstOf ops g = some d) (hv : a.eval (.tmp d) = .bool (!b)) : Region.wanted o (yielded ops a.tmps) = false := by
  have h1 : a.tmps[d]? = some (.bool (!b)) := by
    have hv' : a.tmps.getD d undef = .bool (!b) := hv
    rw [Array.getD_eq_getD_getElem?] at hv'
    cases hx : a.tmps[d]? with
    | none => rw [hx] at hv'; simp [undef] at hv'
    | some x => rw [hx] at hv'; simp at hv'; rw [hv']
  have h2 : yielded ops a.tmps g = some (!b) := by
    unfold yielded
    unfold dstOf at hd
    simp [hd, h1]
  cases b <;> simp [Region.wanted, h, h2]
theorem wanted_some {o : Oper} {a : Act} {g : Nat} {b : Bool} {d : Tmp} (h : o.guard = some (g, b)) (hd : dstOf ops g = some d) (hv : a.eval (.tmp d) = .bool b) : Region.wanted o (yielded ops a.tmps) = true := by
  have h1 : a.tmps[d]? = some (.bool b) := by
    have hv' : a.tmps.getD d undef = .bool b := hv
    rw [Array.getD_eq_getD_getElem?] at hv'
    cases hx : a.tmps[d]? with
    | none => rw [hx] at hv'; simp [undef] at hv'
    | some x => rw [hx] at hv'; simp at hv'; rw [hv']
  have h2 : yielded ops a.tmps g = some b := by
    unfold yielded
    have : ((ops[g]?).bind (·.dst)) = some d := hd
    rw [this, Option.bind_some, h1]
  simp [Region.wanted, h, h2]

theorem wanted_undef {o : Oper} {a : Act} {g : Nat} {b : Bool} {d : Tmp} (h : o.guard = some (g, b)) (hd : dstOf ops g = some d) (hv : a.eval (.tmp d) = undef) : Region.wanted o (yielded ops a.tmps) = false := by
  have h1 : yielded ops a.tmps g = none := by
    have hv' : a.tmps.getD d undef = undef := hv
    rw [Array.getD_eq_getD_getElem?] at hv'
    unfold yielded
    unfold dstOf at hd
    rw [hd, Option.bind_some]
    cases hx : a.tmps[d]? with
    | none => rfl
    | some x =>
      rw [hx] at hv'
      simp only [Option.getD_some] at hv'
      subst hv'
      rfl
  simp [Region.wanted, h, h1]
/-- An operation whose guard says no: it leaves nothing behind. -/
theorem step_skip {i : Nat} {o : Oper} {a : Act} {w : World} {p : Value → World → Prop} (ho : ops[i]? = some o) (hw : Region.wanted o (yielded ops a.tmps) = false) (hr : p undef w) :
    wpOp P ops Q i (fun a' w'' => ∃ v, a' = a.put o.dst v ∧ (o.dst = none → v = undef) ∧ p v w'' ∧ Below w.heap.size w w'') a w := by
  unfold wpOp
  simp only [ho, hw]
  exact ⟨undef, rfl, fun _ => rfl, hr, Below.refl _ _⟩
theorem step_run {i : Nat} {o : Oper} {a : Act} {w w' : World} {v : Value} {p : Value → World → Prop} (ho : ops[i]? = some o) (hw : Region.wanted o (yielded ops a.tmps) = true) (hd : o.dst ≠ none)
    (hrun : (execOp a.eval o).run P w = .ok (.value v) w') (hr : p v w') (hb : Below w.heap.size w w') :
    wpOp P ops Q i (fun a' w'' => ∃ v, a' = a.put o.dst v ∧ (o.dst = none → v = undef) ∧ p v w'' ∧ Below w.heap.size w w'') a w := by
  unfold wpOp
  simp only [ho, hw, if_true, Oper.wp, hrun, Oper.upon]
  exact .inl ⟨v, rfl, fun h => absurd h hd, hr, hb⟩
theorem step_call {i : Nat} {o : Oper} {a : Act} {w : World} {f : FuncId} {args : Array Value} {p : Value → World → Prop} (ho : ops[i]? = some o) (hw : Region.wanted o (yielded ops a.tmps) = true) (hd : o.dst ≠ none)
    (hrun : (execOp a.eval o).run P w = .ok (.enter f args) w) (hc : Calls P f args w fun e w' => ∃ v, e = .returned v ∧ p v w' ∧ Below w.heap.size w w') :
    wpOp P ops Q i (fun a' w'' => ∃ v, a' = a.put o.dst v ∧ (o.dst = none → v = undef) ∧ p v w'' ∧ Below w.heap.size w w'') a w := by
  unfold wpOp
  simp only [ho, hw, if_true, Oper.wp, hrun, Oper.upon]
  refine .inl (hc.mono fun e w' he => ?_)
  obtain ⟨v, rfl, h1, h2⟩ := he
  exact ⟨v, rfl, fun h => absurd h hd, h1, h2⟩
end

theorem eval_at (a : Act) : (∀ v, a.eval (.const v) = v) ∧ (∀ g, a.eval (.global g) = .pointer (some ⟨g, 0, none⟩)) ∧ (∀ f, a.eval (.func f) = .func (.func f) #[] #[]) := ⟨fun _ => rfl, fun _ => rfl, fun _ => rfl⟩
/-- A word that stays true while memory grows. -/
def Mono (p : Value → World → Prop) : Prop := ∀ v w w', p v w → Below w.heap.size w w' → p v w'
theorem mono_eq (c : Value) : Mono (fun v _ => v = c) := fun _ _ _ h _ => h
theorem mono_getD (l : List (Value → World → Prop)) (h : ∀ p ∈ l, Mono p) : ∀ i v w w', (l.getD i (fun _ _ => True)) v w → Below w.heap.size w w' → (l.getD i (fun _ _ => True)) v w' := by
  intro i v w w' hp hb
  rw [List.getD_eq_getElem?_getD] at *
  cases hi : l[i]? with
  | none => rw [hi] at hp; exact hp
  | some p =>
    rw [hi] at hp
    exact h p (List.mem_of_getElem? hi) v w w' hp hb
end Go.Proofs.Ytfpennnbicclfaa.Rg
