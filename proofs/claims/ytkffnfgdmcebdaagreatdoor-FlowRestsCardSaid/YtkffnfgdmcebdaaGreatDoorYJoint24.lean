/- Package reach: From, To. A region whose order is left open, whatever stands in it: one step an operation, in whatever act and world may lie before it. Each operation has a word on the value that it leaves; the words stay true while memory only grows. Boards in memory. Package token: copies of rows; a board in memory of its own. -/
import Derived.Test.YtkffnfgdmcebdaaGreatDoorQfY
import Derived.Orders
import Derived.Below
import Derived.Test.YtkffnfgdmcebdaaGreatDoorYJoint23
import Derived.Test.YtkffnfgdmcebdaaGreatDoorYJoint8
import Derived.Test.YtkffnfgdmcebdaaGreatDoorYJoint10
import Derived.Test.YtkffnfgdmcebdaaGreatDoorYJoint22
namespace Go.Proofs.YtkffnfgdmcebdaaGreatDoor
open Go.RowKit

namespace Pr
section
variable (s : ByteArray) (A : Option Addr) (n c : Nat) (F : Option Addr) (m d : Nat) (fl : List Fl)
theorem nxt_len' (n : Nat) (fl : List Fl) {m : Nat} (hm : m ≤ 100000) (u : Nat) : (nxt n fl m u).length ≤ 100000 := Nat.le_trans (nxt_len n fl m u) hm
theorem bck_len' (n : Nat) (fl : List Fl) {m : Nat} (hm : m ≤ 100000) (u : Nat) : (bck n fl m u).length ≤ 100000 := Nat.le_trans (bck_len n fl m u) hm
theorem MarksOut.after {n : Nat} {Q : Nat → Prop} {w w1 w' : World} {e : Ending} (hb : Below w.heap.size w w1) (h : MarksOut n Q w1 e w') : MarksOut n Q w e w' := by
  obtain ⟨⟨g, f, h1, h2, h3, h4⟩, h5⟩ := h
  exact ⟨⟨g, f, h1, h2, Nat.le_trans hb.size h3, h4⟩, hb.trans (h5.mono hb.size)⟩
set_option maxHeartbeats 800000 in
theorem rto_any (node : Int) (w : World) (hF : KRow Fl.κ w w.heap.size F m fl) (hn : n ≤ 100000) (hm : m ≤ 100000) :
    Calls Tryz.prog 91 #[.agg #[.string s, .slice A n c, .slice F m d], .int .i64 node] w (MarksOut n (Comes n (bck n fl m) node) w) := by
  have hba : Below w.heap.size w (w.alloc (.cells #[.string s, .slice A n c, .slice F m d] 30)) := (Below.refl _ _).alloc (Nat.le_refl _) _
  have HC := Lib.hid (Cel.lit w #[.string s, .slice A n c, .slice F m d] 30)
  have HFa := Lib.hid ((hF.below hba (Nat.le_refl _)).mono hba.size)
  have HB := Lib.hid hba
  clear hF hba
  go_enter Tryz.func91, Tryz.ntmps91
  go_upto_region 1 with (fail)
  generalize w.alloc _ = wa at *
  obtain ⟨⟨z0, z1, z2⟩, _⟩ := tri_facts HC.out
  go_wp2_with fail
  refine (backward_any s A n c F m d fl wa HFa.out hn hm).mono ?_
  rintro e w1 ⟨⟨nb, B, rfl, hnx, _⟩, hb1⟩
  have HR := Lib.hid (reached_any nb B w1.heap.size n (bck n fl m) node w1 hnx (Nat.le_refl _) hn (bck_len' n fl hm) (fun u v h => (bck_lt h).2))
  have HB1 := Lib.hid (HB.out.trans (hb1.mono HB.out.size))
  clear hnx hb1 z0 z1 z2
  go_wp2_with fail
  refine HR.out.mono ?_
  rintro e w2 ⟨⟨g, f, rfl, h2, h3, h4⟩, h5⟩
  have HF : Hid (MarksOut n (Comes n (bck n fl m) node) w (.returned (.slice (some ⟨g, 0, none⟩) n n)) w2) := MarksOut.after HB1.out ⟨⟨g, f, rfl, h2, h3, h4⟩, h5⟩
  clear h2 h3 h4 h5
  go_wp2
  go_ret
  exact HF.out
end
end Pr
end Go.Proofs.YtkffnfgdmcebdaaGreatDoor
namespace Go.Proofs.YtkffnfgdmcebdaaGreatDoor.Rg
open Go Go.RowKit

section
variable {P : Program} {ops : Array Oper} {Q : Exit → Act → World → Prop}

def dstOf (ops : Array Oper) (i : Nat) : Option Tmp := (ops[i]?).bind (·.dst)
def val (ops : Array Oper) (a : Act) (i : Nat) : Value := match dstOf ops i with | some d => a.tmps.getD d undef | none => undef
/-- Does some operation of the region write this slot? -/
def writes (ops : Array Oper) (t : Nat) : Bool := ops.toList.any fun o => o.dst == some t
/-- Each slot is written once, none beyond the frame; each waits for earlier ones alone. -/
def fine (ops : Array Oper) (n : Nat) : Bool :=
  (List.range ops.size).all fun i =>
    match ops[i]? with
    | none => true
    | some o => (match o.dst with | none => true | some d => decide (d < n) && (List.range ops.size).all (fun j => j == i || dstOf ops j != some d)) && o.after.all (fun e => !Region.binds .any e || decide (e.on < i))

structure St (ops : Array Oper) (a0 : Act) (w0 : World) (R : Nat → Value → World → Prop) (listed : Array Bool) (a : Act) (w : World) : Prop where
  size : a.tmps.size = a0.tmps.size
  defers : a.defers = a0.defers
  rest : ∀ t, writes ops t = false → a.tmps.getD t undef = a0.tmps.getD t undef
  done : ∀ i, i < ops.size → listed.getD i false = true → R i (val ops a i) w
  grew : Below w0.heap.size w0 w

/-- What a step may lean on. -/
structure Pre (ops : Array Oper) (a0 : Act) (w0 : World) (R : Nat → Value → World → Prop) (o : Oper) (a : Act) (w : World) : Prop where
  size : a.tmps.size = a0.tmps.size
  rest : ∀ t, writes ops t = false → a.tmps.getD t undef = a0.tmps.getD t undef
  dep : ∀ e ∈ o.after, Region.binds .any e = true → R e.on (val ops a e.on) w
  grew : Below w0.heap.size w0 w

theorem writes_of {i : Nat} {t : Tmp} (h : dstOf ops i = some t) : writes ops t = true := by
  unfold dstOf at h
  cases ho : ops[i]? with
  | none => simp [ho] at h
  | some o =>
    simp only [ho, Option.bind_some] at h
    unfold writes
    rw [List.any_eq_true]
    exact ⟨o, by rw [Array.mem_toList_iff]; exact Array.mem_of_getElem? ho, by simp [h]⟩

theorem getD_put_ne (a : Act) (d : Option Tmp) (v : Value) (t : Nat) (h : d ≠ some t) : (a.put d v).tmps.getD t undef = a.tmps.getD t undef := by
  cases d with
  | none => rfl
  | some d =>
    have : d ≠ t := fun e => h (by rw [e])
    simp [Act.put, Array.getD_eq_getD_getElem?, this]
theorem getD_put_eq (a : Act) (d : Tmp) (v : Value) (h : d < a.tmps.size) : (a.put (some d) v).tmps.getD d undef = v := by
  simp [Act.put, Array.getD_eq_getD_getElem?, h]
theorem size_put (a : Act) (d : Option Tmp) (v : Value) : (a.put d v).tmps.size = a.tmps.size := by cases d <;> simp [Act.put]
theorem defers_put (a : Act) (d : Option Tmp) (v : Value) : (a.put d v).defers = a.defers := by cases d <;> rfl

def left (listed : Array Bool) : Nat := listed.toList.countP (fun b => !b)
theorem left_set {listed : Array Bool} {i : Nat} (h : i < listed.size) (hi : listed.getD i true = false) : left (listed.setIfInBounds i true) + 1 = left listed := by
  obtain ⟨l⟩ := listed
  simp only [left, List.setIfInBounds_toArray, List.toList_toArray] at *
  simp only [List.size_toArray] at h
  have hi' : l[i]? = some false := by
    simp [Array.getD_eq_getD_getElem?, List.getElem?_eq_getElem h] at hi
    rw [List.getElem?_eq_getElem h, hi]
  clear hi
  induction l generalizing i with
  | nil => simp at h
  | cons b l ih =>
    cases i with
    | zero =>
      simp at hi'
      subst hi'
      simp
    | succ i =>
      have := ih (i := i) (by simpa using h) (by simpa using hi')
      simp only [List.set_cons_succ, List.countP_cons]
      omega
theorem all_of_left {listed : Array Bool} (h : left listed = 0) {i : Nat} (hi : i < listed.size) : listed.getD i true = true := by
  unfold left at h
  rw [List.countP_eq_zero] at h
  have := h listed[i] (by simp)
  simp [Array.getD_eq_getD_getElem?, hi] at this ⊢
  exact this

theorem all_of_ready {n : Nat} (hf : fine ops n = true) {listed : Array Bool} (hs : listed.size = ops.size) (hr : Region.ready .any ops listed = []) : ∀ i, i < ops.size → listed.getD i true = true := by
  intro i
  induction i using Nat.strongRecOn with
  | ind i ih =>
    intro hi
    cases hc : listed.getD i true with
    | true => rfl
    | false =>
      exfalso
      have hm : i ∈ Region.ready .any ops listed := by
        rw [mem_ready]
        refine ⟨hc, ops[i], Array.getElem?_eq_getElem hi, fun e he hb => ?_⟩
        have h1 := List.all_eq_true.1 hf i (List.mem_range.2 hi)
        simp only [Array.getElem?_eq_getElem hi, Bool.and_eq_true] at h1
        have h2 := Array.all_eq_true_iff_forall_mem.1 h1.2 e he
        simp only [hb, Bool.not_true, Bool.false_or, decide_eq_true_eq] at h2
        have h3 := ih e.on h2 (by omega)
        have hlt : e.on < listed.size := by omega
        simp [Array.getD_eq_getD_getElem?, hlt] at h3 ⊢
        exact h3
      rw [hr] at hm
      cases hm

theorem any_each {a0 : Act} {w0 : World} {R : Nat → Value → World → Prop} (hf : fine ops a0.tmps.size = true)
    (hR : ∀ i v w w', R i v w → Below w.heap.size w w' → R i v w')
    (step : ∀ i o, ops[i]? = some o → ∀ a w, Pre ops a0 w0 R o a w → wpOp P ops Q i (fun a' w' => ∃ v, a' = a.put o.dst v ∧ (o.dst = none → v = undef) ∧ R i v w' ∧ Below w.heap.size w w') a w)
    (fin : ∀ a w, a.tmps.size = a0.tmps.size → a.defers = a0.defers → (∀ t, writes ops t = false → a.tmps.getD t undef = a0.tmps.getD t undef) → (∀ i, i < ops.size → R i (val ops a i) w) → Below w0.heap.size w0 w → Q .normal a w) :
    ∀ (fuel : Nat) (listed : Array Bool) (a : Act) (w : World), listed.size = ops.size → left listed ≤ fuel → St ops a0 w0 R listed a w → wpAny P .any ops Q fuel listed a w := by
  have hend : ∀ (listed : Array Bool) (a : Act) (w : World), listed.size = ops.size → St ops a0 w0 R listed a w → (∀ i, i < ops.size → listed.getD i true = true) → Q .normal a w := by
    intro listed a w hs h hall
    refine fin a w h.size h.defers h.rest (fun i hi => h.done i hi ?_) h.grew
    have := hall i hi
    have hlt : i < listed.size := by omega
    simp [Array.getD_eq_getD_getElem?, hlt] at this ⊢
    exact this
  intro fuel
  induction fuel with
  | zero =>
    intro listed a w hs hl h
    have hall : ∀ i, i < ops.size → listed.getD i true = true := fun i hi => all_of_left (by omega) (by omega)
    refine ⟨?_, hend listed a w hs h hall⟩
    cases hr : Region.ready .any ops listed with
    | nil => rfl
    | cons j l =>
      exfalso
      have hj : j ∈ Region.ready .any ops listed := by rw [hr]; simp
      obtain ⟨h0, o, ho, _⟩ := mem_ready.1 hj
      rw [hall j (Array.getElem?_eq_some_iff.1 ho).1] at h0
      cases h0
  | succ fuel ih =>
    intro listed a w hs hl h
    refine ⟨fun hr => hend listed a w hs h (all_of_ready hf hs hr), fun i hi => ?_⟩
    obtain ⟨h0, o, ho, hdep⟩ := mem_ready.1 hi
    have hilt : i < ops.size := (Array.getElem?_eq_some_iff.1 ho).1
    have hfi := List.all_eq_true.1 hf i (List.mem_range.2 hilt)
    simp only [ho, Bool.and_eq_true] at hfi
    have honlt : ∀ e ∈ o.after, Region.binds .any e = true → e.on < ops.size := by
      intro e he hb
      have := Array.all_eq_true_iff_forall_mem.1 hfi.2 e he
      simp only [hb, Bool.not_true, Bool.false_or, decide_eq_true_eq] at this
      omega
    refine wpOp_mono ?_ (step i o ho a w ⟨h.size, h.rest, fun e he hb => h.done e.on (honlt e he hb) (hdep e he hb), h.grew⟩)
    rintro a' w' ⟨v, rfl, hnone, hv, hb⟩
    have hg : Below w0.heap.size w0 w' := h.grew.trans (hb.mono h.grew.size)
    refine ih _ _ _ (by simpa using hs) (by have := left_set (by omega) h0; omega) ⟨by rw [size_put]; exact h.size, by rw [defers_put]; exact h.defers, ?_, ?_, hg⟩
    · intro t ht
      rw [getD_put_ne]
      · exact h.rest t ht
      · intro hd
        have hdi : dstOf ops i = some t := by simp [dstOf, ho, hd]
        rw [writes_of hdi] at ht
        cases ht
    · intro j hj hlj
      by_cases hji : j = i
      · subst hji
        have hval : val ops (a.put o.dst v) j = v := by
          unfold val dstOf
          simp only [ho, Option.bind_some]
          cases hd : o.dst with
          | none => exact (hnone hd).symm
          | some d =>
            have h1 := hfi.1
            rw [hd] at h1
            simp only [Bool.and_eq_true, decide_eq_true_eq] at h1
            exact getD_put_eq a d v (by rw [h.size]; exact h1.1)
        rw [hval]
        exact hv
      · have hlj' : listed.getD j false = true := by rwa [getD_set_ne false (Ne.symm hji)] at hlj
        have hval : val ops (a.put o.dst v) j = val ops a j := by
          unfold val
          cases hd : dstOf ops j with
          | none => rfl
          | some d =>
            refine getD_put_ne a _ v d ?_
            intro he
            have h1 := hfi.1
            rw [he] at h1
            simp only [Bool.and_eq_true, decide_eq_true_eq] at h1
            have := List.all_eq_true.1 h1.2 j (List.mem_range.2 hj)
            simp [hji, hd] at this
        rw [hval]
        exact hR j _ w w' (h.done j hj hlj') hb

/-- THE LAW. -/
theorem region_each {id : Nat} {a0 : Act} {w : World} (hm : P.follows .mixedOrders = true) (R : Nat → Value → World → Prop) (hf : fine ops a0.tmps.size = true)
    (hR : ∀ i v w w', R i v w → Below w.heap.size w w' → R i v w')
    (step : ∀ i o, ops[i]? = some o → ∀ a w', Pre ops a0 w.drew R o a w' → wpOp P ops Q i (fun a' w'' => ∃ v, a' = a.put o.dst v ∧ (o.dst = none → v = undef) ∧ R i v w'' ∧ Below w'.heap.size w' w'') a w')
    (fin : ∀ a w', a.tmps.size = a0.tmps.size → a.defers = a0.defers → (∀ t, writes ops t = false → a.tmps.getD t undef = a0.tmps.getD t undef) → (∀ i, i < ops.size → R i (val ops a i) w') → Below w.heap.size w w' → Q .normal a w') :
    (Code.region id ops true).wp P Q a0 w := by
  refine wp_region_any hm ?_
  have hleft : ∀ n, left (Array.replicate n false) = n := by intro n; simp [left, List.countP_replicate]
  refine any_each (w0 := w.drew) hf hR step (fun a w' h1 h2 h3 h4 h5 => fin a w' h1 h2 h3 h4 ((Below.refl w.heap.size w).drew.trans h5)) ops.size _ a0 _ (by simp) (by rw [hleft]; exact Nat.le_refl _) ⟨rfl, rfl, fun _ _ => rfl, fun i hi h => ?_, Below.refl _ _⟩
  simp [Array.getD_eq_getD_getElem?, hi] at h

theorem fold_size (a : Act) : ∀ (ds : List Nat) (x : Act), (ds.foldl (fun x d => x.put (some d) (a.tmps.getD d undef)) x).tmps.size = x.tmps.size
  | [], _ => rfl
  | d :: ds, x => by rw [List.foldl_cons, fold_size a ds, size_put]
theorem fold_defers (a : Act) : ∀ (ds : List Nat) (x : Act), (ds.foldl (fun x d => x.put (some d) (a.tmps.getD d undef)) x).defers = x.defers
  | [], _ => rfl
  | d :: ds, x => by rw [List.foldl_cons, fold_defers a ds, defers_put]
theorem fold_at (a : Act) (t : Nat) : ∀ (ds : List Nat) (x : Act), x.tmps.size = a.tmps.size → (t ∈ ds ∨ x.tmps.getD t undef = a.tmps.getD t undef) → (ds.foldl (fun x d => x.put (some d) (a.tmps.getD d undef)) x).tmps.getD t undef = a.tmps.getD t undef
  | [], x, _, h => by
    rcases h with h | h
    · cases h
    · exact h
  | d :: ds, x, hs, h => by
    rw [List.foldl_cons]
    refine fold_at a t ds _ (by rw [size_put]; exact hs) ?_
    by_cases e : d = t
    · subst e
      right
      by_cases hd : d < x.tmps.size
      · exact getD_put_eq x d _ hd
      · have h1 : ¬ d < a.tmps.size := by omega
        simp [Act.put, Array.getD_eq_getD_getElem?, hd, h1]
    · rcases h with h | h
      · rcases List.mem_cons.1 h with h | h
        · exact absurd h.symm e
        · exact .inl h
      · right
        rw [getD_put_ne _ _ _ _ (fun h => e (Option.some.inj h))]
        exact h
/-- The frame behind a region: what was there, and what the region has written. -/
theorem act_puts {a a0 : Act} (hs : a.tmps.size = a0.tmps.size) (hd : a.defers = a0.defers) (hr : ∀ t, writes ops t = false → a.tmps.getD t undef = a0.tmps.getD t undef) (ds : List Nat)
    (h : (ops.toList.all fun o => match o.dst with | none => true | some d => ds.contains d) = true) : a = ds.foldl (fun x d => x.put (some d) (a.tmps.getD d undef)) a0 := by
  have key : ∀ t, (ds.foldl (fun x d => x.put (some d) (a.tmps.getD d undef)) a0).tmps.getD t undef = a.tmps.getD t undef := by
    intro t
    refine fold_at a t ds a0 hs.symm ?_
    cases hw : writes ops t with
    | false => exact .inr (hr t hw).symm
    | true =>
      left
      unfold writes at hw
      obtain ⟨o, ho, hd⟩ := List.any_eq_true.1 hw
      have h1 := List.all_eq_true.1 h o ho
      rw [beq_iff_eq] at hd
      rw [hd] at h1
      simpa using h1
  have hsz := fold_size a ds a0
  have hdf := fold_defers a ds a0
  generalize ds.foldl (fun x d => x.put (some d) (a.tmps.getD d undef)) a0 = b at *
  obtain ⟨ta, da⟩ := a
  obtain ⟨tb, db⟩ := b
  simp only at *
  have : ta = tb := by
    apply Array.ext
    · omega
    · intro i h1 h2
      have := key i
      simp only [Array.getD_eq_getD_getElem?, Array.getElem?_eq_getElem h1, Array.getElem?_eq_getElem h2, Option.getD_some] at this
      exact this.symm
  subst this
  rw [hd, hdf]
/-! ### For a region that is written out -/
@[reducible] def Each (p : Nat → Oper → Prop) : Nat → List Oper → Prop
  | _, [] => True
  | k, o :: l => p k o ∧ Each p (k + 1) l
theorem each_get {p : Nat → Oper → Prop} : ∀ (l : List Oper) (k : Nat), Each p k l → ∀ i o, l[i]? = some o → p (k + i) o
  | [], _, _, i, o, h => by simp at h
  | x :: l, k, ⟨h1, h2⟩, i, o, h => by
    cases i with
    | zero => simp at h; subst h; exact h1
    | succ i =>
      have := each_get l (k + 1) h2 i o (by simpa using h)
      rwa [Nat.add_assoc, Nat.add_comm 1 i] at this
theorem by_each {p : Nat → Oper → Prop} (l : List Oper) (h : Each p 0 l) : ∀ i o, l.toArray[i]? = some o → p i o := by
  intro i o hi
  have := each_get l 0 h i o (by simpa using hi)
  rwa [Nat.zero_add] at this

theorem Pre.at_ {a0 : Act} {w0 : World} {R : Nat → Value → World → Prop} {o : Oper} {a : Act} {w : World} (hp : Pre ops a0 w0 R o a w) (j : Nat) (h : (o.after.toList.any fun e => e.on == j && Region.binds .any e) = true) : R j (val ops a j) w := by
  rw [List.any_eq_true] at h
  obtain ⟨e, he, hb⟩ := h
  simp only [Bool.and_eq_true, beq_iff_eq] at hb
  have := hp.dep e (Array.mem_toList_iff.1 he) hb.2
  rw [hb.1] at this
  exact this

theorem wanted_none {o : Oper} {a : Act} (h : o.guard = none) : Region.wanted o (yielded ops a.tmps) = true := by simp [Region.wanted, h]
theorem wanted_not {o : Oper} {a : Act} {g : Nat} {b : Bool} {d : Tmp} (h : o.guard = some (g, b)) (hd : dstOf ops g = some d) (hv : a.eval (.tmp d) = .bool (!b)) : Region.wanted o (yielded ops a.tmps) = false := by
  have h1 : a.tmps[d]? = some (.bool (!b)) := by
    have hv' : a.tmps.getD d undef = .bool (!b) := hv
    rw [Array.getD_eq_getD_getElem?] at hv'
    cases hx : a.tmps[d]? with
    | none => rw [hx] at hv'; simp [undef] at hv'
    | some x => rw [hx] at hv'; simp at hv'; rw [hv']
  have h2 : yielded ops a.tmps g = some (!b) := by
    unfold yielded
    unfold dstOf at hd
    simp [hd, h1]
  cases b <;> simp [Region.wanted, h, h2]
theorem wanted_some {o : Oper} {a : Act} {g : Nat} {b : Bool} {d : Tmp} (h : o.guard = some (g, b)) (hd : dstOf ops g = some d) (hv : a.eval (.tmp d) = .bool b) : Region.wanted o (yielded ops a.tmps) = true := by
  have h1 : a.tmps[d]? = some (.bool b) := by
    have hv' : a.tmps.getD d undef = .bool b := hv
    rw [Array.getD_eq_getD_getElem?] at hv'
    cases hx : a.tmps[d]? with
    | none => rw [hx] at hv'; simp [undef] at hv'
    | some x => rw [hx] at hv'; simp at hv'; rw [hv']
  have h2 : yielded ops a.tmps g = some b := by
    unfold yielded
    have : ((ops[g]?).bind (·.dst)) = some d := hd
    rw [this, Option.bind_some, h1]
  simp [Region.wanted, h, h2]

theorem wanted_undef {o : Oper} {a : Act} {g : Nat} {b : Bool} {d : Tmp} (h : o.guard = some (g, b)) (hd : dstOf ops g = some d) (hv : a.eval (.tmp d) = undef) : Region.wanted o (yielded ops a.tmps) = false := by
  have h1 : yielded ops a.tmps g = none := by
    have hv' : a.tmps.getD d undef = undef := hv
    rw [Array.getD_eq_getD_getElem?] at hv'
    unfold yielded
    unfold dstOf at hd
    rw [hd, Option.bind_some]
    cases hx : a.tmps[d]? with
    | none => rfl
    | some x =>
      rw [hx] at hv'
      simp only [Option.getD_some] at hv'
      subst hv'
      rfl
  simp [Region.wanted, h, h1]
/-- An operation whose guard says no: it leaves nothing behind. -/
theorem step_skip {i : Nat} {o : Oper} {a : Act} {w : World} {p : Value → World → Prop} (ho : ops[i]? = some o) (hw : Region.wanted o (yielded ops a.tmps) = false) (hr : p undef w) :
    wpOp P ops Q i (fun a' w'' => ∃ v, a' = a.put o.dst v ∧ (o.dst = none → v = undef) ∧ p v w'' ∧ Below w.heap.size w w'') a w := by
  unfold wpOp
  simp only [ho, hw]
  exact ⟨undef, rfl, fun _ => rfl, hr, Below.refl _ _⟩
theorem step_run {i : Nat} {o : Oper} {a : Act} {w w' : World} {v : Value} {p : Value → World → Prop} (ho : ops[i]? = some o) (hw : Region.wanted o (yielded ops a.tmps) = true) (hd : o.dst ≠ none)
    (hrun : (execOp a.eval o).run P w = .ok (.value v) w') (hr : p v w') (hb : Below w.heap.size w w') :
    wpOp P ops Q i (fun a' w'' => ∃ v, a' = a.put o.dst v ∧ (o.dst = none → v = undef) ∧ p v w'' ∧ Below w.heap.size w w'') a w := by
  unfold wpOp
  simp only [ho, hw, if_true, Oper.wp, hrun, Oper.upon]
  exact .inl ⟨v, rfl, fun h => absurd h hd, hr, hb⟩
theorem step_call {i : Nat} {o : Oper} {a : Act} {w : World} {f : FuncId} {args : Array Value} {p : Value → World → Prop} (ho : ops[i]? = some o) (hw : Region.wanted o (yielded ops a.tmps) = true) (hd : o.dst ≠ none)
    (hrun : (execOp a.eval o).run P w = .ok (.enter f args) w) (hc : Calls P f args w fun e w' => ∃ v, e = .returned v ∧ p v w' ∧ Below w.heap.size w w') :
    wpOp P ops Q i (fun a' w'' => ∃ v, a' = a.put o.dst v ∧ (o.dst = none → v = undef) ∧ p v w'' ∧ Below w.heap.size w w'') a w := by
  unfold wpOp
  simp only [ho, hw, if_true, Oper.wp, hrun, Oper.upon]
  refine .inl (hc.mono fun e w' he => ?_)
  obtain ⟨v, rfl, h1, h2⟩ := he
  exact ⟨v, rfl, fun h => absurd h hd, h1, h2⟩
end

theorem eval_at (a : Act) : (∀ v, a.eval (.const v) = v) ∧ (∀ g, a.eval (.global g) = .pointer (some ⟨g, 0, none⟩)) ∧ (∀ f, a.eval (.func f) = .func (.func f) #[] #[]) := ⟨fun _ => rfl, fun _ => rfl, fun _ => rfl⟩
/-- A word that stays true while memory grows. -/
def Mono (p : Value → World → Prop) : Prop := ∀ v w w', p v w → Below w.heap.size w w' → p v w'
theorem mono_eq (c : Value) : Mono (fun v _ => v = c) := fun _ _ _ h _ => h
theorem mono_getD (l : List (Value → World → Prop)) (h : ∀ p ∈ l, Mono p) : ∀ i v w w', (l.getD i (fun _ _ => True)) v w → Below w.heap.size w w' → (l.getD i (fun _ _ => True)) v w' := by
  intro i v w w' hp hb
  rw [List.getD_eq_getElem?_getD] at *
  cases hi : l[i]? with
  | none => rw [hi] at hp; exact hp
  | some p =>
    rw [hi] at hp
    exact h p (List.mem_of_getElem? hi) v w w' hp hb
end Go.Proofs.YtkffnfgdmcebdaaGreatDoor.Rg
namespace Go.Proofs.YtkffnfgdmcebdaaGreatDoor
open Go.RowKit

namespace Pr
/-- A board's cells. -/
structure BdV where
  s : ByteArray
  A : Option Addr
  n : Nat
  c : Nat
  F : Option Addr
  m : Nat
  d : Nat
  V : Option Addr
  nv : Nat
  cv : Nat
  T : Option Addr
  nt : Nat
  ct : Nat
  k : Int
def BdV.list (x : BdV) : List Value := [.string x.s, .slice x.A x.n x.c, .slice x.F x.m x.d, .slice x.V x.nv x.cv, .slice x.T x.nt x.ct, .int .i64 x.k]
def BdV.val (x : BdV) : Value := .agg #[.string x.s, .slice x.A x.n x.c, .slice x.F x.m x.d, .slice x.V x.nv x.cv, .slice x.T x.nt x.ct, .int .i64 x.k]
/-- A row of variables. -/
def Vκ : Cs Vr.V := ⟨4, Vr.V.cells, fun _ => rfl, by
  intro x u hu
  simp only [Vr.V.cells, List.mem_cons, List.not_mem_nil, or_false] at hu
  rcases hu with rfl | rfl | rfl | rfl <;> rfl⟩
def nilOk (A : Option Addr) (n c : Nat) : Prop := A = none → n = 0 ∧ c = 0
/-- What they read as. -/
structure BdIn (w : World) (B : Nat) (x : BdV) (b : Bd) : Prop where
  s : x.s = b.p.name
  k : x.k = b.next
  nodes : KRow Nd.κ w B x.A x.n b.p.nodes
  flows : KRow Fl.κ w B x.F x.m b.p.flows
  vars : KRow Vκ w B x.V x.nv b.vars
  toks : KRow Tk.κ w B x.T x.nt b.toks
  nA : nilOk x.A x.n x.c
  nF : nilOk x.F x.m x.d
  nV : nilOk x.V x.nv x.cv
  nT : nilOk x.T x.nt x.ct
/-- The same of one's own. -/
structure BdOwn (w : World) (B : Nat) (x : BdV) (b : Bd) : Prop where
  s : x.s = b.p.name
  k : x.k = b.next
  nodes : OwnK Nd.κ w B 44 x.A x.n x.c b.p.nodes
  flows : OwnK Fl.κ w B 82 x.F x.m x.d b.p.flows
  vars : OwnK Vκ w B 96 x.V x.nv x.cv b.vars
  toks : OwnK Tk.κ w B 35 x.T x.nt x.ct b.toks
/-- Numbers that it may have. -/
structure Bd.Few (b : Bd) : Prop where
  n : b.p.n ≤ 100000
  m : b.p.m ≤ 100000
  v : b.vars.length ≤ 100000
  t : b.toks.length ≤ 100000
  k0 : -1000000000 ≤ b.next
  k1 : b.next ≤ 1000000000
section
variable {w w' : World} {B B' : Nat} {x : BdV} {b : Bd}
theorem BdIn.below (h : BdIn w B x b) {b0 : Nat} (hb : Below b0 w w') (hB : B ≤ b0) : BdIn w' B x b :=
  ⟨h.s, h.k, h.nodes.below hb hB, h.flows.below hb hB, h.vars.below hb hB, h.toks.below hb hB, h.nA, h.nF, h.nV, h.nT⟩
theorem BdIn.mono (h : BdIn w B x b) (hB : B ≤ B') : BdIn w B' x b :=
  ⟨h.s, h.k, h.nodes.mono hB, h.flows.mono hB, h.vars.mono hB, h.toks.mono hB, h.nA, h.nF, h.nV, h.nT⟩
theorem BdIn.on (h : BdIn w w.heap.size x b) (hb : Below w.heap.size w w') : BdIn w' w'.heap.size x b := (h.below hb (Nat.le_refl _)).mono hb.size
theorem BdIn.hn (h : BdIn w B x b) : x.n = b.p.n := (h.nodes.len (by decide)).symm
theorem BdIn.hm (h : BdIn w B x b) : x.m = b.p.m := (h.flows.len (by decide)).symm
theorem BdIn.ht (h : BdIn w B x b) : x.nt = b.toks.length := (h.toks.len (by decide)).symm
theorem BdIn.hv (h : BdIn w B x b) : x.nv = b.vars.length := (h.vars.len (by decide)).symm
theorem BdOwn.inn (h : BdOwn w B x b) : BdIn w w.heap.size x b :=
  ⟨h.s, h.k, h.nodes.row, h.flows.row, h.vars.row, h.toks.row, h.nodes.nn, h.flows.nn, h.vars.nn, h.toks.nn⟩
theorem BdOwn.below (h : BdOwn w B x b) (hb : Below w.heap.size w w') : BdOwn w' B x b :=
  ⟨h.s, h.k, h.nodes.below hb (Nat.le_refl _), h.flows.below hb (Nat.le_refl _), h.vars.below hb (Nat.le_refl _), h.toks.below hb (Nat.le_refl _)⟩
theorem BdOwn.lower (h : BdOwn w B x b) (hB : B' ≤ B) : BdOwn w B' x b :=
  ⟨h.s, h.k, h.nodes.lower hB, h.flows.lower hB, h.vars.lower hB, h.toks.lower hB⟩
theorem BdIn.toks_of {T : Option Addr} {nt ct : Nat} {k : Int} {l : List Tk} {nx : Int} (h : BdIn w B x b) (ht : KRow Tk.κ w B T nt l) (hn : nilOk T nt ct) (hk : k = nx) : BdIn w B { x with T := T, nt := nt, ct := ct, k := k } { b with toks := l, next := nx } :=
  ⟨h.s, hk, h.nodes, h.flows, h.vars, ht, h.nA, h.nF, h.nV, hn⟩
end
/-- A board in block q, its rows one's own. -/
structure BdC (w : World) (B q : Nat) (x : BdV) (b : Bd) : Prop where
  cel : Cel w q x.list
  own : BdOwn w B x b
  ne : ∀ a, (x.A = some a ∨ x.F = some a ∨ x.V = some a ∨ x.T = some a) → a.block ≠ q
section
variable {w w' : World} {B B' q : Nat} {x : BdV} {b : Bd}
theorem BdC.below (h : BdC w B q x b) (hb : Below w.heap.size w w') : BdC w' B q x b := ⟨h.cel.below hb (Nat.le_refl _), h.own.below hb, h.ne⟩
theorem BdC.kept (h : BdC w B q x b) {r : Nat} (hg : w.grownBy w' (some r)) (hq : r ≠ q) (hr : ∀ a, (x.A = some a ∨ x.F = some a ∨ x.V = some a ∨ x.T = some a) → a.block ≠ r) : BdC w' B q x b :=
  ⟨h.cel.kept hg (fun e => hq (Option.some.inj e)), ⟨h.own.s, h.own.k, h.own.nodes.kept hg (fun a ha e => hr a (.inl ha) (Option.some.inj e).symm), h.own.flows.kept hg (fun a ha e => hr a (.inr (.inl ha)) (Option.some.inj e).symm),
    h.own.vars.kept hg (fun a ha e => hr a (.inr (.inr (.inl ha))) (Option.some.inj e).symm), h.own.toks.kept hg (fun a ha e => hr a (.inr (.inr (.inr ha))) (Option.some.inj e).symm)⟩, h.ne⟩
theorem BdC.blocks (h : BdC w B q x b) : ∀ a, (x.A = some a ∨ x.F = some a ∨ x.V = some a ∨ x.T = some a) → a.block < w.heap.size := by
  rintro a (ha | ha | ha | ha)
  · exact (h.own.nodes.block ha).2
  · exact (h.own.flows.block ha).2
  · exact (h.own.vars.block ha).2
  · exact (h.own.toks.block ha).2
theorem blk_of {A : Option Addr} {n c : Nat} {r : Nat} (h : (Value.slice A n c).ownBlock = some r) : ∃ a, A = some a ∧ a.block = r := by
  cases A with
  | none => cases h
  | some a => exact ⟨a, rfl, Option.some.inj h⟩
/-- One token more. -/
theorem BdC.app (h : BdC w B q x b) {T' : Option Addr} {c' : Nat} {t : Tk} (hg : Grew w w' (.slice x.T x.nt x.ct) (.slice T' (x.nt + 1) c')) (ho : OwnK Tk.κ w' B 35 T' (x.nt + 1) c' (b.toks ++ [t])) :
    BdC (w'.setCell ⟨q, 4, none⟩ (.slice T' (x.nt + 1) c')) B q { x with T := T', nt := x.nt + 1, ct := c' } { b with toks := b.toks ++ [t] } := by
  have key : ∀ {α : Type} {κ : Cs α} {e : TypeId} {A : Option Addr} {n c : Nat} {l : List α}, OwnK κ w B e A n c l → e ≠ 35 → OwnK κ w' B e A n c l := fun k he => k.kept hg.grown fun a ha e => by
    obtain ⟨a', h1, h2⟩ := blk_of e
    exact k.apart h.own.toks he ha h1 h2.symm
  have hq : ∀ a, T' = some a → a.block ≠ q := fun a ha => by
    rcases grew_block hg ho ha with ⟨a0, h1, h2⟩ | h1
    · rw [← h2]; exact h.ne a0 (.inr (.inr (.inr h1)))
    · have := h.cel.lt; omega
  have hc : Cel w' q x.list := h.cel.kept hg.grown fun e => by
    obtain ⟨a', h1, h2⟩ := blk_of e
    exact h.ne a' (.inr (.inr (.inr h1))) h2
  have hs : w'.grownBy (w'.setCell ⟨q, 4, none⟩ (.slice T' (x.nt + 1) c')) (some q) := grown_setCell w' ⟨q, 4, none⟩ _
  refine ⟨hc.set (i := 4) (by simp [BdV.list]) _, ⟨h.own.s, h.own.k, (key h.own.nodes (by decide)).kept hs fun a ha e => h.ne a (.inl ha) (Option.some.inj e).symm, (key h.own.flows (by decide)).kept hs fun a ha e => h.ne a (.inr (.inl ha)) (Option.some.inj e).symm,
    (key h.own.vars (by decide)).kept hs fun a ha e => h.ne a (.inr (.inr (.inl ha))) (Option.some.inj e).symm, ho.kept hs fun a ha e => hq a ha (Option.some.inj e).symm⟩, ?_⟩
  rintro a (ha | ha | ha | ha)
  · exact h.ne a (.inl ha)
  · exact h.ne a (.inr (.inl ha))
  · exact h.ne a (.inr (.inr (.inl ha)))
  · exact hq a ha
theorem BdC.cel_app (h : BdC w B q x b) {v : Value} (hg : Grew w w' (.slice x.T x.nt x.ct) v) : Cel w' q x.list := h.cel.kept hg.grown fun e => by
  obtain ⟨a', h1, h2⟩ := blk_of e
  exact h.ne a' (.inr (.inr (.inr h1))) h2
theorem BdC.else_app (h : BdC w B q x b) {v : Value} (hg : Grew w w' (.slice x.T x.nt x.ct) v) {z : Nat} {cs : List Value} (hz : Cel w z cs) (hzb : z < B) : Cel w' z cs := hz.kept hg.grown fun e => by
  obtain ⟨a', h1, h2⟩ := blk_of e
  have := (h.own.toks.block h1).1
  omega
theorem BdC.nxt (h : BdC w B q x b) (k : Int) : BdC (w.setCell ⟨q, 5, none⟩ (.int .i64 k)) B q { x with k := k } { b with next := k } := by
  have hs : w.grownBy (w.setCell ⟨q, 5, none⟩ (.int .i64 k)) (some q) := grown_setCell w ⟨q, 5, none⟩ _
  exact ⟨h.cel.set (i := 5) (by simp [BdV.list]) _, ⟨h.own.s, rfl, h.own.nodes.kept hs fun a ha e => h.ne a (.inl ha) (Option.some.inj e).symm, h.own.flows.kept hs fun a ha e => h.ne a (.inr (.inl ha)) (Option.some.inj e).symm,
    h.own.vars.kept hs fun a ha e => h.ne a (.inr (.inr (.inl ha))) (Option.some.inj e).symm, h.own.toks.kept hs fun a ha e => h.ne a (.inr (.inr (.inr ha))) (Option.some.inj e).symm⟩, h.ne⟩
/-- A board of one's own that is laid in a block of its own. -/
theorem BdC.lit (h : BdOwn w B x b) (t : TypeId) : BdC (w.alloc (.cells x.list.toArray t)) B w.heap.size x b := by
  refine ⟨Cel.lit w x.list.toArray t, h.below ((Below.refl _ _).alloc (Nat.le_refl _) _), ?_⟩
  rintro a (ha | ha | ha | ha)
  · have := (h.nodes.block ha).2; omega
  · have := (h.flows.block ha).2; omega
  · have := (h.vars.block ha).2; omega
  · have := (h.toks.block ha).2; omega
end
theorem info_tok : (Tryz.prog.info? 35).map (fun i => (i.zero, i.size, i.bytes)) = some (some (.agg #[.int .i64 0, .int .i64 0, .int .i64 0, .bool false]), 4, 32) := by kernel_rfl
theorem six_facts {w : World} {z : Nat} {a0 a1 a2 a3 a4 a5 : Value} (h : Cel w z [a0, a1, a2, a3, a4, a5]) :
    (w.cell? ⟨z, 0, none⟩ = some a0 ∧ w.cell? ⟨z, 1, none⟩ = some a1 ∧ w.cell? ⟨z, 2, none⟩ = some a2 ∧ w.cell? ⟨z, 3, none⟩ = some a3 ∧ w.cell? ⟨z, 4, none⟩ = some a4 ∧ w.cell? ⟨z, 5, none⟩ = some a5) ∧
    (w.frozen? ⟨z, 0, none⟩ = false ∧ w.frozen? ⟨z, 1, none⟩ = false ∧ w.frozen? ⟨z, 2, none⟩ = false ∧ w.frozen? ⟨z, 3, none⟩ = false ∧ w.frozen? ⟨z, 4, none⟩ = false ∧ w.frozen? ⟨z, 5, none⟩ = false) :=
  ⟨⟨h.cell 0 _ rfl, h.cell 1 _ rfl, h.cell 2 _ rfl, h.cell 3 _ rfl, h.cell 4 _ rfl, h.cell 5 _ rfl⟩, h.froz 0 (by simp), h.froz 1 (by simp), h.froz 2 (by simp), h.froz 3 (by simp), h.froz 4 (by simp), h.froz 5 (by simp)⟩
/-- A board's six cells are written. -/
def six (w : World) (z : Nat) (y : BdV) : World := (((((w.setCell ⟨z, 0, none⟩ (.string y.s)).setCell ⟨z, 1, none⟩ (.slice y.A y.n y.c)).setCell ⟨z, 2, none⟩ (.slice y.F y.m y.d)).setCell ⟨z, 3, none⟩ (.slice y.V y.nv y.cv)).setCell ⟨z, 4, none⟩ (.slice y.T y.nt y.ct)).setCell ⟨z, 5, none⟩ (.int .i64 y.k)
theorem six_grown (w : World) (z : Nat) (y : BdV) : w.grownBy (six w z y) (some z) := set_grown (set_grown (set_grown (set_grown (set_grown (set_grown (World.grownBy.refl _ _) 0 _) 1 _) 2 _) 3 _) 4 _) 5 _
theorem six_cel {w : World} {z : Nat} {a0 a1 a2 a3 a4 a5 : Value} (h : Cel w z [a0, a1, a2, a3, a4, a5]) (y : BdV) : Cel (six w z y) z y.list :=
  (((((h.set (i := 0) (by simp) _).set (i := 1) (by simp) _).set (i := 2) (by simp) _).set (i := 3) (by simp) _).set (i := 4) (by simp) _).set (i := 5) (by simp) _
theorem six_below {B : Nat} {a w : World} (h : Below B a w) {z : Nat} (hz : B ≤ z) (y : BdV) : Below B a (six w z y) := (((((h.setCell hz _).setCell hz _).setCell hz _).setCell hz _).setCell hz _).setCell hz _
theorem BdOwn.grown {w w' : World} {B z : Nat} {x : BdV} {b : Bd} (h : BdOwn w B x b) (hz : z < B) (hg : w.grownBy w' (some z)) : BdOwn w' B x b :=
  ⟨h.s, h.k, h.nodes.kept hg (fun a ha e => by have h1 := (h.nodes.block ha).1; have h2 : z = a.block := Option.some.inj e; omega), h.flows.kept hg (fun a ha e => by have h1 := (h.flows.block ha).1; have h2 : z = a.block := Option.some.inj e; omega),
    h.vars.kept hg (fun a ha e => by have h1 := (h.vars.block ha).1; have h2 : z = a.block := Option.some.inj e; omega), h.toks.kept hg (fun a ha e => by have h1 := (h.toks.block ha).1; have h2 : z = a.block := Option.some.inj e; omega)⟩
theorem qd_facts {w : World} {z : Nat} {a0 a1 a2 a3 : Value} (h : Cel w z [a0, a1, a2, a3]) : w.cell? ⟨z, 0, none⟩ = some a0 ∧ w.cell? ⟨z, 1, none⟩ = some a1 ∧ w.cell? ⟨z, 2, none⟩ = some a2 ∧ w.cell? ⟨z, 3, none⟩ = some a3 :=
  ⟨h.cell 0 _ rfl, h.cell 1 _ rfl, h.cell 2 _ rfl, h.cell 3 _ rfl⟩
theorem tk_at {w : World} {B : Nat} {b off n : Nat} {l : List Tk} (h : KRow Tk.κ w B (some ⟨b, off, none⟩) n l) {j : Nat} (hj : j < n) :
    w.cell? ⟨b, off + j * 4, none⟩ = some (.int .i64 l[j]!.id) ∧ w.cell? ⟨b, off + j * 4 + 1, none⟩ = some (.int .i64 l[j]!.node) ∧ w.cell? ⟨b, off + j * 4 + 2, none⟩ = some (.int .i64 l[j]!.inn) ∧ w.cell? ⟨b, off + j * 4 + 3, none⟩ = some (.bool l[j]!.stuck) :=
  ⟨h.of (by decide) hj 0 _ rfl, h.of (by decide) hj 1 _ rfl, h.of (by decide) hj 2 _ rfl, h.of (by decide) hj 3 _ rfl⟩
end Pr
end Go.Proofs.YtkffnfgdmcebdaaGreatDoor
namespace Go.Proofs.YtkffnfgdmcebdaaGreatDoor
open Go.RowKit

namespace Pr
set_option maxHeartbeats 400000 in
theorem nclone_any (A : Option Addr) (n c : Nat) (l : List Nd) (w : World) (hr : KRow Nd.κ w w.heap.size A n l) (hA : nilOk A n c) (hn : n ≤ 1099511627) :
    Calls Tryz.prog 95 #[.slice A n c] w fun e w' => (∃ A' c', e = .returned (.slice A' n c') ∧ OwnK Nd.κ w' w.heap.size 44 A' n c' l) ∧ Below w.heap.size w w' := by
  obtain ⟨i0, hi0, hz0, hz1, hz2⟩ := info_parts info_node
  have q0 : ∀ (w : World) (a : Option Addr) (n c n' c' : Nat), (binOp .eql 27 (.slice a n c) (.slice none n' c')).run Tryz.prog w = .ok (.bool a.isNone) w := fun w a n c n' c' => Lib.run_eql_slice_nil w _ _ a n c n' c' Tryz.underlying27
  cases A with
  | none =>
    obtain ⟨rfl, rfl⟩ := hA rfl
    go_enter Tryz.func95, Tryz.ntmps95
    go_wp2
    go_ret
    have hl : l = [] := List.eq_nil_of_length_eq_zero (hr.len (by decide))
    subst hl
    exact ⟨⟨none, 0, rfl, by decide, World.ownsRow_nil _ _ _ _⟩, Below.refl _ _⟩
  | some a =>
    go_enter Tryz.func95, Tryz.ntmps95
    have hb1 : Below w.heap.size w (w.alloc (.cells #[] 44)) := (Below.refl _ _).alloc (Nat.le_refl _) _
    go_wp2_with (at_builtin; refine append_row rfl (.tmp 5) (.tmp 6) _ rfl 44 i0 _ 8 88 Tryz.underlying27 hi0 hz0 hz1 hz2 rfl (by decide) w.heap.size _ 0 [] rfl (World.ownsRow_lit w #[] 0 (Nat.le_refl _) (by decide) rfl) w.heap.size _ n c (l.flatMap Nd.κ.cs) rfl hA (RowS.below hr hb1 (Nat.le_refl _)) (Nd.κ.flat_one l) ?h5 ?h6 hb1.size ?_)
    case h5 => unfold maxLen; omega
    case h6 => omega
    intro v2 w2 ho2 hg2 hat2
    obtain ⟨A2, c2, rfl, hA2⟩ := own_form ho2
    go_wp2
    go_ret
    refine ⟨⟨A2, c2, ?_, by decide, ?_⟩, hb1.grown hg2 hb1.size fun k hk => ?_⟩
    · simp
    · exact ho2
    · simp [Value.ownBlock] at hk; omega
set_option maxHeartbeats 400000 in
theorem fclone_any (A : Option Addr) (n c : Nat) (l : List Fl) (w : World) (hr : KRow Fl.κ w w.heap.size A n l) (hA : nilOk A n c) (hn : n ≤ 1099511627) :
    Calls Tryz.prog 96 #[.slice A n c] w fun e w' => (∃ A' c', e = .returned (.slice A' n c') ∧ OwnK Fl.κ w' w.heap.size 82 A' n c' l) ∧ Below w.heap.size w w' := by
  obtain ⟨i0, hi0, hz0, hz1, hz2⟩ := info_parts info_flow
  have q0 : ∀ (w : World) (a : Option Addr) (n c n' c' : Nat), (binOp .eql 28 (.slice a n c) (.slice none n' c')).run Tryz.prog w = .ok (.bool a.isNone) w := fun w a n c n' c' => Lib.run_eql_slice_nil w _ _ a n c n' c' Tryz.underlying28
  cases A with
  | none =>
    obtain ⟨rfl, rfl⟩ := hA rfl
    go_enter Tryz.func96, Tryz.ntmps96
    go_wp2
    go_ret
    have hl : l = [] := List.eq_nil_of_length_eq_zero (hr.len (by decide))
    subst hl
    exact ⟨⟨none, 0, rfl, by decide, World.ownsRow_nil _ _ _ _⟩, Below.refl _ _⟩
  | some a =>
    go_enter Tryz.func96, Tryz.ntmps96
    have hb1 : Below w.heap.size w (w.alloc (.cells #[] 82)) := (Below.refl _ _).alloc (Nat.le_refl _) _
    go_wp2_with (at_builtin; refine append_row rfl (.tmp 5) (.tmp 6) _ rfl 82 i0 _ 3 32 Tryz.underlying28 hi0 hz0 hz1 hz2 rfl (by decide) w.heap.size _ 0 [] rfl (World.ownsRow_lit w #[] 0 (Nat.le_refl _) (by decide) rfl) w.heap.size _ n c (l.flatMap Fl.κ.cs) rfl hA (RowS.below hr hb1 (Nat.le_refl _)) (Fl.κ.flat_one l) ?h5 ?h6 hb1.size ?_)
    case h5 => unfold maxLen; omega
    case h6 => omega
    intro v2 w2 ho2 hg2 hat2
    obtain ⟨A2, c2, rfl, hA2⟩ := own_form ho2
    go_wp2
    go_ret
    refine ⟨⟨A2, c2, ?_, by decide, ?_⟩, hb1.grown hg2 hb1.size fun k hk => ?_⟩
    · simp
    · exact ho2
    · simp [Value.ownBlock] at hk; omega
set_option maxHeartbeats 400000 in
theorem tclone_any (A : Option Addr) (n c : Nat) (l : List Tk) (w : World) (hr : KRow Tk.κ w w.heap.size A n l) (hA : nilOk A n c) (hn : n ≤ 1099511627) :
    Calls Tryz.prog 78 #[.slice A n c] w fun e w' => (∃ A' c', e = .returned (.slice A' n c') ∧ OwnK Tk.κ w' w.heap.size 35 A' n c' l) ∧ Below w.heap.size w w' := by
  obtain ⟨i0, hi0, hz0, hz1, hz2⟩ := info_parts info_tok
  have q0 : ∀ (w : World) (a : Option Addr) (n c n' c' : Nat), (binOp .eql 36 (.slice a n c) (.slice none n' c')).run Tryz.prog w = .ok (.bool a.isNone) w := fun w a n c n' c' => Lib.run_eql_slice_nil w _ _ a n c n' c' Tryz.underlying36
  cases A with
  | none =>
    obtain ⟨rfl, rfl⟩ := hA rfl
    go_enter Tryz.func78, Tryz.ntmps78
    go_wp2
    go_ret
    have hl : l = [] := List.eq_nil_of_length_eq_zero (hr.len (by decide))
    subst hl
    exact ⟨⟨none, 0, rfl, by decide, World.ownsRow_nil _ _ _ _⟩, Below.refl _ _⟩
  | some a =>
    go_enter Tryz.func78, Tryz.ntmps78
    have hb1 : Below w.heap.size w (w.alloc (.cells #[] 35)) := (Below.refl _ _).alloc (Nat.le_refl _) _
    go_wp2_with (at_builtin; refine append_row rfl (.tmp 5) (.tmp 6) _ rfl 35 i0 _ 4 32 Tryz.underlying36 hi0 hz0 hz1 hz2 rfl (by decide) w.heap.size _ 0 [] rfl (World.ownsRow_lit w #[] 0 (Nat.le_refl _) (by decide) rfl) w.heap.size _ n c (l.flatMap Tk.κ.cs) rfl hA (RowS.below hr hb1 (Nat.le_refl _)) (Tk.κ.flat_one l) ?h5 ?h6 hb1.size ?_)
    case h5 => unfold maxLen; omega
    case h6 => omega
    intro v2 w2 ho2 hg2 hat2
    obtain ⟨A2, c2, rfl, hA2⟩ := own_form ho2
    go_wp2
    go_ret
    refine ⟨⟨A2, c2, ?_, by decide, ?_⟩, hb1.grown hg2 hb1.size fun k hk => ?_⟩
    · simp
    · exact ho2
    · simp [Value.ownBlock] at hk; omega
theorem own_set {α : Type} {κ : Cs α} {w : World} {B n c : Nat} {e : TypeId} {A : Option Addr} {l : List α} (h : OwnK κ w B e A n c l) {q i : Nat} (hq : q < B) (v : Value) : OwnK κ (w.setCell ⟨q, i, none⟩ v) B e A n c l :=
  h.kept (grown_setCell w ⟨q, i, none⟩ v) fun a ha e => by have h1 := (h.block ha).1; have h2 : q = a.block := Option.some.inj e; omega
def zeroB : List Value := [.string ⟨#[]⟩, .slice none 0 0, .slice none 0 0, .slice none 0 0, .slice none 0 0, .int .i64 0]
/-- A box and a result, two blocks below B. -/
structure Cp (w0 w : World) (q z B : Nat) (cs : List Value) : Prop where
  box : Cel w q cs
  res : Cel w z zeroB
  bel : Below w0.heap.size w0 w
  q0 : w0.heap.size ≤ q
  z0 : w0.heap.size ≤ z
  ne : q ≠ z
  qB : q < B
  zB : z < B
  B1 : B ≤ w.heap.size
theorem Cp.below {w0 w w' : World} {q z B : Nat} {cs : List Value} (h : Cp w0 w q z B cs) (hb : Below w.heap.size w w') : Cp w0 w' q z B cs :=
  ⟨h.box.below hb (Nat.le_refl _), h.res.below hb (Nat.le_refl _), h.bel.trans (hb.mono h.bel.size), h.q0, h.z0, h.ne, h.qB, h.zB, Nat.le_trans h.B1 hb.size⟩
theorem Cp.set {w0 w : World} {q z B : Nat} {cs : List Value} (h : Cp w0 w q z B cs) {i : Nat} (hi : i < cs.length) (v : Value) : Cp w0 (w.setCell ⟨q, i, none⟩ v) q z B (cs.set i v) :=
  ⟨h.box.set hi v, h.res.kept (grown_setCell w ⟨q, i, none⟩ v) (fun e => h.ne (Option.some.inj e)), h.bel.setCell (p := ⟨q, i, none⟩) h.q0 v, h.q0, h.z0, h.ne, h.qB, h.zB, by simpa using h.B1⟩
theorem Cp.lit (w : World) (cs : List Value) (t : TypeId) : Cp w ((w.alloc (.cells cs.toArray t)).alloc (.cells zeroB.toArray t)) w.heap.size (w.heap.size + 1) (w.heap.size + 2) cs := by
  have h1 := (Cel.lit w cs.toArray t).alloc (.cells zeroB.toArray t)
  have h2 := Cel.lit (w.alloc (.cells cs.toArray t)) zeroB.toArray t
  have e : (w.alloc (.cells cs.toArray t)).heap.size = w.heap.size + 1 := by simp
  rw [e] at h2
  have hb : Below w.heap.size w (w.alloc (.cells cs.toArray t)) := (Below.refl _ _).alloc (Nat.le_refl _) _
  exact ⟨h1, h2, hb.alloc hb.size _, Nat.le_refl _, by omega, by omega, by omega, by omega, by simp⟩
set_option maxHeartbeats 1600000 in
theorem copied_any (x : BdV) (b : Bd) (w : World) (hx : BdIn w w.heap.size x b) (hf : b.Few) :
    Calls Tryz.prog 58 #[x.val] w fun e w' => (∃ y, e = .returned y.val ∧ BdOwn w' w.heap.size y b) ∧ Below w.heap.size w w' := by
  have en := hx.hn
  have em := hx.hm
  have ev := hx.hv
  have et := hx.ht
  have f1 := hf.n
  have f2 := hf.m
  have f3 := hf.v
  have f4 := hf.t
  obtain ⟨s, A, n, c, F, m, d, V, nv, cv, T, nt, ct, k⟩ := x
  have HX := Lib.hid hx
  have HP := Lib.hid (Cp.lit w [.string s, .slice A n c, .slice F m d, .slice V nv cv, .slice T nt ct, .int .i64 k] 38)
  clear hx hf
  unfold BdV.val
  dsimp only at en em ev et
  have HN := Lib.hid (show n ≤ 1099511627 by omega)
  have HM := Lib.hid (show m ≤ 1099511627 by omega)
  have HV := Lib.hid (show nv ≤ 1099511627776 by omega)
  have HT := Lib.hid (show nt ≤ 1099511627 by omega)
  clear en em ev et f1 f2 f3 f4
  dsimp only
  go_enter Tryz.func58, Tryz.ntmps58
  go_upto_region 1 with (fail)
  unfold zeroB at HP
  generalize (w.alloc _).alloc _ = wa at *
  have HX1 := Lib.hid (HX.out.on HP.out.bel)
  have HL1 := Lib.hid (nclone_any A n _ b.p.nodes wa HX1.out.nodes HX1.out.nA HN.out)
  obtain ⟨⟨z0, z1, z2, z3, z4, z5⟩, _⟩ := six_facts HP.out.box
  go_wp2_with fail
  refine HL1.out.mono ?_
  rintro e u1 ⟨⟨A1, c1, rfl, hO⟩, hb1⟩
  clear z0 z1 z2 z3 z4 z5
  have HQ1 := Lib.hid (HP.out.below hb1)
  have HO1 := Lib.hid (own_set (i := 1) (hO.lower HP.out.B1) HP.out.qB (.slice A1 n c1))
  have HP1 := Lib.hid (HQ1.out.set (i := 1) (by simp) (.slice A1 n c1))
  obtain ⟨⟨z0, z1, z2, z3, z4, z5⟩, y0, y1, y2, y3, y4, y5⟩ := six_facts HQ1.out.box
  clear hO hb1
  go_upto_region 2 with (fail)
  generalize u1.setCell _ _ = w1 at *
  clear z0 z1 z2 z3 z4 z5 y0 y1 y2 y3 y4 y5
  have HX2 := Lib.hid (HX.out.on HP1.out.bel)
  have HL2 := Lib.hid (fclone_any F m _ b.p.flows w1 HX2.out.flows HX2.out.nF HM.out)
  obtain ⟨⟨z0, z1, z2, z3, z4, z5⟩, _⟩ := six_facts HP1.out.box
  go_wp2_with fail
  refine HL2.out.mono ?_
  rintro e u2 ⟨⟨F2, c2, rfl, hO⟩, hb1⟩
  clear z0 z1 z2 z3 z4 z5
  have HQ2 := Lib.hid (HP1.out.below hb1)
  have HO2 := Lib.hid (own_set (i := 2) (hO.lower HP1.out.B1) HP1.out.qB (.slice F2 m c2))
  have HO1xx := Lib.hid (own_set (i := 2) (HO1.out.below hb1 (Nat.le_refl _)) HP1.out.qB (.slice F2 m c2))
  have HP2 := Lib.hid (HQ2.out.set (i := 2) (by simp) (.slice F2 m c2))
  obtain ⟨⟨z0, z1, z2, z3, z4, z5⟩, y0, y1, y2, y3, y4, y5⟩ := six_facts HQ2.out.box
  clear hO hb1
  go_upto_region 3 with (fail)
  generalize u2.setCell _ _ = w2 at *
  clear z0 z1 z2 z3 z4 z5 y0 y1 y2 y3 y4 y5
  have HX3 := Lib.hid (HX.out.on HP2.out.bel)
  have HL3 := Lib.hid (vclone_any V nv _ b.vars w2 HX3.out.vars HX3.out.nV HV.out)
  obtain ⟨⟨z0, z1, z2, z3, z4, z5⟩, _⟩ := six_facts HP2.out.box
  go_wp2_with fail
  refine HL3.out.mono ?_
  rintro e u3 ⟨V3, c3, rfl, hO, hb1⟩
  have hO : OwnK Vκ u3 w2.heap.size 96 V3 nv c3 b.vars := ⟨by decide, hO⟩
  clear z0 z1 z2 z3 z4 z5
  have HQ3 := Lib.hid (HP2.out.below hb1)
  have HO3 := Lib.hid (own_set (i := 3) (hO.lower HP2.out.B1) HP2.out.qB (.slice V3 nv c3))
  have HO1xxx := Lib.hid (own_set (i := 3) (HO1xx.out.below hb1 (Nat.le_refl _)) HP2.out.qB (.slice V3 nv c3))
  have HO2xxx := Lib.hid (own_set (i := 3) (HO2.out.below hb1 (Nat.le_refl _)) HP2.out.qB (.slice V3 nv c3))
  have HP3 := Lib.hid (HQ3.out.set (i := 3) (by simp) (.slice V3 nv c3))
  obtain ⟨⟨z0, z1, z2, z3, z4, z5⟩, y0, y1, y2, y3, y4, y5⟩ := six_facts HQ3.out.box
  clear hO hb1
  go_upto_region 4 with (fail)
  generalize u3.setCell _ _ = w3 at *
  clear z0 z1 z2 z3 z4 z5 y0 y1 y2 y3 y4 y5
  have HX4 := Lib.hid (HX.out.on HP3.out.bel)
  have HL4 := Lib.hid (tclone_any T nt _ b.toks w3 HX4.out.toks HX4.out.nT HT.out)
  obtain ⟨⟨z0, z1, z2, z3, z4, z5⟩, _⟩ := six_facts HP3.out.box
  go_wp2_with fail
  refine HL4.out.mono ?_
  rintro e u4 ⟨⟨T4, c4, rfl, hO⟩, hb1⟩
  clear z0 z1 z2 z3 z4 z5
  have HQ4 := Lib.hid (HP3.out.below hb1)
  have HO4 := Lib.hid (own_set (i := 4) (hO.lower HP3.out.B1) HP3.out.qB (.slice T4 nt c4))
  have HO1xxxx := Lib.hid (own_set (i := 4) (HO1xxx.out.below hb1 (Nat.le_refl _)) HP3.out.qB (.slice T4 nt c4))
  have HO2xxxx := Lib.hid (own_set (i := 4) (HO2xxx.out.below hb1 (Nat.le_refl _)) HP3.out.qB (.slice T4 nt c4))
  have HO3xxxx := Lib.hid (own_set (i := 4) (HO3.out.below hb1 (Nat.le_refl _)) HP3.out.qB (.slice T4 nt c4))
  have HP4 := Lib.hid (HQ4.out.set (i := 4) (by simp) (.slice T4 nt c4))
  obtain ⟨⟨z0, z1, z2, z3, z4, z5⟩, y0, y1, y2, y3, y4, y5⟩ := six_facts HQ4.out.box
  clear hO hb1
  go_upto_region 5 with (fail)
  generalize u4.setCell _ _ = w4 at *
  clear z0 z1 z2 z3 z4 z5 y0 y1 y2 y3 y4 y5
  obtain ⟨⟨z0, z1, z2, z3, z4, z5⟩, _⟩ := six_facts HP4.out.box
  have hzq : w.heap.size + 1 < w4.heap.size := by have := HP4.out.zB; have := HP4.out.B1; omega
  obtain ⟨⟨g0, g1, g2, g3, g4, g5⟩, y0, y1, y2, y3, y4, y5⟩ := six_facts HP4.out.res
  go_wp2
  have hO : BdOwn w4 (w.heap.size + 2) ⟨s, A1, n, c1, F2, m, c2, V3, nv, c3, T4, nt, c4, k⟩ b := ⟨HX.out.s, HX.out.k, HO1xxxx.out, HO2xxxx.out, HO3xxxx.out, HO4.out⟩
  have HOF := Lib.hid ((hO.grown (by omega) (six_grown w4 (w.heap.size + 1) ⟨s, A1, n, c1, F2, m, c2, V3, nv, c3, T4, nt, c4, k⟩)).lower (B' := w.heap.size) (by omega))
  have HBF := Lib.hid (six_below HP4.out.bel HP4.out.z0 ⟨s, A1, n, c1, F2, m, c2, V3, nv, c3, T4, nt, c4, k⟩)
  have HCF := Lib.hid (six_cel HP4.out.res ⟨s, A1, n, c1, F2, m, c2, V3, nv, c3, T4, nt, c4, k⟩)
  clear z0 z1 z2 z3 z4 z5 g0 g1 g2 g3 g4 g5 y0 y1 y2 y3 y4 y5 hO
  change bodyPost _ _ _ _ _ (six w4 (w.heap.size + 1) ⟨s, A1, n, c1, F2, m, c2, V3, nv, c3, T4, nt, c4, k⟩)
  generalize six w4 _ _ = wf at *
  obtain ⟨⟨k0, k1, k2, k3, k4, k5⟩, _⟩ := six_facts HCF.out
  exact bodyPost_ret (v := BdV.val ⟨s, A1, n, c1, F2, m, c2, V3, nv, c3, T4, nt, c4, k⟩) (by simp [results, Tryz.results58, go_sem, k0, k1, k2, k3, k4, k5, BdV.val]) rfl ⟨⟨⟨s, A1, n, c1, F2, m, c2, V3, nv, c3, T4, nt, c4, k⟩, rfl, HOF.out⟩, HBF.out⟩
end Pr
end Go.Proofs.YtkffnfgdmcebdaaGreatDoor
