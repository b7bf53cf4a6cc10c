/- Variables: what is set in a list that may be. -/
import Derived.Test.YthkgjdhbibialaaDoorVs
namespace Go.Proofs.YthkgjdhbibialaaDoor
open Go.RowKit
namespace Vr

/-- Ahead of. -/
def R (a b : V) : Prop := lss a.name b.name = true
theorem R.trans {a b c : V} (h : R a b) (k : R b c) : R a c := lss_trans h k
/-- In order, and each may be. -/
structure Good (o : List V) : Prop where
  srt : o.Pairwise R
  fts : ∀ x ∈ o, fault x = 0
theorem at_get {o : List V} {k : Nat} (h : k < o.length) : o[k]! = o[k] := getElem!_pos o k h
theorem good_of {o : List V} (h : ∀ k, k < o.length → faultAt o k = 0) : Good o := by
  have hf : ∀ k, k < o.length → fault o[k]! = 0 := fun k hk => by
    have := h k hk
    unfold faultAt at this
    by_cases e : fault o[k]! = 0
    · exact e
    · rw [if_pos e] at this; exact absurd this e
  have ha : ∀ k, k + 1 < o.length → R o[k]! o[k + 1]! := fun k hk => by
    have := h (k + 1) hk
    unfold faultAt at this
    rw [if_neg (by rw [hf _ hk]; simp)] at this
    show lss _ _ = true
    cases hl : lss o[k]!.name o[k + 1]!.name with
    | true => rfl
    | false => rw [if_pos ⟨by omega, by rw [show k + 1 - 1 = k from rfl]; exact hl⟩] at this; cases this
  have hp : ∀ d i, i + d + 1 < o.length → R o[i]! o[i + d + 1]! := by
    intro d
    induction d with
    | zero => exact fun i hi => ha i hi
    | succ d ih => exact fun i hi => (ih i (by omega)).trans (ha (i + d + 1) (by omega))
  refine ⟨List.pairwise_iff_getElem.2 fun i j hi hj hij => ?_, fun x hx => ?_⟩
  · have := hp (j - i - 1) i (by omega)
    rw [show i + (j - i - 1) + 1 = j from by omega, at_get hi, at_get hj] at this
    exact this
  · obtain ⟨k, hk, rfl⟩ := List.mem_iff_getElem.1 hx
    rw [← at_get hk]
    exact hf k hk
theorem Good.at_ {o : List V} (h : Good o) {i j : Nat} (hij : i < j) (hj : j < o.length) : R o[i]! o[j]! := by
  rw [at_get (show i < o.length by omega), at_get hj]
  exact List.pairwise_iff_getElem.1 h.srt i j (by omega) hj hij
theorem Good.zero {o : List V} (h : Good o) : ∀ k, k < o.length → faultAt o k = 0 := by
  intro k hk
  have hf : fault o[k]! = 0 := by rw [at_get hk]; exact h.fts _ (List.getElem_mem hk)
  unfold faultAt
  rw [if_neg (by rw [hf]; simp), if_neg]
  intro ⟨h0, h1⟩
  have := h.at_ (i := k - 1) (j := k) (by omega) hk
  unfold R at this
  rw [this] at h1
  cases h1
theorem Good.check {o : List V} (h : Good o) (hl : o.length ≤ 12) : check o = (0, none) := check_fine hl h.zero
theorem good_check {o : List V} (h : (Vr.check o).1 = 0) : Good o := good_of (check_zero h).2
theorem check_one {v : V} : (Vr.check [v]).1 = fault v := by
  have hz : faultAt [v] 0 = fault v := by
    unfold faultAt
    by_cases e : fault v = 0
    · rw [if_neg (by simpa using e), if_neg (by simp)]; exact e.symm
    · rw [if_pos (by simpa using e)]; rfl
  by_cases e : fault v = 0
  · rw [check_fine (by simp) (fun k hk => by
      obtain rfl : k = 0 := by simpa using hk
      rw [hz]; exact e)]
    exact e.symm
  · rw [check_at (k := 0) (by simp) (by simp) (fun j hj => absurd hj (Nat.not_lt_zero j)) (by rw [hz]; exact e)]
    exact hz

theorem setOne_named {l : List V} {v : V} {k : Nat} (h : idx (named v.name) l = k) : setOne l v = l.set k v := by
  unfold setOne; rw [h, if_pos (by omega)]; rfl
theorem setOne_not {l : List V} {v : V} (h : idx (named v.name) l = -1) : setOne l v = l.take (place l v.name) ++ v :: l.drop (place l v.name) := by
  unfold setOne; rw [h, if_neg (by omega)]
theorem setOne_mem (l : List V) (v : V) : v ∈ setOne l v := by
  rcases idx_cases (named v.name) l with ⟨h, _⟩ | ⟨k, h, hk, _⟩
  · rw [setOne_not h]; simp
  · rw [setOne_named h]; exact List.mem_set hk v
theorem setOne_keeps {l : List V} {v x : V} (hx : x ∈ l) (hn : x.name ≠ v.name) : x ∈ setOne l v := by
  rcases idx_cases (named v.name) l with ⟨h, _⟩ | ⟨k, h, hk, hp, _⟩
  · rw [setOne_not h]
    rw [← List.take_append_drop (place l v.name) l] at hx
    rcases List.mem_append.1 hx with h' | h'
    · exact List.mem_append_left _ h'
    · exact List.mem_append_right _ (List.mem_cons_of_mem _ h')
  · rw [setOne_named h]
    obtain ⟨j, hj, rfl⟩ := List.mem_iff_getElem.1 hx
    have hjk : j ≠ k := by
      intro e
      subst e
      rw [at_get hj] at hp
      exact hn (of_decide_eq_true hp)
    exact List.mem_iff_getElem.2 ⟨j, by simpa using hj, by rw [List.getElem_set_ne (by omega)]⟩
theorem Good.setOne {l : List V} {v : V} (h : Good l) (hv : fault v = 0) : Good (setOne l v) := by
  refine ⟨?_, fun x hx => setOne_all (p := fun x => fault x = 0) h.fts hv x hx⟩
  rcases idx_cases (named v.name) l with ⟨hi, hno⟩ | ⟨k, hi, hk, hp, _⟩
  · rw [setOne_not hi]
    have hple := place_le l v.name
    have hbef : ∀ j, j < place l v.name → R l[j]! v := by
      intro j hj
      have hjl : j < l.length := by omega
      have h1 : behind v.name l[j]! = false := by
        unfold place at hj
        rcases idx_cases (behind v.name) l with ⟨hb, hall⟩ | ⟨q, hb, hq, _, hall⟩
        · exact hall j hjl
        · rw [hb, if_neg (by omega)] at hj
          exact hall j (by simpa using hj)
      have h2 : named v.name l[j]! = false := hno j hjl
      unfold behind at h1
      unfold named at h2
      rcases lss_total l[j]!.name v.name with h' | h' | h'
      · exact h'
      · rw [decide_eq_false_iff_not] at h2; exact absurd h' h2
      · rw [h1] at h'; cases h'
    have haft : ∀ j, place l v.name ≤ j → j < l.length → R v l[j]! := by
      intro j hj hjl
      have hpp : R v l[place l v.name]! := by
        show lss _ _ = true
        unfold place at hj ⊢
        rcases idx_cases (behind v.name) l with ⟨hb, hall⟩ | ⟨q, hb, hq, hq2, hall⟩
        · rw [hb, if_pos (by omega)] at hj; omega
        · rw [hb, if_neg (by omega)]
          simpa [behind] using hq2
      by_cases e : j = place l v.name
      · rw [e]; exact hpp
      · exact hpp.trans (h.at_ (by omega) hjl)
    have hs := h.srt
    rw [← List.take_append_drop (place l v.name) l] at hs
    obtain ⟨s1, s2, s3⟩ := List.pairwise_append.1 hs
    refine List.pairwise_append.2 ⟨s1, List.pairwise_cons.2 ⟨fun x hx => ?_, s2⟩, fun a ha b hb => ?_⟩
    · obtain ⟨j, hj, rfl⟩ := List.mem_iff_getElem.1 hx
      rw [List.length_drop] at hj
      rw [List.getElem_drop, ← at_get (show place l v.name + j < l.length by omega)]
      exact haft _ (by omega) (by omega)
    · rcases List.mem_cons.1 hb with rfl | hb
      · obtain ⟨j, hj, rfl⟩ := List.mem_iff_getElem.1 ha
        rw [List.length_take] at hj
        rw [List.getElem_take, ← at_get (show j < l.length by omega)]
        exact hbef _ (by omega)
      · exact s3 a ha b hb
  · rw [setOne_named hi]
    rw [at_get hk] at hp
    have hnm : l[k].name = v.name := of_decide_eq_true hp
    have key : ∀ i (hi : i < (l.set k v).length), (l.set k v)[i].name = (l[i]'(by simpa using hi)).name := by
      intro i hi
      rw [List.getElem_set]
      split
      · rename_i e; subst e; exact hnm.symm
      · rfl
    refine List.pairwise_iff_getElem.2 fun i j hi hj hij => ?_
    show lss _ _ = true
    rw [key i hi, key j hj]
    exact List.pairwise_iff_getElem.1 h.srt i j _ _ hij
theorem Good.uniq {l : List V} (h : Good l) {x y : V} (hx : x ∈ l) (hy : y ∈ l) (hn : x.name = y.name) : x = y := by
  obtain ⟨i, hi, rfl⟩ := List.mem_iff_getElem.1 hx
  obtain ⟨j, hj, rfl⟩ := List.mem_iff_getElem.1 hy
  rcases Nat.lt_trichotomy i j with hij | hij | hij
  · have := List.pairwise_iff_getElem.1 h.srt i j hi hj hij
    unfold R at this
    rw [hn, lss_irrefl] at this
    cases this
  · subst hij; rfl
  · have := List.pairwise_iff_getElem.1 h.srt j i hj hi hij
    unfold R at this
    rw [hn, lss_irrefl] at this
    cases this
theorem Good.get {l : List V} (h : Good l) {x : V} (hx : x ∈ l) : get l x.name = (x, true) := by
  unfold Vr.get
  rcases idx_cases (named x.name) l with ⟨hi, hno⟩ | ⟨k, hi, hk, hp, _⟩
  · obtain ⟨i, hi', rfl⟩ := List.mem_iff_getElem.1 hx
    have := hno i hi'
    rw [at_get hi'] at this
    simp [named] at this
  · rw [hi, if_pos (by omega)]
    rw [at_get hk] at hp
    have := h.uniq (List.getElem_mem hk) hx (of_decide_eq_true hp)
    rw [Int.toNat_natCast, at_get hk, this]
theorem get_not {l : List V} {s : ByteArray} (h : ∀ x ∈ l, x.name ≠ s) : get l s = (default, false) := by
  unfold Vr.get
  rcases idx_cases (named s) l with ⟨hi, _⟩ | ⟨k, hi, hk, hp, _⟩
  · rw [hi, if_neg (by omega)]
  · rw [at_get hk] at hp
    exact absurd (of_decide_eq_true hp) (h _ (List.getElem_mem hk))
theorem get_true {l : List V} {s : ByteArray} (h : (get l s).2 = true) : ∃ x ∈ l, x.name = s := by
  unfold Vr.get at h
  rcases idx_cases (named s) l with ⟨hi, _⟩ | ⟨k, hi, hk, hp, _⟩
  · rw [hi, if_neg (by omega)] at h; cases h
  · rw [at_get hk] at hp
    exact ⟨_, List.getElem_mem hk, of_decide_eq_true hp⟩
/-- One that is there takes no room. -/
theorem setOne_len_eq {l : List V} {v : V} (h : ∃ x ∈ l, x.name = v.name) : (setOne l v).length = l.length := by
  obtain ⟨x, hx, hn⟩ := h
  rcases idx_cases (named v.name) l with ⟨hi, hno⟩ | ⟨k, hi, hk, hp, _⟩
  · obtain ⟨i, hi', rfl⟩ := List.mem_iff_getElem.1 hx
    have := hno i hi'
    rw [at_get hi'] at this
    simp [named, hn] at this
  · rw [setOne_named hi, List.length_set]
/-- One that stands behind all. -/
theorem setOne_last {l : List V} {v : V} (h : ∀ x ∈ l, R x v) : setOne l v = l ++ [v] := by
  have hne : ∀ x ∈ l, named v.name x = false := fun x hx => by
    unfold named
    rw [decide_eq_false_iff_not]
    intro e
    have := h x hx
    unfold R at this
    rw [e, lss_irrefl] at this
    cases this
  have hnb : ∀ x ∈ l, behind v.name x = false := fun x hx => lss_asymm (h x hx)
  have hi : idx (named v.name) l = -1 := idx_miss fun j hj => by rw [at_get hj]; exact hne _ (List.getElem_mem hj)
  have hb : idx (behind v.name) l = -1 := idx_miss fun j hj => by rw [at_get hj]; exact hnb _ (List.getElem_mem hj)
  rw [setOne_not hi]
  unfold place
  rw [hb, if_pos (by omega), List.take_length, List.drop_length]
theorem good_nil : Good [] := ⟨List.Pairwise.nil, fun x h => by cases h⟩
end Vr
end Go.Proofs.YthkgjdhbibialaaDoor
