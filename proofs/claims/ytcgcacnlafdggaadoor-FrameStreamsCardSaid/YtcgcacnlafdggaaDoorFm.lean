/- Plain mathematics of frames, the second part: a frame is read as it was put; its beginnings; one byte turned; frames in a row. -/
import Derived.Test.YtcgcacnlafdggaaDoorFr
namespace Go.Proofs.YtcgcacnlafdggaaDoor.Fr

theorem take3 (l : List UInt8) (h : wrong l = false) : l.take 3 = marks.take l.length := by
  unfold wrong at h
  simpa using h
theorem wrong_cons {x : UInt8} {t : List UInt8} (h : x ≠ 76) : wrong (x :: t) = true := by
  unfold wrong marks
  simp only [bne_iff_ne, ne_eq]
  intro e
  have := congrArg List.head? e
  simp at this
  exact h this
theorem wrong_cons2 {x y : UInt8} {t : List UInt8} (h : y ≠ 104) : wrong (x :: y :: t) = true := by
  unfold wrong marks
  simp only [bne_iff_ne, ne_eq]
  intro e
  have := congrArg (fun l => l[1]?) e
  simp at this
  exact h this
theorem code_wrong {l : List UInt8} (h : wrong l = true) : code l = 102 := by
  have : scode l = 102 := if_pos h
  unfold code
  rw [this]; rfl
theorem next_wrong {x : UInt8} {t : List UInt8} (h : wrong (x :: t) = true) : next (x :: t) = next t := by
  have := (next_skips (l := x :: t) (by rw [code_wrong h]; decide) (by rw [code_wrong h]; decide)).1
  simpa using this

section
variable {k : UInt8} {b t : List UInt8}
theorem head_len (k : UInt8) (n : Nat) : (head k n).length = 6 := rfl
theorem blen_head (hb : b.length ≤ 4000) (r : List UInt8) : blen (head k b.length ++ r) = b.length := by
  unfold blen head
  simp only [List.cons_append, List.nil_append, List.getD_cons_succ, List.getD_cons_zero, UInt8.toNat_ofNat']
  omega
theorem wrong_head (n : Nat) (r : List UInt8) : wrong (head k n ++ r) = false := by
  unfold wrong head marks
  simp
/-- A frame is read as it was put, whatever stands behind. -/
theorem code_put (hb : b.length ≤ 4000) : code (put k b ++ t) = 0 ∧ kind (put k b ++ t) = k ∧ body (put k b ++ t) = b ∧ blen (put k b ++ t) = b.length := by
  have e : put k b ++ t = head k b.length ++ (b ++ (Crc.four (Crc.sum (head k b.length ++ b)) ++ t)) := by simp [put]
  have hbl : blen (put k b ++ t) = b.length := by rw [e]; exact blen_head hb _
  have hw : wrong (put k b ++ t) = false := by rw [e]; exact wrong_head _ _
  have hlen : (put k b ++ t).length = b.length + 10 + t.length := by rw [List.length_append, put_len]
  have hs : scode (put k b ++ t) = 0 := by
    unfold scode
    rw [if_neg (by rw [hw]; decide), if_neg (by omega), if_neg (by rw [hbl]; omega), if_neg (by rw [hbl]; omega)]
  have e2 : put k b ++ t = (head k b.length ++ b) ++ (Crc.four (Crc.sum (head k b.length ++ b)) ++ t) := by simp [put]
  have hl2 : (head k b.length ++ b).length = b.length + 6 := by rw [List.length_append, head_len]; omega
  have hf : fits (put k b ++ t) = true := by
    unfold fits
    rw [hbl, e2, List.take_left' hl2, List.drop_left' hl2, List.take_left' (Crc.four_len _)]
    simp
  refine ⟨code_fine hs hf, ?_, ?_, hbl⟩
  · rw [e]; rfl
  · unfold body
    rw [hbl, e, List.drop_left' (head_len _ _), List.take_left' rfl]
/-- Its beginnings end too early. -/
theorem code_part (hb : b.length ≤ 4000) {j : Nat} (hj : j < b.length + 10) : code ((put k b).take j) = 101 := by
  have hl : ((put k b).take j).length = j := by rw [List.length_take, put_len]; omega
  have e : put k b = marks ++ ([k, UInt8.ofNat b.length, UInt8.ofNat (b.length / 256)] ++ b ++ Crc.four (Crc.sum (head k b.length ++ b))) := by simp [put, head, marks]
  have hw : wrong ((put k b).take j) = false := by
    unfold wrong
    rw [hl, List.take_take, e]
    have : min 3 j ≤ marks.length := by show min 3 j ≤ 3; omega
    rw [List.take_append_of_le_length this]
    have e3 : marks.take (min 3 j) = marks.take j := by
      show marks.take (min marks.length j) = _
      rw [Nat.min_comm, ← List.take_eq_take_min]
    rw [e3]
    simp
  have hs : scode ((put k b).take j) = 101 := by
    unfold scode
    rw [if_neg (by rw [hw]; decide)]
    by_cases h6 : j < 6
    · rw [if_pos (by omega)]
    · have e2 : put k b = head k b.length ++ (b ++ Crc.four (Crc.sum (head k b.length ++ b))) := by simp [put]
      have hbl : blen ((put k b).take j) = b.length := by
        rw [e2, List.take_append, List.take_of_length_le (by rw [head_len]; omega)]
        exact blen_head hb _
      rw [if_neg (by omega), if_neg (by rw [hbl]; omega), if_pos (by rw [hbl]; omega)]
  rw [code_amiss (by rw [hs]; decide), hs]
theorem next_put (hb : b.length ≤ 4000) : next (put k b ++ t) = (some (k, b), t) := by
  obtain ⟨h1, h2, h3, h4⟩ := code_put (k := k) (t := t) hb
  rw [next_found h1, h2, h3, h4, List.drop_left' (put_len k b)]
end

/-! ### One byte turned -/
theorem four_inj {a b : BitVec 32} (h : Crc.four a = Crc.four b) : a = b := by
  unfold Crc.four at h
  injection h with h0 h; injection h with h1 h; injection h with h2 h; injection h with h3 _
  have k0 := congrArg UInt8.toNat h0
  have k1 := congrArg UInt8.toNat h1
  have k2 := congrArg UInt8.toNat h2
  have k3 := congrArg UInt8.toNat h3
  simp only [UInt8.toNat_ofNat'] at k0 k1 k2 k3
  apply BitVec.eq_of_toNat_eq
  have := a.isLt
  have := b.isLt
  omega
theorem sum_turned {a c : List UInt8} {x y : UInt8} (h : Crc.sum (a ++ x :: c) = Crc.sum (a ++ y :: c)) : x = y := by
  unfold Crc.sum Crc.more at h
  have h := Crc.not_inj h
  rw [Crc.run_append, Crc.run_append] at h
  have h : Crc.run (Crc.byte (Crc.run (~~~ 0#32) a) x) c = Crc.run (Crc.byte (Crc.run (~~~ 0#32) a) y) c := h
  have h := Crc.run_inj c h
  unfold Crc.byte at h
  have h := Crc.bits_inj 8 h
  have h := congrArg (Crc.run (~~~ 0#32) a ^^^ ·) h
  simp only [← BitVec.xor_assoc, BitVec.xor_self, BitVec.zero_xor] at h
  have h := congrArg BitVec.toNat h
  simp only [BitVec.toNat_ofNat] at h
  have := x.toNat_lt
  have := y.toNat_lt
  exact UInt8.toNat_inj.1 (by omega)
/-- Two texts of one length, the sum behind each, that differ in one byte: not both fit. -/
theorem turned_not {l d : List UInt8} {i : Nat} {x : UInt8} (hi : i < l.length) (hd : d = l.set i x) (hx : x ≠ l[i]) (hl : l.length = blen l + 10) (hbl : blen d = blen l) (hf : fits l = true) : fits d = false := by
  cases hfd : fits d with
  | false => rfl
  | true =>
    exfalso
    have hf : (l.drop (blen l + 6)).take 4 = Crc.four (Crc.sum (l.take (blen l + 6))) := by simpa [fits] using hf
    have hfd : (d.drop (blen d + 6)).take 4 = Crc.four (Crc.sum (d.take (blen d + 6))) := by simpa [fits] using hfd
    rw [hbl] at hfd
    generalize blen l = n at *
    by_cases h : i < n + 6
    · have e1 : d.drop (n + 6) = l.drop (n + 6) := by rw [hd, List.drop_set_of_lt h]
      have e2 : d.take (n + 6) = l.take i ++ x :: (l.take (n + 6)).drop (i + 1) := by
        rw [hd, List.take_set, List.set_eq_take_append_cons_drop, if_pos (by rw [List.length_take]; omega), List.take_take, Nat.min_eq_left (by omega)]
      have e3 : l.take (n + 6) = l.take i ++ l[i] :: (l.take (n + 6)).drop (i + 1) := by
        have h1 : i < (l.take (n + 6)).length := by rw [List.length_take]; omega
        have := List.take_append_drop i (l.take (n + 6))
        rw [List.take_take, Nat.min_eq_left (by omega), List.drop_eq_getElem_cons h1, List.getElem_take] at this
        exact this.symm
      have h4 := four_inj (hf.symm.trans (e1 ▸ hfd))
      rw [e2, e3] at h4
      have h5 : Crc.sum (l.take i ++ l[i] :: (l.take (n + 6)).drop (i + 1)) = Crc.sum (l.take i ++ x :: (l.take (n + 6)).drop (i + 1)) := by
        rw [← e3] at h4 ⊢
        exact h4
      exact hx (sum_turned h5).symm
    · have e1 : d.take (n + 6) = l.take (n + 6) := by rw [hd, List.take_set_of_le (by omega)]
      rw [e1, ← hf] at hfd
      have h1 : (l.drop (n + 6)).length = 4 := by rw [List.length_drop]; omega
      have h2 : (d.drop (n + 6)).length = 4 := by rw [List.length_drop, hd, List.length_set]; omega
      rw [List.take_of_length_le (by omega), List.take_of_length_le (by omega)] at hfd
      have := congrArg (fun m => m[i - (n + 6)]?) hfd
      simp only [List.getElem?_drop] at this
      rw [show n + 6 + (i - (n + 6)) = i from by omega, hd, List.getElem?_set_self (by omega), List.getElem?_eq_getElem hi] at this
      exact hx (Option.some.inj this)

theorem next_len : ∀ l : List UInt8, (next l).2.length ≤ l.length
  | [] => Nat.le_refl 0
  | x :: t => by
    rw [next]
    split
    · show ((x :: t).drop _).length ≤ _
      rw [List.length_drop]; omega
    · split
      · exact Nat.le_refl _
      · have := next_len t
        rw [List.length_cons]; omega

theorem body_le (l : List UInt8) : (body l).length ≤ l.length := by
  unfold body
  rw [List.length_take, List.length_drop]; omega
theorem got_len : ∀ l : List UInt8, (got l).2.1.length ≤ l.length
  | [] => Nat.le_refl 0
  | x :: t => by
    by_cases h0 : code (x :: t) = 0
    · rw [got_found h0]; exact body_le _
    · by_cases h1 : code (x :: t) = 101
      · rw [got_waits h1]; exact Nat.zero_le _
      · rw [got_next (next_skips h0 h1).1]
        have := got_len t
        show (got t).2.1.length ≤ _
        rw [List.length_cons]; omega

/-! ### Frames in a row -/
def row : Nat → List (List UInt8) → List UInt8
  | _, [] => []
  | i, b :: t => put (UInt8.ofNat i) b ++ row (i + 1) t
theorem next_row (i : Nat) : ∀ (z : Nat) (bs : List (List UInt8)) (waits rest : List UInt8), (∀ b ∈ bs, b.length ≤ 4000) → waits ++ rest = List.replicate z 16 ++ row i bs →
    (∃ b t, bs = b :: t ∧ (next waits).1 = some (UInt8.ofNat i, b) ∧ (next waits).2 ++ rest = row (i + 1) t) ∨
    ((next waits).1 = none ∧ ∃ z', (next waits).2 ++ rest = List.replicate z' 16 ++ row i bs ∧ (rest = [] → bs = [] ∧ (next waits).2 = []))
  | z + 1, bs, x :: w', rest, hb, h => by
    rw [List.replicate_succ, List.cons_append, List.cons_append] at h
    injection h with h1 h2
    subst h1
    rw [next_wrong (wrong_cons (by decide))]
    exact next_row i z bs w' rest hb h2
  | z + 1, bs, [], rest, hb, h => by
    refine .inr ⟨rfl, z + 1, h, fun hr => ?_⟩
    subst hr
    simp [List.replicate_succ] at h
  | 0, [], waits, rest, hb, h => by
    have h : waits ++ rest = [] := h
    obtain ⟨rfl, rfl⟩ := List.append_eq_nil_iff.1 h
    exact .inr ⟨rfl, 0, rfl, fun _ => ⟨rfl, rfl⟩⟩
  | 0, b :: t, waits, rest, hb, h => by
    have h : waits ++ rest = put (UInt8.ofNat i) b ++ row (i + 1) t := h
    have hbl := hb b (List.mem_cons_self ..)
    have hF := put_len (UInt8.ofNat i) b
    by_cases hlen : b.length + 10 ≤ waits.length
    · left
      rcases List.append_eq_append_iff.1 h with ⟨a, h1, h2⟩ | ⟨a, h1, h2⟩
      · have ha : a = [] := List.eq_nil_of_length_eq_zero (by have := congrArg List.length h1; rw [hF, List.length_append] at this; omega)
        subst ha
        rw [List.append_nil] at h1
        have := next_put (k := UInt8.ofNat i) (t := []) hbl
        rw [List.append_nil, h1] at this
        exact ⟨b, t, rfl, by rw [this], by rw [this]; simpa using h2⟩
      · have := next_put (k := UInt8.ofNat i) (t := a) hbl
        rw [← h1] at this
        exact ⟨b, t, rfl, by rw [this], by rw [this]; exact h2.symm⟩
    · right
      have hw : waits = (put (UInt8.ofNat i) b).take waits.length := by
        have := congrArg (List.take waits.length) h
        rw [List.take_left' rfl, List.take_append_of_le_length (by omega)] at this
        exact this
      have hc : code waits = 101 := by
        have h1 := code_part (k := UInt8.ofNat i) hbl (show waits.length < b.length + 10 by omega)
        rwa [← hw] at h1
      rw [next_waits hc]
      refine ⟨rfl, 0, h, fun hr => ?_⟩
      have := congrArg List.length h
      rw [hr, List.length_append, List.length_append, hF] at this
      simp at this
      omega
end Go.Proofs.YtcgcacnlafdggaaDoor.Fr
