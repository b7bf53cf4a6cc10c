/- Plain mathematics of frames, the third part: frames in a row, one of which has a wrong byte. -/
import Derived.Test.YtcgcacnlafdggaaDoorFm
namespace Go.Proofs.YtcgcacnlafdggaaDoor.Fr

/-- The i-th one, and the same with its first body byte turned. -/
def good (i : Nat) : List UInt8 := put (UInt8.ofNat i) [UInt8.ofNat i, 7]
def bad (i : Nat) (x : UInt8) : List UInt8 := (good i).set 6 (UInt8.ofNat i ^^^ x)
/-- Frames from i on, m of them. -/
def spoilt (at_ : Nat) (x : UInt8) : Nat → Nat → List UInt8
  | _, 0 => []
  | i, m + 1 => (if i = at_ then bad i x else good i) ++ spoilt at_ x (i + 1) m
theorem good_len (i : Nat) : (good i).length = 12 := put_len _ _
theorem bad_len (i : Nat) (x : UInt8) : (bad i x).length = 12 := by unfold bad; rw [List.length_set, good_len]
theorem spoilt_len (at_ : Nat) (x : UInt8) : ∀ m i, (spoilt at_ x i m).length = 12 * m
  | 0, _ => rfl
  | m + 1, i => by
    rw [spoilt, List.length_append, spoilt_len at_ x m (i + 1)]
    split
    · rw [bad_len]; omega
    · rw [good_len]; omega
theorem spoilt_append (at_ : Nat) (x : UInt8) : ∀ m i, spoilt at_ x i (m + 1) = spoilt at_ x i m ++ (if i + m = at_ then bad (i + m) x else good (i + m))
  | 0, i => by simp [spoilt]
  | m + 1, i => by
    rw [spoilt, spoilt_append at_ x m (i + 1), spoilt, List.append_assoc, show i + 1 + m = i + (m + 1) from by omega]
theorem xor_ne (a x : UInt8) (h : x ≠ 0) : a ^^^ x ≠ a := by
  intro e
  have := congrArg (a ^^^ ·) e
  simp only [← UInt8.xor_assoc, UInt8.xor_self, UInt8.zero_xor] at this
  exact h this
theorem two_le (x y : UInt8) : [x, y].length ≤ 4000 := by simp
def tail4 (i : Nat) : List UInt8 := Crc.four (Crc.sum (head (UInt8.ofNat i) 2 ++ [UInt8.ofNat i, 7]))
theorem tail4_len (i : Nat) : (tail4 i).length = 4 := rfl
theorem good_list (i : Nat) : good i = [76, 104, 1, UInt8.ofNat i, 2, 0, UInt8.ofNat i, 7] ++ tail4 i := by
  unfold good put
  rw [show [UInt8.ofNat i, 7].length = 2 from rfl]
  show head (UInt8.ofNat i) 2 ++ [UInt8.ofNat i, 7] ++ tail4 i = _
  generalize tail4 i = r
  rfl
theorem bad_list (i : Nat) (x : UInt8) : bad i x = [76, 104, 1, UInt8.ofNat i, 2, 0, UInt8.ofNat i ^^^ x, 7] ++ tail4 i := by
  unfold bad
  rw [good_list]
  generalize tail4 i = r
  rfl
theorem good_blen (i : Nat) : blen (good i) = 2 := by
  rw [good_list]
  generalize tail4 i = r
  rfl
theorem bad_blen (i : Nat) (x : UInt8) (t : List UInt8) : blen (bad i x ++ t) = 2 := by
  rw [bad_list]
  generalize tail4 i = r
  rfl
theorem good_six (i : Nat) (h : 6 < (good i).length) : (good i)[6] = UInt8.ofNat i := by
  have : (good i)[6]? = some (UInt8.ofNat i) := by
    rw [good_list]
    generalize tail4 i = r
    rfl
  rw [List.getElem?_eq_getElem h] at this
  exact Option.some.inj this
theorem ofNat_ne76 (i : Nat) (hi : i < 5) : UInt8.ofNat i ≠ 76 := by
  match i, hi with
  | 0, _ => decide
  | 1, _ => decide
  | 2, _ => decide
  | 3, _ => decide
  | 4, _ => decide
theorem four_few (i : Nat) (hi : i < 5) : ∀ y ∈ tail4 i, y ≠ 76 := by
  match i, hi with
  | 0, _ => decide +kernel
  | 1, _ => decide +kernel
  | 2, _ => decide +kernel
  | 3, _ => decide +kernel
  | 4, _ => decide +kernel
theorem next_none76 : ∀ (l t : List UInt8), (∀ y ∈ l, y ≠ 76) → next (l ++ t) = next t
  | [], _, _ => rfl
  | y :: l, t, h => by
    rw [List.cons_append, next_wrong (wrong_cons (h y (List.mem_cons_self ..)))]
    exact next_none76 l t (fun z hz => h z (List.mem_cons_of_mem _ hz))
/-- The spoilt one is thrown away. -/
theorem next_bad {i : Nat} {x : UInt8} (hi : i < 5) (hx : x ≠ 0) (t : List UInt8) : next (bad i x ++ t) = next t := by
  have hb3 := bad_blen i x t
  have hl : (bad i x ++ t).length = 12 + t.length := by rw [List.length_append, bad_len]
  have hw : wrong (bad i x ++ t) = false := by
    rw [bad_list]
    generalize tail4 i = r
    exact wrong_head (k := UInt8.ofNat i) 2 ((UInt8.ofNat i ^^^ x) :: 7 :: (r ++ t))
  have hs : scode (bad i x ++ t) = 0 := by
    unfold scode
    rw [if_neg (by rw [hw]; decide), if_neg (by omega), if_neg (by rw [hb3]; decide), if_neg (by rw [hb3]; omega)]
  have hb2 : blen (bad i x) = 2 := by have := bad_blen i x []; rwa [List.append_nil] at this
  have hgl := good_len i
  have hgf : fits (good i) = true := by
    have := (code_put (k := UInt8.ofNat i) (b := [UInt8.ofNat i, 7]) (t := []) (two_le _ _)).1
    rw [List.append_nil] at this
    exact (code_zero this).2
  have hf : fits (bad i x ++ t) = false := by
    have h := turned_not (l := good i) (d := bad i x) (i := 6) (x := UInt8.ofNat i ^^^ x) (by omega) rfl (by rw [good_six]; exact xor_ne _ _ hx) (by rw [hgl, good_blen]) (by rw [hb2, good_blen]) hgf
    have key : ∀ d : List UInt8, d.length = 12 → blen d = 2 → blen (d ++ t) = 2 → fits d = false → fits (d ++ t) = false := by
      intro d hl k1 k2 h
      unfold fits at h ⊢
      rw [k1] at h
      rw [k2, List.take_append_of_le_length (by omega), List.drop_append_of_le_length (by omega), List.take_append_of_le_length (by rw [List.length_drop]; omega)]
      exact h
    exact key _ (bad_len i x) hb2 hb3 h
  have hc : code (bad i x ++ t) = 103 := code_sum hs hf
  have h1 := (next_skips (l := bad i x ++ t) (by rw [hc]; decide) (by rw [hc]; decide)).1
  rw [h1, bad_list]
  have hi76 := ofNat_ne76 i hi
  have h4 := four_few i hi
  generalize tail4 i = r at *
  show next (104 :: 1 :: UInt8.ofNat i :: 2 :: 0 :: (UInt8.ofNat i ^^^ x) :: 7 :: (r ++ t)) = next t
  rw [next_wrong (wrong_cons (by decide)), next_wrong (wrong_cons (by decide)), next_wrong (wrong_cons hi76), next_wrong (wrong_cons (by decide)), next_wrong (wrong_cons (by decide)), next_wrong (wrong_cons2 (by decide)), next_wrong (wrong_cons (by decide))]
  exact next_none76 _ _ h4

theorem next_good (i : Nat) (t : List UInt8) : next (good i ++ t) = (some (UInt8.ofNat i, [UInt8.ofNat i, 7]), t) := next_put (two_le _ _)
theorem next_before {at_ : Nat} {x : UInt8} {i m : Nat} (h : i ≠ at_) : next (spoilt at_ x i (m + 1)) = (some (UInt8.ofNat i, [UInt8.ofNat i, 7]), spoilt at_ x (i + 1) m) := by
  rw [spoilt, if_neg h, next_good]
theorem next_at {at_ : Nat} {x : UInt8} {m : Nat} (h : at_ < 5) (hx : x ≠ 0) : next (spoilt at_ x at_ (m + 1)) = next (spoilt at_ x (at_ + 1) m) := by
  rw [spoilt, if_pos rfl, next_bad h hx]
/-- What waits behind k calls, of n frames. -/
def left_ (at_ n : Nat) (x : UInt8) (k : Nat) : List UInt8 := if k ≤ at_ then spoilt at_ x k (n - k) else spoilt at_ x (k + 1) (n - (k + 1))
/-- How many came out. -/
def came (n k : Nat) : Nat := min k (n - 1)
theorem left_step {at_ n : Nat} {x : UInt8} {k : Nat} (hn : n ≤ 5) (ha : at_ < n) (hk : k < n) (hx : x ≠ 0) :
    (next (left_ at_ n x k)).2 = left_ at_ n x (k + 1) ∧
    ((k + 1 < n ∧ ∃ j, (k < at_ → j = k) ∧ (next (left_ at_ n x k)).1 = some (UInt8.ofNat j, [UInt8.ofNat j, 7])) ∨ (k + 1 = n ∧ (next (left_ at_ n x k)).1 = none)) := by
  unfold left_
  by_cases h1 : k < at_
  · rw [if_pos (by omega), if_pos (by omega)]
    obtain ⟨m, hm⟩ : ∃ m, n - k = m + 1 := ⟨n - k - 1, by omega⟩
    rw [hm, next_before (by omega)]
    exact ⟨by rw [show n - (k + 1) = m from by omega], .inl ⟨by omega, k, fun _ => rfl, rfl⟩⟩
  · rw [if_neg (show ¬ k + 1 ≤ at_ by omega)]
    have hsp : next (if k ≤ at_ then spoilt at_ x k (n - k) else spoilt at_ x (k + 1) (n - (k + 1))) = next (spoilt at_ x (k + 1) (n - (k + 1))) := by
      by_cases h2 : k = at_
      · subst h2
        obtain ⟨m, hm⟩ : ∃ m, n - k = m + 1 := ⟨n - k - 1, by omega⟩
        rw [if_pos (Nat.le_refl _), hm, next_at (by omega) hx, show n - (k + 1) = m from by omega]
      · rw [if_neg (by omega)]
    rw [hsp]
    by_cases h3 : k + 1 < n
    · obtain ⟨m, hm⟩ : ∃ m, n - (k + 1) = m + 1 := ⟨n - (k + 1) - 1, by omega⟩
      rw [hm, next_before (by omega)]
      exact ⟨by rw [show n - (k + 1 + 1) = m from by omega], .inl ⟨h3, k + 1, fun h => by omega, rfl⟩⟩
    · have h0 : n - (k + 1) = 0 := by omega
      rw [h0, show n - (k + 1 + 1) = 0 from by omega]
      exact ⟨rfl, .inr ⟨by omega, rfl⟩⟩
theorem left_len (at_ n : Nat) (x : UInt8) (k : Nat) : (left_ at_ n x k).length ≤ 12 * n := by
  unfold left_
  split <;> rw [spoilt_len] <;> omega
theorem left_start {at_ n : Nat} {x : UInt8} : left_ at_ n x 0 = spoilt at_ x 0 n := by unfold left_; rw [if_pos (Nat.zero_le _)]; rfl
theorem left_end {at_ n : Nat} {x : UInt8} (ha : at_ < n) : left_ at_ n x n = [] := by
  unfold left_
  rw [if_neg (by omega), show n - (n + 1) = 0 from by omega]; rfl
end Go.Proofs.YtcgcacnlafdggaaDoor.Fr
