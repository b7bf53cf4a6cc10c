/- Errors of one to three bits, of a burst of 32: what the sum makes of them. Plain mathematics, and one list that the kernel reckons. -/
import Derived.Test.YtklijhfieopakaaDoorMath
import Derived.KernelRfl
namespace Go.Proofs.YtklijhfieopakaaDoor.Crc

/-! ### All 4032 words that one bit comes to differ, but for their lowest bit -/
def force {α : Type} (n : Nat) (k : Nat → α) : α := match n with | 0 => k 0 | m + 1 => k (m + 1)
theorem force_eq {α : Type} (n : Nat) (k : Nat → α) : force n k = k n := by cases n <;> rfl
def stepN (s : Nat) : Nat := bif s % 2 == 1 then (s / 2) ^^^ 3988292384 else s / 2
def gen : Nat → Nat → List Nat
  | 0, _ => []
  | n + 1, s => force (stepN s) fun t => (t / 2) :: gen n t
def nd : Nat → List Nat → Bool
  | _, [] => true
  | _, [_] => true
  | 0, _ :: _ :: _ => false
  | k + 1, a :: b :: l => nd k ((a :: b :: l).filter fun x => x / 2 ^ k % 2 == 1) && nd k ((a :: b :: l).filter fun x => x / 2 ^ k % 2 == 0)
set_option maxRecDepth 100000 in
theorem nd_gen : nd 31 (gen 4032 1) = true := by kernel_rfl

theorem nd_count : ∀ (k : Nat) (l : List Nat), nd k l = true → ∀ a, l.count a ≤ 1
  | _, [], _, a => by simp
  | _, [x], _, a => by rw [List.count_cons]; simp; split <;> omega
  | 0, _ :: _ :: _, h, _ => by simp [nd] at h
  | k + 1, x :: y :: l, h, a => by
    simp only [nd, Bool.and_eq_true] at h
    have h1 := nd_count k _ h.1 a
    have h2 := nd_count k _ h.2 a
    rcases Nat.mod_two_eq_zero_or_one (a / 2 ^ k) with h0 | h0
    · rwa [List.count_filter (by simp [h0])] at h2
    · rwa [List.count_filter (by simp [h0])] at h1

theorem stepN_eq (s : BitVec 32) : stepN s.toNat = (bit s).toNat := by
  unfold stepN bit
  have hb : s.getLsbD 0 = (s.toNat % 2 == 1) := by
    simp only [BitVec.getLsbD, Nat.testBit, Nat.shiftRight_zero, Nat.one_and_eq_mod_two]
    rw [Bool.eq_iff_iff]; simp
  rw [hb]
  cases s.toNat % 2 == 1
  · simp [Nat.shiftRight_eq_div_pow]
  · simp [Nat.shiftRight_eq_div_pow]
theorem gen_get : ∀ (n : Nat) (s : BitVec 32) (i : Nat), i < n → (gen n s.toNat)[i]? = some ((bits (i + 1) s).toNat / 2)
  | 0, _, i, h => absurd h (Nat.not_lt_zero i)
  | n + 1, s, i, h => by
    rw [gen, force_eq, stepN_eq]
    cases i with
    | zero => rfl
    | succ i =>
      rw [List.getElem?_cons_succ, gen_get n (bit s) i (by omega)]
      rfl
theorem half_ne {m n : Nat} (hm : 1 ≤ m) (hn : 1 ≤ n) (hm' : m ≤ 4032) (hn' : n ≤ 4032) (hne : m ≠ n) : (bits m 1#32).toNat / 2 ≠ (bits n 1#32).toNat / 2 := by
  intro he
  have h1 := gen_get 4032 1#32 (m - 1) (by omega)
  have h2 := gen_get 4032 1#32 (n - 1) (by omega)
  rw [show m - 1 + 1 = m from by omega] at h1
  rw [show n - 1 + 1 = n from by omega, ← he] at h2
  have hc := nd_count 31 _ nd_gen ((bits m 1#32).toNat / 2)
  have h1' : (gen 4032 1)[m - 1]? = some ((bits m 1#32).toNat / 2) := h1
  have h2' : (gen 4032 1)[n - 1]? = some ((bits m 1#32).toNat / 2) := h2
  clear h1 h2
  generalize gen 4032 1 = l at *
  generalize (bits m 1#32).toNat / 2 = x at *
  have two : ∀ (l : List Nat) (i j : Nat), i < j → l[i]? = some x → l[j]? = some x → 2 ≤ l.count x := by
    intro l
    induction l with
    | nil => intro i j _ h; simp at h
    | cons y l ih =>
      intro i j hij hi hj
      cases j with
      | zero => omega
      | succ j =>
        rw [List.getElem?_cons_succ] at hj
        cases i with
        | zero =>
          simp at hi
          subst hi
          have : 1 ≤ l.count y := List.count_pos_iff.2 (List.mem_of_getElem? hj)
          rw [List.count_cons_self]; omega
        | succ i =>
          rw [List.getElem?_cons_succ] at hi
          have := ih i j (by omega) hi hj
          rw [List.count_cons]; omega
  rcases Nat.lt_or_gt_of_ne (show m - 1 ≠ n - 1 by omega) with h | h
  · have := two l _ _ h h1' h2'; omega
  · have := two l _ _ h h2' h1'; omega

theorem bits_ne_zero (n : Nat) : bits n 1#32 ≠ 0#32 := fun h => absurd (bits_eq_zero n h) (by decide)
/-- Two words that differ by one have one half. -/
theorem xor_one_half {a b : BitVec 32} (h : 1#32 ^^^ a ^^^ b = 0#32) : a.toNat / 2 = b.toNat / 2 := by
  have e : b = a ^^^ 1#32 := by
    have := congrArg (· ^^^ b) h
    simp only [BitVec.xor_assoc, BitVec.xor_self, BitVec.xor_zero, BitVec.zero_xor] at this
    rw [← this, BitVec.xor_comm]
  subst e
  have : (a ^^^ 1#32) >>> 1 = a >>> 1 := by
    rw [BitVec.ushiftRight_xor_distrib, show (1#32 : BitVec 32) >>> 1 = 0#32 from by decide, BitVec.xor_zero]
  have h2 := congrArg BitVec.toNat this
  simp only [BitVec.toNat_ushiftRight, Nat.shiftRight_eq_div_pow] at h2
  simpa using h2.symm
theorem two_ne {m n : Nat} (hm : 1 ≤ m) (hn : 1 ≤ n) (hm' : m ≤ 4032) (hn' : n ≤ 4032) (hne : m ≠ n) : 1#32 ^^^ bits m 1#32 ^^^ bits n 1#32 ≠ 0#32 :=
  fun h => half_ne hm hn hm' hn' hne (xor_one_half h)
theorem three_low {a b c : Nat} (hab : a < b) (hac : a < c) (hb : b ≤ 4032) (hc : c ≤ 4032) (hbc : b ≠ c) : bits a 1#32 ^^^ bits b 1#32 ^^^ bits c 1#32 ≠ 0#32 := by
  intro h
  have e : bits a 1#32 ^^^ bits b 1#32 ^^^ bits c 1#32 = bits a (1#32 ^^^ bits (b - a) 1#32 ^^^ bits (c - a) 1#32) := by
    rw [bits_xor, bits_xor, ← bits_add, ← bits_add, show b - a + a = b from by omega, show c - a + a = c from by omega]
  rw [e] at h
  exact two_ne (m := b - a) (n := c - a) (by omega) (by omega) (by omega) (by omega) (by omega) (bits_eq_zero a h)
theorem three_bits {a b c : Nat} (ha : a ≤ 4032) (hb : b ≤ 4032) (hc : c ≤ 4032) : bits a 1#32 ^^^ bits b 1#32 ^^^ bits c 1#32 ≠ 0#32 := by
  by_cases hab : a = b
  · subst hab
    rw [BitVec.xor_self, BitVec.zero_xor]
    exact bits_ne_zero c
  by_cases hac : a = c
  · subst hac
    rw [show bits a 1#32 ^^^ bits b 1#32 ^^^ bits a 1#32 = bits b 1#32 ^^^ (bits a 1#32 ^^^ bits a 1#32) from by ac_rfl, BitVec.xor_self, BitVec.xor_zero]
    exact bits_ne_zero b
  by_cases hbc : b = c
  · subst hbc
    rw [BitVec.xor_assoc, BitVec.xor_self, BitVec.xor_zero]
    exact bits_ne_zero a
  -- the least one first
  by_cases h1 : a < b
  · by_cases h2 : a < c
    · exact three_low h1 h2 hb hc hbc
    · rw [show bits a 1#32 ^^^ bits b 1#32 ^^^ bits c 1#32 = bits c 1#32 ^^^ bits a 1#32 ^^^ bits b 1#32 from by ac_rfl]
      exact three_low (by omega) (by omega) ha hb hab
  · by_cases h2 : b < c
    · rw [show bits a 1#32 ^^^ bits b 1#32 ^^^ bits c 1#32 = bits b 1#32 ^^^ bits a 1#32 ^^^ bits c 1#32 from by ac_rfl]
      exact three_low (by omega) h2 ha hc hac
    · rw [show bits a 1#32 ^^^ bits b 1#32 ^^^ bits c 1#32 = bits c 1#32 ^^^ bits a 1#32 ^^^ bits b 1#32 from by ac_rfl]
      exact three_low (by omega) (by omega) ha hb hab

/-! ### Bits turned in bytes -/
/-- The one bit p of n bytes: the lowest bit of each byte first. -/
def unit (n p : Nat) : List UInt8 := (List.replicate n 0).set (p / 8) (UInt8.ofNat (2 ^ (p % 8)))
/-- The list with bit p turned. -/
def flip (l : List UInt8) (p : Nat) : List UInt8 := l.set (p / 8) (l.getD (p / 8) 0 ^^^ UInt8.ofNat (2 ^ (p % 8)))
/-- l with the pattern e turned. -/
def turn (l e : List UInt8) : List UInt8 := List.zipWith (· ^^^ ·) l e
theorem turn_len {l e : List UInt8} {n : Nat} (hl : l.length = n) (he : e.length = n) : (turn l e).length = n := by simp [turn]; omega
theorem unit_len (n p : Nat) : (unit n p).length = n := by simp [unit]
theorem run_zero (n : Nat) : run 0#32 (List.replicate n 0) = 0#32 := by
  induction n with
  | zero => rfl
  | succ n ih => rw [List.replicate_succ]; exact ih
theorem run_zeros (s : BitVec 32) (n : Nat) : run s (List.replicate n 0) = bits (8 * n) s := by
  induction n generalizing s with
  | zero => rfl
  | succ n ih =>
    rw [List.replicate_succ, show 8 * (n + 1) = 8 + 8 * n from by omega, bits_add]
    show run (byte s 0) _ = _
    rw [ih]
    unfold byte
    simp
theorem bits_up {i k : Nat} (h : i ≤ k) (hi : i < 32) : bits k (1#32 <<< i) = bits (k - i) 1#32 := by
  have step : ∀ i, i < 32 → bits i (1#32 <<< i) = 1#32 := by
    intro i
    induction i with
    | zero => intro _; rfl
    | succ i ih =>
      intro hi
      show bits i (bit (1#32 <<< (i + 1))) = 1#32
      have : bit (1#32 <<< (i + 1)) = 1#32 <<< i := by
        rw [bit_even (by simp)]
        apply BitVec.eq_of_getLsbD_eq
        intro j hj
        simp only [BitVec.getLsbD_ushiftRight, BitVec.getLsbD_shiftLeft, BitVec.getLsbD_one]
        by_cases h1 : 1 + j < 32
        · by_cases h2 : j < i
          · have h3 : 1 + j < i + 1 := by omega
            simp [h2, h3]
          · have h3 : ¬ 1 + j < i + 1 := by omega
            have h4 : 1 + j - (i + 1) = j - i := by omega
            simp [h1, h2, h3, h4, hj]
        · have h4 : j = 31 := by omega
          subst h4
          have h5 : ¬ (31 - i = 0) := by omega
          simp [h5]
      rw [this]
      exact ih (by omega)
  conv => lhs; rw [show k = i + (k - i) from by omega, bits_add, step i hi]
theorem run_unit {n p : Nat} (hp : p < 8 * n) : run 0#32 (unit n p) = bits (8 * n - p) 1#32 := by
  have hk : p / 8 < n := by omega
  have e : unit n p = List.replicate (p / 8) 0 ++ UInt8.ofNat (2 ^ (p % 8)) :: List.replicate (n - p / 8 - 1) 0 := by
    unfold unit
    rw [show n = p / 8 + ((n - p / 8 - 1) + 1) from by omega, ← List.replicate_append_replicate, List.set_append_right _ _ (by simp)]
    simp [List.replicate_succ]
  rw [e, run_append, run_zero]
  show run (byte 0#32 _) _ = _
  rw [run_zeros]
  have hb : byte 0#32 (UInt8.ofNat (2 ^ (p % 8))) = bits 8 (1#32 <<< (p % 8)) := by
    unfold byte
    rw [BitVec.zero_xor]
    congr 1
    have h8 : p % 8 < 8 := by omega
    have hlt : 2 ^ (p % 8) < 256 := Nat.lt_of_lt_of_le (Nat.pow_lt_pow_right (by decide) h8) (by decide)
    apply BitVec.eq_of_toNat_eq
    rw [UInt8.toNat_ofNat', BitVec.toNat_ofNat, BitVec.toNat_shiftLeft, Nat.shiftLeft_eq, Nat.mod_eq_of_lt (show 2 ^ (p % 8) < 2 ^ 8 from hlt)]
    simp
  rw [hb, bits_up (by omega) (by omega), ← bits_add]
  congr 1
  omega
theorem flip_turn {l : List UInt8} {n p : Nat} (hl : l.length = n) (hp : p < 8 * n) : flip l p = turn l (unit n p) := by
  have hk : p / 8 < l.length := by omega
  apply List.ext_getElem?
  intro i
  unfold flip turn unit
  by_cases hi : i < n
  · have hil : i < l.length := by omega
    by_cases hpi : p / 8 = i
    · subst hpi
      simp [hl, List.getD, hi]
    · simp [List.getElem?_zipWith, hpi, hil, hi]
  · rw [List.getElem?_eq_none (by simp; omega), List.getElem?_eq_none (by simp; omega)]
theorem turn_turn {l e f : List UInt8} : turn (turn l e) f = turn l (turn e f) := by
  unfold turn
  induction l generalizing e f with
  | nil => simp
  | cons a l ih =>
    cases e with
    | nil => simp
    | cons b e =>
      cases f with
      | nil => simp
      | cons c f => simp [ih, UInt8.xor_assoc]
theorem turn_zero {l : List UInt8} {n : Nat} (hl : l.length = n) : turn l (List.replicate n 0) = l := by
  subst hl
  induction l with
  | nil => rfl
  | cons b l ih => simp [turn, List.replicate_succ] at ih ⊢; exact ih
theorem run_turn {e f : List UInt8} (h : e.length = f.length) : run 0#32 (turn e f) = run 0#32 e ^^^ run 0#32 f := by
  have := run_xor e f 0#32 0#32 h
  simpa [turn] using this
theorem turn_same {l e : List UInt8} (h : l.length = e.length) (he : turn l e = l) : run 0#32 e = 0#32 := by
  have h1 : e = List.replicate e.length 0 := by
    induction l generalizing e with
    | nil => cases e with
      | nil => rfl
      | cons b e => simp at h
    | cons a l ih =>
      cases e with
      | nil => simp at h
      | cons b e =>
        simp [turn] at he h
        have hb : b = 0 := by
          have := congrArg (a ^^^ ·) he.1
          simpa [← UInt8.xor_assoc] using this
        subst hb
        have := ih h he.2
        rw [List.length_cons, List.replicate_succ]
        congr 1
  rw [h1]
  exact run_zero _

/-- Four bytes are some number's. -/
theorem four_onto (a b c d : UInt8) : ∃ v : BitVec 32, four v = [a, b, c, d] := by
  have ha := a.toNat_lt
  have hb := b.toNat_lt
  have hc := c.toNat_lt
  have hd := d.toNat_lt
  refine ⟨BitVec.ofNat 32 (a.toNat + 256 * b.toNat + 65536 * c.toNat + 16777216 * d.toNat), ?_⟩
  unfold four
  rw [BitVec.toNat_ofNat, Nat.mod_eq_of_lt (by omega)]
  have e1 : UInt8.ofNat (a.toNat + 256 * b.toNat + 65536 * c.toNat + 16777216 * d.toNat) = a := by
    apply UInt8.toNat_inj.1; rw [UInt8.toNat_ofNat']; omega
  have e2 : UInt8.ofNat ((a.toNat + 256 * b.toNat + 65536 * c.toNat + 16777216 * d.toNat) / 256) = b := by
    apply UInt8.toNat_inj.1; rw [UInt8.toNat_ofNat']; omega
  have e3 : UInt8.ofNat ((a.toNat + 256 * b.toNat + 65536 * c.toNat + 16777216 * d.toNat) / 65536) = c := by
    apply UInt8.toNat_inj.1; rw [UInt8.toNat_ofNat']; omega
  have e4 : UInt8.ofNat ((a.toNat + 256 * b.toNat + 65536 * c.toNat + 16777216 * d.toNat) / 16777216) = d := by
    apply UInt8.toNat_inj.1; rw [UInt8.toNat_ofNat']; omega
  rw [e1, e2, e3, e4]

/-- WHEN A PATTERN IS NOT SEEN: just where the sum's remainder of it is nothing. -/
theorem seen_iff (b : List UInt8) (seed : BitVec 32) (e : List UInt8) (he : e.length = b.length + 4) :
    (turn (b ++ tail b seed) e).drop b.length = tail ((turn (b ++ tail b seed) e).take b.length) seed ↔ run 0#32 e = 0#32 := by
  obtain ⟨e1, e2, rfl, h1⟩ : ∃ e1 e2, e = e1 ++ e2 ∧ e1.length = b.length := ⟨e.take b.length, e.drop b.length, (List.take_append_drop _ _).symm, by simp; omega⟩
  have h2 : e2.length = 4 := by simp at he; omega
  have ht : (tail b seed).length = 4 := rfl
  have hz : turn (b ++ tail b seed) (e1 ++ e2) = turn b e1 ++ turn (tail b seed) e2 := by
    unfold turn
    rw [List.zipWith_append h1.symm]
  have hl1 : (turn b e1).length = b.length := turn_len rfl h1
  rw [hz, List.drop_left' hl1, List.take_left' hl1]
  -- the sum of the turned text
  have hs : sum (four seed ++ turn b e1) = sum (four seed ++ b) ^^^ run 0#32 e1 := by
    unfold sum more
    rw [run_append, run_append]
    have := run_xor b e1 (run (~~~ 0#32) (four seed)) 0#32 h1.symm
    rw [BitVec.xor_zero] at this
    rw [show turn b e1 = List.zipWith (· ^^^ ·) b e1 from rfl, this]
    apply BitVec.eq_of_getLsbD_eq
    intro i hi
    simp only [BitVec.getLsbD_not, BitVec.getLsbD_xor, hi, decide_true, Bool.true_and]
    cases (run (run (~~~ 0#32) (four seed)) b).getLsbD i <;> cases (run 0#32 e1).getLsbD i <;> rfl
  obtain ⟨v, hv⟩ : ∃ v, four v = e2 := by
    match e2, h2 with
    | [x, y, z, t], _ => exact four_onto x y z t
  have hx : ∀ s t : BitVec 32, turn (four s) (four t) = four (s ^^^ t) := by
    intro s t
    unfold turn four
    simp only [List.zipWith_cons_cons, List.zipWith_nil_right, BitVec.toNat_xor]
    have key : ∀ k, UInt8.ofNat (s.toNat / 2 ^ k) ^^^ UInt8.ofNat (t.toNat / 2 ^ k) = UInt8.ofNat ((s.toNat ^^^ t.toNat) / 2 ^ k) := by
      intro k
      apply UInt8.toNat_inj.1
      rw [UInt8.toNat_xor, UInt8.toNat_ofNat', UInt8.toNat_ofNat', UInt8.toNat_ofNat', ← Nat.xor_mod_two_pow, Nat.xor_div_two_pow]
    have k0 := key 0
    have k1 := key 8
    have k2 := key 16
    have k3 := key 24
    simp only [Nat.pow_zero, Nat.div_one] at k0
    rw [k0, show (256 : Nat) = 2 ^ 8 from rfl, show (65536 : Nat) = 2 ^ 16 from rfl, show (16777216 : Nat) = 2 ^ 24 from rfl, k1, k2, k3]
  have hrun : run 0#32 (e1 ++ e2) = bits 32 (run 0#32 e1 ^^^ v) := by rw [run_append, ← hv, run_four]
  rw [hrun]
  unfold tail
  rw [hs, ← hv, hx]
  constructor
  · intro h
    have := four_inj h
    have hvv : v = run 0#32 e1 := by
      have := congrArg (sum (four seed ++ b) ^^^ ·) this
      simpa [← BitVec.xor_assoc] using this
    rw [hvv, BitVec.xor_self, bits_zero]
  · intro h
    have := xor_eq_zero.1 (bits_eq_zero 32 h)
    rw [this]

theorem tail_len (b : List UInt8) (s : BitVec 32) : (tail b s).length = 4 := rfl
/-- What is sealed, with bits turned, is not a seal where the pattern's remainder is something. -/
theorem flip_seen {l e : List UInt8} {n p : Nat} (hl : l.length = n) (he : e.length = n) (hp : p < 8 * n) : flip (turn l e) p = turn l (turn e (unit n p)) ∧ (turn e (unit n p)).length = n ∧ run 0#32 (turn e (unit n p)) = run 0#32 e ^^^ bits (8 * n - p) 1#32 := by
  refine ⟨?_, turn_len he (unit_len n p), ?_⟩
  · rw [flip_turn (turn_len hl he) hp, turn_turn]
  · rw [run_turn (by rw [he, unit_len]), run_unit hp]
def threeSyn (n p q r : Nat) : Nat → BitVec 32
  | 0 => 0#32
  | 1 => bits (8 * n - p) 1#32
  | 2 => bits (8 * n - p) 1#32 ^^^ bits (8 * n - q) 1#32
  | _ => bits (8 * n - p) 1#32 ^^^ bits (8 * n - q) 1#32 ^^^ bits (8 * n - r) 1#32
theorem threeSyn_ne {n p q r : Nat} (hn : n ≤ 504) : threeSyn n p q r 3 ≠ 0#32 := three_bits (by omega) (by omega) (by omega)

/-! ### A burst -/
/-- The burst's bits below j, from bit 'from' of n bytes on. -/
def burstSyn (n at_ : Nat) (burst : BitVec 32) : Nat → BitVec 32
  | 0 => 0#32
  | j + 1 => if burst.getLsbD j then burstSyn n at_ burst j ^^^ bits (8 * n - (at_ + j)) 1#32 else burstSyn n at_ burst j
def lowBits (burst : BitVec 32) : Nat → BitVec 32
  | 0 => 0#32
  | j + 1 => if burst.getLsbD j then lowBits burst j ^^^ 1#32 <<< j else lowBits burst j
theorem lowBits_get (burst : BitVec 32) (j i : Nat) (hj : j ≤ 32) (hi : i < 32) : (lowBits burst j).getLsbD i = (decide (i < j) && burst.getLsbD i) := by
  induction j with
  | zero => simp [lowBits]
  | succ j ih =>
    have ih := ih (by omega)
    unfold lowBits
    by_cases hb : burst.getLsbD j = true
    · rw [if_pos hb, BitVec.getLsbD_xor, ih]
      by_cases h : i = j
      · subst h
        rw [one_bit (by omega), hb]; simp
      · rw [other_bit (Ne.symm h)]
        by_cases h2 : i < j
        · simp [h2, show i < j + 1 by omega]
        · simp [h2, show ¬ i < j + 1 by omega]
    · rw [if_neg hb, ih]
      by_cases h : i = j
      · subst h
        simp at hb; simp [hb]
      · by_cases h2 : i < j
        · simp [h2, show i < j + 1 by omega]
        · simp [h2, show ¬ i < j + 1 by omega]
theorem lowBits_all (burst : BitVec 32) : lowBits burst 32 = burst := by
  apply BitVec.eq_of_getLsbD_eq
  intro i hi
  rw [lowBits_get burst 32 i (by omega) hi]
  simp [hi]
theorem burstSyn_eq (n at_ : Nat) (burst : BitVec 32) (h : at_ + 32 ≤ 8 * n) (j : Nat) (hj : j ≤ 32) : burstSyn n at_ burst j = bits (8 * n - at_) (lowBits burst j) := by
  induction j with
  | zero => simp [burstSyn, lowBits, bits_zero]
  | succ j ih =>
    have ih := ih (by omega)
    unfold burstSyn lowBits
    split
    · rw [ih, bits_xor, bits_up (i := j) (by omega) (by omega)]
      congr 2
      omega
    · exact ih
theorem burst_zero (n at_ : Nat) (burst : BitVec 32) (h : at_ + 32 ≤ 8 * n) : burstSyn n at_ burst 32 = 0#32 ↔ burst = 0#32 := by
  rw [burstSyn_eq n at_ burst h 32 (by omega), lowBits_all]
  exact ⟨bits_eq_zero _, fun h => by rw [h, bits_zero]⟩
end Go.Proofs.YtklijhfieopakaaDoor.Crc
