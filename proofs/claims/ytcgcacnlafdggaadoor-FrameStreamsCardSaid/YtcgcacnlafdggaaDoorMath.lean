/- Plain mathematics of the sum of chapter 1: what one bit, four bits, a byte do to it; that it is linear and that nothing is lost. It names no program. -/
namespace Go.Proofs.YtcgcacnlafdggaaDoor.Crc

/-- One bit. -/
def bit (s : BitVec 32) : BitVec 32 := (s >>> 1) ^^^ (if s.getLsbD 0 then 0xEDB88320#32 else 0#32)
def bits : Nat → BitVec 32 → BitVec 32
  | 0, s => s
  | n + 1, s => bits n (bit s)

theorem bit_xor (a b : BitVec 32) : bit (a ^^^ b) = bit a ^^^ bit b := by
  unfold bit
  rw [BitVec.ushiftRight_xor_distrib, BitVec.getLsbD_xor]
  have k : ∀ x y p : BitVec 32, x ^^^ y ^^^ 0#32 = x ^^^ p ^^^ (y ^^^ p) := by
    intro x y p
    have e : x ^^^ p ^^^ (y ^^^ p) = x ^^^ y ^^^ (p ^^^ p) := by ac_rfl
    rw [e, BitVec.xor_self]
  have k1 : ∀ x y p : BitVec 32, x ^^^ y ^^^ p = x ^^^ p ^^^ (y ^^^ 0#32) := by
    intro x y p
    rw [BitVec.xor_zero]; ac_rfl
  have k2 : ∀ x y p : BitVec 32, x ^^^ y ^^^ p = x ^^^ 0#32 ^^^ (y ^^^ p) := by
    intro x y p
    rw [BitVec.xor_zero]; ac_rfl
  cases a.getLsbD 0 <;> cases b.getLsbD 0
  · exact k _ _ _
  · exact k2 _ _ _
  · exact k1 _ _ _
  · exact k _ _ _
theorem bit_zero : bit 0#32 = 0#32 := by decide
theorem bits_xor (n : Nat) (a b : BitVec 32) : bits n (a ^^^ b) = bits n a ^^^ bits n b := by
  induction n generalizing a b with
  | zero => rfl
  | succ n ih => simp only [bits, bit_xor, ih]
theorem bits_zero (n : Nat) : bits n 0#32 = 0#32 := by
  induction n with
  | zero => rfl
  | succ n ih => simp only [bits, bit_zero, ih]
theorem bits_add (m n : Nat) (a : BitVec 32) : bits (m + n) a = bits n (bits m a) := by
  induction m generalizing a with
  | zero => simp [bits]
  | succ m ih => rw [Nat.succ_add]; simp only [bits, ih]
/-- Nothing is lost. -/
theorem bit_eq_zero {a : BitVec 32} (h : bit a = 0#32) : a = 0#32 := by
  have hb : a.getLsbD 0 = false := by
    have h31 := congrArg (fun x : BitVec 32 => x.getLsbD 31) h
    simp only [bit, BitVec.getLsbD_xor, BitVec.getLsbD_ushiftRight] at h31
    cases hc : a.getLsbD 0 with
    | false => rfl
    | true =>
      rw [hc, if_pos rfl, show a.getLsbD (1 + 31) = false from BitVec.getLsbD_of_ge _ _ (by decide)] at h31
      exact absurd h31 (by decide)
  have h' : a >>> 1 = 0#32 := by
    unfold bit at h
    rw [hb] at h
    simpa only [Bool.false_eq_true, if_false, BitVec.xor_zero] using h
  apply BitVec.eq_of_getLsbD_eq
  intro i hi
  cases i with
  | zero => simpa using hb
  | succ i =>
    have := congrArg (fun x : BitVec 32 => x.getLsbD i) h'
    simp only [BitVec.getLsbD_ushiftRight] at this
    rw [Nat.add_comm] at this
    simpa using this
theorem bits_eq_zero (n : Nat) {a : BitVec 32} (h : bits n a = 0#32) : a = 0#32 := by
  induction n generalizing a with
  | zero => exact h
  | succ n ih => exact bit_eq_zero (ih h)
theorem xor_eq_zero {a b : BitVec 32} : a ^^^ b = 0#32 ↔ a = b := by
  constructor
  · intro h
    have := congrArg (· ^^^ b) h
    simpa [BitVec.xor_assoc] using this
  · rintro rfl; simp
theorem bits_inj (n : Nat) {a b : BitVec 32} (h : bits n a = bits n b) : a = b := by
  apply xor_eq_zero.1
  apply bits_eq_zero n
  rw [bits_xor, h]; simp

/-- A low bit that is zero falls out. -/
theorem bit_even {a : BitVec 32} (h : a.getLsbD 0 = false) : bit a = a >>> 1 := by
  unfold bit
  rw [h]
  simp only [Bool.false_eq_true, if_false, BitVec.xor_zero]

def tab (i : Nat) : BitVec 32 := bits 4 (BitVec.ofNat 32 i)

/-- Half a byte at a time. -/
theorem bits_four (s : BitVec 32) : bits 4 s = tab (s.toNat % 16) ^^^ (s >>> 4) := by
  have e : s = (BitVec.ofNat 32 (s.toNat % 16)) ^^^ ((s >>> 4) <<< 4) := by
    apply BitVec.eq_of_getLsbD_eq
    intro i hi
    have hm : s.toNat % 16 = s.toNat % 2 ^ 4 := rfl
    simp only [BitVec.getLsbD_xor, BitVec.getLsbD_shiftLeft, BitVec.getLsbD_ushiftRight, BitVec.getLsbD_ofNat, hi, decide_true, Bool.true_and, hm, Nat.testBit_mod_two_pow]
    by_cases h4 : i < 4
    · simp [h4, BitVec.getLsbD]
    · have : 4 + (i - 4) = i := by omega
      simp [h4, this]
  have sh : bits 4 ((s >>> 4) <<< 4) = s >>> 4 := by
    simp only [bits]
    rw [bit_even (a := (s >>> 4) <<< 4) (by simp only [BitVec.getLsbD_shiftLeft]; simp), bit_even (a := ((s >>> 4) <<< 4) >>> 1) (by simp only [BitVec.getLsbD_shiftLeft, BitVec.getLsbD_ushiftRight]; simp),
      bit_even (a := ((s >>> 4) <<< 4) >>> 1 >>> 1) (by simp only [BitVec.getLsbD_shiftLeft, BitVec.getLsbD_ushiftRight]; simp), bit_even (by simp only [BitVec.getLsbD_shiftLeft, BitVec.getLsbD_ushiftRight]; simp)]
    apply BitVec.eq_of_getLsbD_eq
    intro i hi
    simp only [BitVec.getLsbD_shiftLeft, BitVec.getLsbD_ushiftRight]
    by_cases h : i < 28
    · have e1 : 1 + (1 + (1 + (1 + i))) < 32 := by omega
      have e2 : 4 + (1 + (1 + (1 + (1 + i))) - 4) = 4 + i := by omega
      simp [e1, e2]; omega
    · have : s.getLsbD (4 + i) = false := by apply BitVec.getLsbD_of_ge; omega
      rw [this]; simp; omega
  conv => lhs; rw [e]
  rw [bits_xor, sh]; rfl

/-- A byte. -/
def byte (s : BitVec 32) (b : UInt8) : BitVec 32 := bits 8 (s ^^^ BitVec.ofNat 32 b.toNat)
def run (s : BitVec 32) (l : List UInt8) : BitVec 32 := l.foldl byte s
/-- The sum of a text whose sum is s, with l behind. -/
def more (s : BitVec 32) (l : List UInt8) : BitVec 32 := ~~~ run (~~~ s) l
def sum (l : List UInt8) : BitVec 32 := more 0#32 l

theorem run_append (s : BitVec 32) (l m : List UInt8) : run s (l ++ m) = run (run s l) m := by simp [run]
theorem more_append (s : BitVec 32) (l m : List UInt8) : more s (l ++ m) = more (more s l) m := by simp [more, run_append]
theorem sum_append (l m : List UInt8) : sum (l ++ m) = more (sum l) m := more_append _ _ _

theorem ofNat_xor (a b : UInt8) : BitVec.ofNat 32 (a ^^^ b).toNat = BitVec.ofNat 32 a.toNat ^^^ BitVec.ofNat 32 b.toNat := by
  apply BitVec.eq_of_toNat_eq
  have ha := a.toNat_lt
  have hb := b.toNat_lt
  have := UInt8.toNat_lt (a ^^^ b)
  simp only [BitVec.toNat_ofNat, BitVec.toNat_xor]
  rw [Nat.mod_eq_of_lt (by omega), Nat.mod_eq_of_lt (by omega), Nat.mod_eq_of_lt (by omega), UInt8.toNat_xor]

theorem byte_xor (s t : BitVec 32) (a b : UInt8) : byte (s ^^^ t) (a ^^^ b) = byte s a ^^^ byte t b := by
  unfold byte
  rw [ofNat_xor, ← bits_xor]
  congr 1
  ac_rfl

/-- Linear, in the beginning and in the bytes together. -/
theorem run_xor : ∀ (l m : List UInt8) (s t : BitVec 32), l.length = m.length → run (s ^^^ t) (List.zipWith (· ^^^ ·) l m) = run s l ^^^ run t m
  | [], [], s, t, _ => rfl
  | a :: l, b :: m, s, t, h => by
    have := run_xor l m (byte s a) (byte t b) (by simpa using h)
    simpa [run, byte_xor] using this

/-- A number's four bytes, the lowest first. -/
def four (n : BitVec 32) : List UInt8 := [UInt8.ofNat n.toNat, UInt8.ofNat (n.toNat / 256), UInt8.ofNat (n.toNat / 65536), UInt8.ofNat (n.toNat / 16777216)]
theorem four_len (n : BitVec 32) : (four n).length = 4 := rfl
/-- What Seal puts behind. -/
def tail (b : List UInt8) (seed : BitVec 32) : List UInt8 := four (sum (four seed ++ b))

/-! ### What is lost: nothing -/
theorem byte_inj (b : UInt8) {s t : BitVec 32} (h : byte s b = byte t b) : s = t := by
  have := bits_inj 8 h
  have := congrArg (· ^^^ BitVec.ofNat 32 b.toNat) this
  simpa [BitVec.xor_assoc] using this
theorem run_inj : ∀ (l : List UInt8) {s t : BitVec 32}, run s l = run t l → s = t
  | [], _, _, h => h
  | b :: l, _, _, h => byte_inj b (run_inj l h)
theorem not_inj {a b : BitVec 32} (h : ~~~ a = ~~~ b) : a = b := by
  have := congrArg (~~~ ·) h
  simpa using this
theorem more_inj (l : List UInt8) {s t : BitVec 32} (h : more s l = more t l) : s = t := not_inj (run_inj l (not_inj h))

/-- Four bytes that are a number's own take it in whole. -/
theorem shift8 (n : BitVec 32) : n = BitVec.ofNat 32 (UInt8.ofNat n.toNat).toNat ^^^ ((n >>> 8) <<< 8) := by
  apply BitVec.eq_of_getLsbD_eq
  intro i hi
  simp only [UInt8.toNat_ofNat', BitVec.getLsbD_xor, BitVec.getLsbD_shiftLeft, BitVec.getLsbD_ushiftRight, BitVec.getLsbD_ofNat, hi, decide_true, Bool.true_and, Nat.testBit_mod_two_pow]
  by_cases h : i < 8
  · simp [h, BitVec.getLsbD]
  · have : 8 + (i - 8) = i := by omega
    simp [h, this]
theorem bits8_shift (x : BitVec 32) (h : x.toNat < 16777216) : bits 8 (x <<< 8) = x := by
  have hb : ∀ i, 24 ≤ i → x.getLsbD i = false := by
    intro i hi
    apply Nat.testBit_lt_two_pow
    exact Nat.lt_of_lt_of_le h (Nat.le_trans (show 16777216 ≤ 2 ^ 24 by decide) (Nat.pow_le_pow_right (by decide) hi))
  have step : ∀ k, k < 8 → bit (x <<< (k + 1)) = x <<< k := by
    intro k hk
    rw [bit_even (by simp)]
    apply BitVec.eq_of_getLsbD_eq
    intro i hi
    simp only [BitVec.getLsbD_ushiftRight, BitVec.getLsbD_shiftLeft]
    by_cases h31 : i = 31
    · subst h31
      rw [hb (31 - k) (by omega)]
      simp
    · have e1 : 1 + i < 32 := by omega
      have e2 : 1 + i - (k + 1) = i - k := by omega
      have e3 : (1 + i < k + 1) = (i < k) := by rw [eq_iff_iff]; omega
      simp only [e1, e2, e3, hi]
  simp only [bits]
  rw [step 7 (by decide), step 6 (by decide), step 5 (by decide), step 4 (by decide), step 3 (by decide), step 2 (by decide), step 1 (by decide), step 0 (by decide)]
  simp
theorem byte_low (s n : BitVec 32) : byte s (UInt8.ofNat n.toNat) = bits 8 (s ^^^ n) ^^^ (n >>> 8) := by
  have h8 : bits 8 ((n >>> 8) <<< 8) = n >>> 8 := bits8_shift _ (by rw [BitVec.toNat_ushiftRight, Nat.shiftRight_eq_div_pow]; have := n.isLt; omega)
  have e : bits 8 (s ^^^ n) = byte s (UInt8.ofNat n.toNat) ^^^ (n >>> 8) := by
    conv => lhs; rw [shift8 n]
    unfold byte
    rw [← BitVec.xor_assoc, bits_xor, h8]
  rw [e, BitVec.xor_assoc, BitVec.xor_self, BitVec.xor_zero]
theorem run_four (s n : BitVec 32) : run s (four n) = bits 32 (s ^^^ n) := by
  have h1 : n.toNat / 256 = (n >>> 8).toNat := by rw [BitVec.toNat_ushiftRight, Nat.shiftRight_eq_div_pow]
  have h2 : n.toNat / 65536 = (n >>> 8 >>> 8).toNat := by rw [BitVec.toNat_ushiftRight, BitVec.toNat_ushiftRight, Nat.shiftRight_eq_div_pow, Nat.shiftRight_eq_div_pow, Nat.div_div_eq_div_mul]
  have h3 : n.toNat / 16777216 = (n >>> 8 >>> 8 >>> 8).toNat := by rw [BitVec.toNat_ushiftRight, BitVec.toNat_ushiftRight, BitVec.toNat_ushiftRight, Nat.shiftRight_eq_div_pow, Nat.shiftRight_eq_div_pow, Nat.shiftRight_eq_div_pow, Nat.div_div_eq_div_mul, Nat.div_div_eq_div_mul]
  have h4 : n >>> 8 >>> 8 >>> 8 >>> 8 = 0#32 := by
    apply BitVec.eq_of_toNat_eq
    simp only [BitVec.toNat_ushiftRight, Nat.shiftRight_eq_div_pow, Nat.div_div_eq_div_mul]
    have := n.isLt
    simp; omega
  have k : ∀ a m : BitVec 32, byte (a ^^^ m) (UInt8.ofNat m.toNat) = bits 8 a ^^^ (m >>> 8) := by
    intro a m
    rw [byte_low, BitVec.xor_assoc, BitVec.xor_self, BitVec.xor_zero]
  have e0 : s = (s ^^^ n) ^^^ n := by rw [BitVec.xor_assoc, BitVec.xor_self, BitVec.xor_zero]
  unfold four run
  simp only [List.foldl_cons, List.foldl_nil]
  rw [h1, h2, h3]
  conv => lhs; rw [e0]
  rw [k, k, k, k, h4, BitVec.xor_zero]
  show _ = bits (8 + 8 + 8 + 8) (s ^^^ n)
  rw [bits_add, bits_add, bits_add]
theorem run_four_self (s : BitVec 32) : run s (four s) = 0#32 := by rw [run_four, BitVec.xor_self, bits_zero]
theorem four_inj {a b : BitVec 32} (h : four a = four b) : a = b := by
  have h1 := run_four_self a
  rw [h, run_four] at h1
  exact xor_eq_zero.1 (bits_eq_zero 32 h1)
theorem tail_inj {b : List UInt8} {s t : BitVec 32} (h : tail b s = tail b t) : s = t := by
  have h1 := four_inj h
  rw [sum_append, sum_append] at h1
  have h2 := more_inj b h1
  unfold sum more at h2
  have h3 := not_inj h2
  rw [run_four, run_four] at h3
  have h4 := bits_inj 32 h3
  have := congrArg (~~~ (0#32) ^^^ ·) h4
  simpa [← BitVec.xor_assoc] using this

theorem sum_xor (l m : List UInt8) (n : Nat) (hl : l.length = n) (hm : m.length = n) : sum (List.zipWith (· ^^^ ·) l m) = sum l ^^^ sum m ^^^ sum (List.replicate n 0) := by
  have hz : ∀ l : List UInt8, List.zipWith (· ^^^ ·) l (List.replicate l.length 0) = l := by
    intro l
    induction l with
    | nil => rfl
    | cons b l ih => simp [List.replicate_succ, ih]
  have h1 := run_xor l m (~~~ 0#32) (~~~ 0#32) (by omega)
  have h2 := run_xor (List.zipWith (· ^^^ ·) l m) (List.replicate n 0) (~~~ 0#32 ^^^ ~~~ 0#32) (~~~ 0#32) (by simp; omega)
  have hzl : (List.zipWith (· ^^^ ·) l m).length = n := by simp; omega
  have hzz := hz (List.zipWith (· ^^^ ·) l m)
  rw [hzl] at hzz
  rw [hzz, h1] at h2
  unfold sum more
  have e : ~~~ (0#32) ^^^ ~~~ (0#32) ^^^ ~~~ (0#32) = ~~~ (0#32) := by decide
  rw [e] at h2
  rw [h2]
  have key : ∀ x y z : BitVec 32, ~~~ (x ^^^ y ^^^ z) = ~~~ x ^^^ ~~~ y ^^^ ~~~ z := by
    intro x y z
    apply BitVec.eq_of_getLsbD_eq
    intro i hi
    simp only [BitVec.getLsbD_not, BitVec.getLsbD_xor, hi, decide_true, Bool.true_and]
    cases x.getLsbD i <;> cases y.getLsbD i <;> cases z.getLsbD i <;> rfl
  rw [key]

/-! ### One to three bits of a word -/
theorem one_bit {a : Nat} (h : a < 32) : (1#32 <<< a).getLsbD a = true := by simp [h]
theorem other_bit {a b : Nat} (h : a ≠ b) : (1#32 <<< a).getLsbD b = false := by
  simp only [BitVec.getLsbD_shiftLeft, BitVec.getLsbD_one]
  by_cases h1 : b < a
  · simp [h1]
  · have : ¬ (b - a = 0) := by omega
    simp [this]
theorem three_ne {a b c : Nat} (ha : a < 32) (hb : b < 32) (hc : c < 32) : 1#32 <<< a ^^^ 1#32 <<< b ^^^ 1#32 <<< c ≠ 0#32 := by
  intro h
  have g : ∀ i, ((1#32 <<< a).getLsbD i ^^ (1#32 <<< b).getLsbD i ^^ (1#32 <<< c).getLsbD i) = false := by
    intro i
    have := congrArg (fun x : BitVec 32 => x.getLsbD i) h
    simpa only [BitVec.getLsbD_xor, BitVec.getLsbD_zero] using this
  by_cases hab : a = b
  · subst hab
    have := g c
    rw [one_bit hc] at this
    simp at this
  · by_cases hac : a = c
    · subst hac
      have := g b
      rw [one_bit hb, other_bit hab] at this
      simp at this
    · have := g a
      rw [one_bit ha, other_bit (Ne.symm hab), other_bit (Ne.symm hac)] at this
      simp at this

end Go.Proofs.YtcgcacnlafdggaaDoor.Crc
