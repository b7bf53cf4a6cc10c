/- Plain mathematics of frames: what bytes begin with, what a frame is, what a stream finds. It names no program. -/
import Derived.Test.YtcgcacnlafdggaaDoorMath
namespace Go.Proofs.YtcgcacnlafdggaaDoor.Fr

def marks : List UInt8 := [76, 104, 1]
/-- Of the first three bytes one that is there is another one. -/
def wrong (l : List UInt8) : Bool := l.take 3 != marks.take l.length
/-- The length that the head tells. -/
def blen (l : List UInt8) : Nat := (l.getD 4 0).toNat + 256 * (l.getD 5 0).toNat
/-- What is amiss, but for the sum. -/
def scode (l : List UInt8) : Int :=
  if wrong l = true then 102 else if l.length < 6 then 101 else if 4000 < blen l then 102 else if l.length < blen l + 10 then 101 else 0
def fits (l : List UInt8) : Bool := (l.drop (blen l + 6)).take 4 == Crc.four (Crc.sum (l.take (blen l + 6)))
/-- What is amiss; 0: nothing. -/
def code (l : List UInt8) : Int := if scode l = 0 then (if fits l = true then 0 else 103) else scode l
def kind (l : List UInt8) : UInt8 := l.getD 3 0
def body (l : List UInt8) : List UInt8 := (l.drop 6).take (blen l)

theorem scode_cases (l : List UInt8) : scode l = 0 ∨ scode l = 101 ∨ scode l = 102 := by
  unfold scode
  split
  · exact .inr (.inr rfl)
  · split
    · exact .inr (.inl rfl)
    · split
      · exact .inr (.inr rfl)
      · split
        · exact .inr (.inl rfl)
        · exact .inl rfl
theorem scode_zero {l : List UInt8} (h : scode l = 0) : wrong l = false ∧ blen l ≤ 4000 ∧ blen l + 10 ≤ l.length := by
  unfold scode at h
  split at h
  · cases h
  · rename_i h1
    split at h
    · cases h
    · split at h
      · cases h
      · split at h
        · cases h
        · exact ⟨by simpa using h1, by omega, by omega⟩
theorem code_cases (l : List UInt8) : code l = 0 ∨ code l = 101 ∨ code l = 102 ∨ code l = 103 := by
  unfold code
  rcases scode_cases l with h | h | h
  · rw [h]
    by_cases hf : fits l = true
    · simp [hf]
    · simp [hf]
  · rw [h]; simp
  · rw [h]; simp
theorem code_zero {l : List UInt8} (h : code l = 0) : scode l = 0 ∧ fits l = true := by
  unfold code at h
  split at h
  · rename_i h0
    split at h
    · rename_i h1
      exact ⟨h0, h1⟩
    · cases h
  · rename_i h0
    exact absurd h h0
/-- What is answered: the kind, the body, how many bytes the frame has. -/
def said (l : List UInt8) : UInt8 × List UInt8 × Nat := if code l = 0 then (kind l, body l, blen l + 10) else (0, [], 0)
theorem said_not {l : List UInt8} (h : code l ≠ 0) : said l = (0, [], 0) := if_neg h
theorem said_yes {l : List UInt8} (h : code l = 0) : said l = (kind l, body l, blen l + 10) := if_pos h
theorem code_amiss {l : List UInt8} (h : scode l ≠ 0) : code l = scode l := if_neg h
theorem code_sum {l : List UInt8} (h : scode l = 0) (hf : fits l = false) : code l = 103 := by unfold code; rw [if_pos h, hf]; rfl
theorem code_fine {l : List UInt8} (h : scode l = 0) (hf : fits l = true) : code l = 0 := by unfold code; rw [if_pos h, if_pos hf]
theorem body_len {l : List UInt8} (h : scode l = 0) : (body l).length = blen l := by
  have := (scode_zero h).2.2
  simp [body]; omega
theorem code_nil : code [] = 101 := by decide

/-- The first frame that a stream finds, and what then waits. -/
def next : List UInt8 → Option (UInt8 × List UInt8) × List UInt8
  | [] => (none, [])
  | x :: t => if code (x :: t) = 0 then (some (kind (x :: t), body (x :: t)), (x :: t).drop (blen (x :: t) + 10))
      else if code (x :: t) = 101 then (none, x :: t) else next t
theorem next_found {l : List UInt8} (h : code l = 0) : next l = (some (kind l, body l), l.drop (blen l + 10)) := by
  cases l with
  | nil => rw [code_nil] at h; cases h
  | cons x t => rw [next, if_pos h]
theorem next_waits {l : List UInt8} (h : code l = 101) : next l = (none, l) := by
  cases l with
  | nil => rfl
  | cons x t => rw [next, if_neg (by rw [h]; decide), if_pos h]
theorem next_skips {l : List UInt8} (h0 : code l ≠ 0) (h1 : code l ≠ 101) : next l = next (l.drop 1) ∧ 0 < l.length := by
  cases l with
  | nil => exact absurd code_nil h1
  | cons x t => exact ⟨by rw [next, if_neg h0, if_neg h1]; rfl, by simp⟩

/-- What a stream answers. -/
def got (l : List UInt8) : UInt8 × List UInt8 × Bool := match (next l).1 with | some (k, b) => (k, b, true) | none => (0, [], false)
theorem got_found {l : List UInt8} (h : code l = 0) : got l = (kind l, body l, true) := by unfold got; rw [next_found h]
theorem got_waits {l : List UInt8} (h : code l = 101) : got l = (0, [], false) := by unfold got; rw [next_waits h]
theorem got_next {l m : List UInt8} (h : next l = next m) : got l = got m := by unfold got; rw [h]

theorem got_some {l : List UInt8} {k : UInt8} {b : List UInt8} (h : (next l).1 = some (k, b)) : got l = (k, b, true) := by unfold got; rw [h]
theorem got_none {l : List UInt8} (h : (next l).1 = none) : got l = (0, [], false) := by unfold got; rw [h]

/-- A frame. -/
def head (k : UInt8) (n : Nat) : List UInt8 := [76, 104, 1, k, UInt8.ofNat n, UInt8.ofNat (n / 256)]
def put (k : UInt8) (b : List UInt8) : List UInt8 := head k b.length ++ b ++ Crc.four (Crc.sum (head k b.length ++ b))
theorem put_len (k : UInt8) (b : List UInt8) : (put k b).length = b.length + 10 := by
  simp [put, head, Crc.four_len]
end Go.Proofs.YtcgcacnlafdggaaDoor.Fr
