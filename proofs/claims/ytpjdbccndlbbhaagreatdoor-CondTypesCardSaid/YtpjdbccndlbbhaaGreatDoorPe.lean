/- Mathematics of package cond: what the conditions of the walks come to. -/
import Derived.Test.YtpjdbccndlbbhaaGreatDoorEa
import Derived.Test.YtpjdbccndlbbhaaGreatDoorPt
namespace Go.Proofs.YtpjdbccndlbbhaaGreatDoor
open Go.RowKit

namespace Co
theorem hold_flag (b : Bool) : hold (0, flag b) = (0, b) := by cases b <;> rfl
theorem cmp_spec : ∀ a b : List UInt8, Lib.compareBytes a b = if Op.bytesLess a b = true then -1 else if a = b then 0 else 1
  | [], [] => by simp [Lib.compareBytes, Op.bytesLess]
  | [], b :: y => by simp [Lib.compareBytes, Op.bytesLess]
  | a :: x, [] => by simp [Lib.compareBytes, Op.bytesLess]
  | a :: x, b :: y => by
    have ih := cmp_spec x y
    unfold Lib.compareBytes Op.bytesLess
    by_cases h : a < b
    · simp [h]
    · by_cases h2 : b < a
      · have hne : a ≠ b := by rintro rfl; exact h h2
        simp [h, h2, hne]
      · have he : a = b := by
          rw [UInt8.lt_iff_toNat_lt] at h h2
          exact UInt8.toNat_inj.1 (by omega)
        subst he
        simp [ih]
theorem toL (s : ByteArray) : s.data.toList = s.toList := by rw [ByteArray.toList_eq]
/-- Orders of two texts. -/
theorem ord_lt (a b : ByteArray) : byOp 8 (Lib.compareBytes a.data.toList b.data.toList) = Op.bytesLess a.toList b.toList := by
  rw [cmp_spec, toL, toL]; unfold byOp
  cases h : Op.bytesLess a.toList b.toList
  · by_cases h2 : a.toList = b.toList <;> simp [h2]
  · simp
theorem ord_le (a b : ByteArray) : byOp 9 (Lib.compareBytes a.data.toList b.data.toList) = (Op.bytesLess a.toList b.toList || a.toList == b.toList) := by
  rw [cmp_spec, toL, toL]; unfold byOp
  cases h : Op.bytesLess a.toList b.toList
  · by_cases h2 : a.toList = b.toList <;> simp [h2]
  · simp
theorem less_asym {x y : List UInt8} (h : Op.bytesLess x y = true) : Op.bytesLess y x = false := by
  cases h2 : Op.bytesLess y x
  · rfl
  · have := Vr.less_irrefl x
    rw [Vr.less_trans _ _ _ h h2] at this
    cases this
theorem ord_gt (a b : ByteArray) : byOp 10 (Lib.compareBytes a.data.toList b.data.toList) = Op.bytesLess b.toList a.toList := by
  rw [cmp_spec, toL, toL]; unfold byOp
  rcases Vr.less_total a.toList b.toList with h | h | h
  · simp [h, less_asym h]
  · rw [h]; simp [Vr.less_irrefl]
  · have hne : a.toList ≠ b.toList := by intro e; rw [e, Vr.less_irrefl] at h; cases h
    simp [h, less_asym h, hne]
theorem ord_ge (a b : ByteArray) : byOp 11 (Lib.compareBytes a.data.toList b.data.toList) = (Op.bytesLess b.toList a.toList || a.toList == b.toList) := by
  rw [cmp_spec, toL, toL]; unfold byOp
  rcases Vr.less_total a.toList b.toList with h | h | h
  · have hne : a.toList ≠ b.toList := by intro e; rw [e, Vr.less_irrefl] at h; cases h
    simp [h, less_asym h, hne]
  · rw [h]; simp [Vr.less_irrefl]
  · have hne : a.toList ≠ b.toList := by intro e; rw [e, Vr.less_irrefl] at h; cases h
    simp [h, less_asym h, hne]
theorem int_lt (a b : Int) : byOp 8 (cmpI a b) = decide (a < b) := by
  unfold byOp cmpI; by_cases h : a < b <;> by_cases h2 : b < a <;> simp [h, h2]
theorem int_le (a b : Int) : byOp 9 (cmpI a b) = decide (a ≤ b) := by
  unfold byOp cmpI; by_cases h : a < b <;> by_cases h2 : b < a <;> simp [h, h2] <;> omega
theorem int_gt (a b : Int) : byOp 10 (cmpI a b) = decide (b < a) := by
  unfold byOp cmpI; by_cases h : a < b <;> by_cases h2 : b < a <;> simp [h, h2] <;> omega
theorem int_ge (a b : Int) : byOp 11 (cmpI a b) = decide (b ≤ a) := by
  unfold byOp cmpI; by_cases h : a < b <;> by_cases h2 : b < a <;> simp [h, h2] <;> omega

def vI (c : UInt8) (n : Int) : Vr.V := ⟨⟨#[c]⟩, 1, n, ⟨#[]⟩⟩
def vB (c : UInt8) (b : Bool) : Vr.V := ⟨⟨#[c]⟩, 2, bn b, ⟨#[]⟩⟩
def vT (c : UInt8) (s : ByteArray) : Vr.V := ⟨⟨#[c]⟩, 3, 0, s⟩
theorem nm_here {v : Vr.V} {l : List Vr.V} {s : ByteArray} (h : decide (v.name = s) = true) : named (v :: l) s = (0, ⟨v.kind, v.num, v.text⟩) := by
  have : Vr.get (v :: l) s = (v, true) := by
    unfold Vr.get Vr.idx Vr.named
    rw [List.findIdx?_cons, if_pos h]
    simp
  unfold named; rw [this]; rfl
theorem nm_next {v : Vr.V} {l : List Vr.V} {s : ByteArray} (h : decide (v.name = s) = false) : named (v :: l) s = named l s := by
  have hn := of_decide_eq_false h
  have : Vr.get (v :: l) s = Vr.get l s := by
    unfold Vr.get Vr.idx Vr.named
    rw [List.findIdx?_cons]
    simp only [h, Bool.false_eq_true, if_false]
    cases hf : List.findIdx? (fun v => decide (v.name = s)) l with
    | none => simp
    | some k =>
      have h0 : (0 : Int) ≤ (k : Int) + 1 := by omega
      have h1 : ((k : Int) + 1).toNat = k + 1 := by omega
      simp [h0, h1]
  unfold named; rw [this]
theorem nm_none (s : ByteArray) : named [] s = (108, Vl.zero) := rfl

section
variable (a b c : Int) (p q : Bool)
def lB : List Vr.V := [vI 97 a, vI 98 b, vB 112 p, vB 113 q]
theorem lB_a : named (lB a b p q) ⟨#[97]⟩ = (0, ⟨1, a, ⟨#[]⟩⟩) := nm_here rfl
theorem lB_b : named (lB a b p q) ⟨#[98]⟩ = (0, ⟨1, b, ⟨#[]⟩⟩) := (nm_next rfl).trans (nm_here rfl)
theorem lB_p : named (lB a b p q) ⟨#[112]⟩ = (0, flag p) := (nm_next rfl).trans ((nm_next rfl).trans (nm_here rfl))
theorem lB_q : named (lB a b p q) ⟨#[113]⟩ = (0, flag q) := (nm_next rfl).trans ((nm_next rfl).trans ((nm_next rfl).trans (nm_here rfl)))
theorem ev_nm (l : List Vr.V) (n : List UInt8) : ev l (.leaf 2 0 0 [] n) = named l ⟨n.toArray⟩ := rfl
theorem ev_val (l : List Vr.V) (k m : Int) (t : List UInt8) : ev l (.leaf 1 k m t []) = (0, ⟨k, m, ⟨t.toArray⟩⟩) := rfl
theorem ev_two (l : List Vr.V) (op : Int) (x y : Tr) (h3 : ¬ op = 3) (h4 : ¬ op = 4) : ev l (.two op x y) = twoR op (ev l x) (ev l y) := if_neg (by rintro (h | h) <;> contradiction)
theorem ev_or (l : List Vr.V) (x y : Tr) : ev l (.two 3 x y) = joinR 3 (hold (ev l x)) (hold (ev l y)) := rfl
theorem ev_and (l : List Vr.V) (x y : Tr) : ev l (.two 4 x y) = joinR 4 (hold (ev l x)) (hold (ev l y)) := rfl
theorem ev_not (l : List Vr.V) (x : Tr) : ev l (.one 5 x) = notR (hold (ev l x)) := rfl
theorem ev_neg (l : List Vr.V) (x : Tr) : ev l (.one 17 x) = negR (ev l x) := rfl
theorem two_ok (op : Int) (x y : Vl) : twoR op (0, x) (0, y) = two op x y := rfl
theorem flag_kind (b : Bool) : (flag b).kind = 2 := rfl
theorem or_flag (x y : Bool) : joinR 3 (0, x) (0, y) = (0, flag (x || y)) := by cases x <;> rfl
theorem and_flag (x y : Bool) : joinR 4 (0, x) (0, y) = (0, flag (x && y)) := by cases x <;> rfl
theorem not_flag (x : Bool) : notR (0, x) = (0, flag (!x)) := rfl
theorem eqv_flag (x y : Bool) : eqv (flag x) (flag y) = (x == y) := by unfold eqv flag bn; cases x <;> cases y <;> simp
theorem same_flag (op : Int) (x y : Bool) (h7 : op ≤ 7) : two op (flag x) (flag y) = (0, flag ((x == y) == (op == 6))) := by
  unfold two; rw [if_pos h7]; unfold same; rw [if_pos (show (flag x).kind = (flag y).kind from rfl), eqv_flag]
theorem same_int (op : Int) (x y : Int) (h7 : op ≤ 7) : two op ⟨1, x, ⟨#[]⟩⟩ ⟨1, y, ⟨#[]⟩⟩ = (0, flag ((x == y) == (op == 6))) := by
  unfold two; rw [if_pos h7]; unfold same; rw [if_pos (by rfl)]; unfold eqv; simp
theorem ord_int (op : Int) (x y : Int) (h7 : ¬ op ≤ 7) (h11 : op ≤ 11) : two op ⟨1, x, ⟨#[]⟩⟩ ⟨1, y, ⟨#[]⟩⟩ = (0, flag (byOp op (cmpI x y))) := by
  unfold two; rw [if_neg h7, if_pos h11]; unfold ordered; rw [if_pos ⟨rfl, rfl⟩]
theorem num_int (op : Int) (x y : Int) (h12 : 12 ≤ op) : two op ⟨1, x, ⟨#[]⟩⟩ ⟨1, y, ⟨#[]⟩⟩ = counted op x y := by
  unfold two; rw [if_neg (by omega), if_neg (by omega), if_neg (by intro h; have := h.2.1; simp at this), if_pos ⟨rfl, rfl⟩]
/-- The texts of the booleans, and what they come to. -/
def tB : List Tx := [txB0, txB1, txB2, txB3, txB4, txB5, txB6, txB7, txB8, txB9, txB10, txB0, txB0, txB13]
def wB : List Bool := [p || q, p && q, !p, p == q, !(p == q), decide (a < b), decide (a ≤ b), decide (b < a), decide (b ≤ a), a == b, !(a == b), true, true, true]
theorem evB (i : Nat) (hi : i < 14) (h1 : i ≠ 11) (h2 : i ≠ 12) : hold (ev (lB a b p q) (tB[i]!).t) = (0, (wB a b p q)[i]!) := by
  have e : i = 0 ∨ i = 1 ∨ i = 2 ∨ i = 3 ∨ i = 4 ∨ i = 5 ∨ i = 6 ∨ i = 7 ∨ i = 8 ∨ i = 9 ∨ i = 10 ∨ i = 13 := by omega
  rcases e with rfl | rfl | rfl | rfl | rfl | rfl | rfl | rfl | rfl | rfl | rfl | rfl
  · show hold (ev _ (.two 3 _ _)) = (0, p || q); simp only [ev_or, ev_nm, lB_p, lB_q, hold_flag, or_flag]
  · show hold (ev _ (.two 4 _ _)) = (0, p && q); simp only [ev_and, ev_nm, lB_p, lB_q, hold_flag, and_flag]
  · show hold (ev _ (.one 5 _)) = (0, !p); simp only [ev_not, ev_nm, lB_p, hold_flag, not_flag]
  · show hold (ev _ (.two 6 _ _)) = (0, p == q)
    rw [ev_two _ _ _ _ (by decide) (by decide), ev_nm, ev_nm, lB_p, lB_q, two_ok, same_flag _ _ _ (by decide), hold_flag]; simp
  · show hold (ev _ (.two 7 _ _)) = (0, !(p == q))
    rw [ev_two _ _ _ _ (by decide) (by decide), ev_nm, ev_nm, lB_p, lB_q, two_ok, same_flag _ _ _ (by decide), hold_flag]; simp
  · show hold (ev _ (.two 8 _ _)) = (0, decide (a < b))
    rw [ev_two _ _ _ _ (by decide) (by decide), ev_nm, ev_nm, lB_a, lB_b, two_ok, ord_int _ _ _ (by decide) (by decide), hold_flag, int_lt]
  · show hold (ev _ (.two 9 _ _)) = (0, decide (a ≤ b))
    rw [ev_two _ _ _ _ (by decide) (by decide), ev_nm, ev_nm, lB_a, lB_b, two_ok, ord_int _ _ _ (by decide) (by decide), hold_flag, int_le]
  · show hold (ev _ (.two 10 _ _)) = (0, decide (b < a))
    rw [ev_two _ _ _ _ (by decide) (by decide), ev_nm, ev_nm, lB_a, lB_b, two_ok, ord_int _ _ _ (by decide) (by decide), hold_flag, int_gt]
  · show hold (ev _ (.two 11 _ _)) = (0, decide (b ≤ a))
    rw [ev_two _ _ _ _ (by decide) (by decide), ev_nm, ev_nm, lB_a, lB_b, two_ok, ord_int _ _ _ (by decide) (by decide), hold_flag, int_ge]
  · show hold (ev _ (.two 6 _ _)) = (0, a == b)
    rw [ev_two _ _ _ _ (by decide) (by decide), ev_nm, ev_nm, lB_a, lB_b, two_ok, same_int _ _ _ (by decide), hold_flag]; simp
  · show hold (ev _ (.two 7 _ _)) = (0, !(a == b))
    rw [ev_two _ _ _ _ (by decide) (by decide), ev_nm, ev_nm, lB_a, lB_b, two_ok, same_int _ _ _ (by decide), hold_flag]; simp
  · show hold (ev _ (.two 3 (.two 3 (.two 8 _ _) (.two 6 _ _)) (.two 10 _ _))) = (0, true)
    rw [ev_or, ev_or, ev_two _ _ _ _ (by decide) (by decide), ev_two _ _ _ _ (by decide) (by decide), ev_two _ _ _ _ (by decide) (by decide), ev_nm, ev_nm, lB_a, lB_b, two_ok, two_ok, two_ok, ord_int 8 _ _ (by decide) (by decide), same_int 6 _ _ (by decide), ord_int 10 _ _ (by decide) (by decide), hold_flag, hold_flag, hold_flag, or_flag, hold_flag, or_flag, hold_flag, int_lt, int_gt]
    have : (decide (a < b) || ((a == b) == ((6 : Int) == 6)) || decide (b < a)) = true := by
      by_cases h : a < b
      · simp [h]
      · by_cases h2 : a = b
        · simp [h2]
        · have h3 : b < a := by omega
          simp [h3]
    rw [this]
theorem evBl : hold (ev (lB a b p q) txBl.t) = (0, true) := by
  show hold (ev _ (.two 6 (.one 5 (.two 4 _ _)) (.two 3 (.one 5 _) (.one 5 _)))) = (0, true)
  rw [ev_two _ _ _ _ (by decide) (by decide), ev_not, ev_and, ev_or, ev_not, ev_not, ev_nm, ev_nm, lB_p, lB_q, hold_flag, hold_flag, and_flag, hold_flag, not_flag, not_flag, not_flag, hold_flag, hold_flag, or_flag, two_ok, same_flag _ _ _ (by decide), hold_flag]
  cases p <;> cases q <;> rfl
theorem evF : hold (ev [] txF.t) = (0, true) := rfl

def lN : List Vr.V := [vI 97 a, vI 98 b, vI 99 c]
theorem lN_a : named (lN a b c) ⟨#[97]⟩ = (0, ⟨1, a, ⟨#[]⟩⟩) := nm_here rfl
theorem lN_b : named (lN a b c) ⟨#[98]⟩ = (0, ⟨1, b, ⟨#[]⟩⟩) := (nm_next rfl).trans (nm_here rfl)
theorem lN_c : named (lN a b c) ⟨#[99]⟩ = (0, ⟨1, c, ⟨#[]⟩⟩) := (nm_next rfl).trans ((nm_next rfl).trans (nm_here rfl))
def tN : List Tx := [txN0, txN1, txN2, txN3, txN4]
def wN : List Int := [wrap64 (a + wrap64 (b * c)), wrap64 (wrap64 (a - b) - c), wrap64 (wrap64 (a + b) * c), wrap64 (-a), wrap64 (a * wrap64 (-b))]
theorem c12 (x y : Int) : counted 12 x y = (0, ⟨1, wrap64 (x + y), ⟨#[]⟩⟩) := rfl
theorem c13 (x y : Int) : counted 13 x y = (0, ⟨1, wrap64 (x - y), ⟨#[]⟩⟩) := rfl
theorem c14 (x y : Int) : counted 14 x y = (0, ⟨1, wrap64 (x * y), ⟨#[]⟩⟩) := rfl
theorem neg_int (x : Int) : negR (0, ⟨1, x, ⟨#[]⟩⟩) = (0, ⟨1, wrap64 (-x), ⟨#[]⟩⟩) := rfl
theorem evN (i : Nat) (hi : i < 5) : ev (lN a b c) (tN[i]!).t = (0, ⟨1, (wN a b c)[i]!, ⟨#[]⟩⟩) := by
  have e : i = 0 ∨ i = 1 ∨ i = 2 ∨ i = 3 ∨ i = 4 := by omega
  rcases e with rfl | rfl | rfl | rfl | rfl
  · show ev _ (.two 12 _ (.two 14 _ _)) = (0, ⟨1, wrap64 (a + wrap64 (b * c)), ⟨#[]⟩⟩)
    rw [ev_two _ _ _ _ (by decide) (by decide), ev_two _ _ _ _ (by decide) (by decide), ev_nm, ev_nm, ev_nm, lN_a, lN_b, lN_c, two_ok, num_int _ _ _ (by decide), c14, two_ok, num_int _ _ _ (by decide), c12]
  · show ev _ (.two 13 (.two 13 _ _) _) = (0, ⟨1, wrap64 (wrap64 (a - b) - c), ⟨#[]⟩⟩)
    rw [ev_two _ _ _ _ (by decide) (by decide), ev_two _ _ _ _ (by decide) (by decide), ev_nm, ev_nm, ev_nm, lN_a, lN_b, lN_c, two_ok, num_int _ _ _ (by decide), c13, two_ok, num_int _ _ _ (by decide), c13]
  · show ev _ (.two 14 (.two 12 _ _) _) = (0, ⟨1, wrap64 (wrap64 (a + b) * c), ⟨#[]⟩⟩)
    rw [ev_two _ _ _ _ (by decide) (by decide), ev_two _ _ _ _ (by decide) (by decide), ev_nm, ev_nm, ev_nm, lN_a, lN_b, lN_c, two_ok, num_int _ _ _ (by decide), c12, two_ok, num_int _ _ _ (by decide), c14]
  · show ev _ (.one 17 _) = (0, ⟨1, wrap64 (-a), ⟨#[]⟩⟩)
    rw [ev_neg, ev_nm, lN_a, neg_int]
  · show ev _ (.two 14 _ (.one 17 _)) = (0, ⟨1, wrap64 (a * wrap64 (-b)), ⟨#[]⟩⟩)
    rw [ev_two _ _ _ _ (by decide) (by decide), ev_neg, ev_nm, ev_nm, lN_a, lN_b, neg_int, two_ok, num_int _ _ _ (by decide), c14]
theorem wrap_far (x : Int) : ∃ k : Int, wrap64 x = x + 18446744073709551616 * k := by
  refine ⟨-((x + 9223372036854775808) / 18446744073709551616), ?_⟩
  unfold wrap64
  have := Int.emod_add_mul_ediv (x + 9223372036854775808) 18446744073709551616
  omega
theorem wrap_back {x k : Int} (h0 : -9223372036854775808 ≤ x) (h1 : x ≤ 9223372036854775807) : wrap64 (x + 18446744073709551616 * k) = x := by
  unfold wrap64; omega
theorem div_rest (h0 : -9223372036854775808 ≤ a) (h1 : a ≤ 9223372036854775807) : wrap64 (wrap64 (wrap64 (a.tdiv b) * b) + a.tmod b) = a := by
  obtain ⟨k, hk⟩ := wrap_far (a.tdiv b)
  rw [hk]
  obtain ⟨m, hm⟩ := wrap_far ((a.tdiv b + 18446744073709551616 * k) * b)
  rw [hm]
  have hd := Int.tdiv_mul_add_tmod a b
  have he : (a.tdiv b + 18446744073709551616 * k) * b + 18446744073709551616 * m + a.tmod b = a + 18446744073709551616 * (k * b + m) := by
    rw [Int.add_mul, Int.mul_assoc, Int.mul_add]
    omega
  rw [he]
  exact wrap_back h0 h1
theorem c15 {x y : Int} (h : y ≠ 0) : counted 15 x y = (0, ⟨1, wrap64 (x.tdiv y), ⟨#[]⟩⟩) := by unfold counted; simp [h]
theorem c16 {x y : Int} (h : y ≠ 0) : counted 16 x y = (0, ⟨1, x.tmod y, ⟨#[]⟩⟩) := by unfold counted; simp [h]
theorem evNl (h0 : -9223372036854775808 ≤ a) (h1 : a ≤ 9223372036854775807) (hb : b ≠ 0) : hold (ev (lN a b c) txNl.t) = (0, true) := by
  show hold (ev _ (.two 6 (.two 12 (.two 14 (.two 15 _ _) _) (.two 16 _ _)) _)) = (0, true)
  rw [ev_two _ _ _ _ (by decide) (by decide), ev_two _ _ _ _ (by decide) (by decide), ev_two _ _ _ _ (by decide) (by decide), ev_two _ _ _ _ (by decide) (by decide), ev_two _ _ _ _ (by decide) (by decide), ev_nm, ev_nm, lN_a, lN_b, two_ok, num_int _ _ _ (by decide), c15 hb, two_ok, num_int _ _ _ (by decide), c14, two_ok, num_int _ _ _ (by decide), c16 hb, two_ok, num_int _ _ _ (by decide), c12, two_ok, same_int _ _ _ (by decide), hold_flag, div_rest a b h0 h1]
  simp
theorem evNz : hold (ev (lN a 0 c) txNl.t) = (113, false) := by
  show hold (ev _ (.two 6 (.two 12 (.two 14 (.two 15 _ _) _) (.two 16 _ _)) _)) = (113, false)
  rw [ev_two _ _ _ _ (by decide) (by decide), ev_two _ _ _ _ (by decide) (by decide), ev_two _ _ _ _ (by decide) (by decide), ev_two _ _ _ _ (by decide) (by decide), ev_nm, ev_nm, lN_a, lN_b, two_ok, num_int _ _ _ (by decide)]
  rfl
def lZ : List Vr.V := [vB 112 p]
def tZo : List Tx := [txZo0, txZo1, txZo2, txZo3, txZo4]
def tZa : List Tx := [txZa0, txZa1, txZa2, txZa3, txZa4]
def tZb : List Tx := [txZb0, txZb1, txZb2, txZb3, txZb4]
def tZ : List (List UInt8) := [[120], [49, 32, 47, 32, 48, 32, 61, 61, 32, 49], [49], [110, 111, 116, 32, 49], [34, 97, 34, 32, 60, 32, 49]]
def cZ : List Int := [108, 113, 110, 110, 110]
theorem evZ (i : Nat) (hi : i < 5) : hold (ev (lZ p) (tZo[i]!).t) = (if p then (0, true) else (cZ[i]!, false)) ∧ hold (ev (lZ p) (tZa[i]!).t) = (if p then (cZ[i]!, false) else (0, false)) ∧ hold (ev (lZ p) (tZb[i]!).t) = (cZ[i]!, false) := by
  have e : i = 0 ∨ i = 1 ∨ i = 2 ∨ i = 3 ∨ i = 4 := by omega
  rcases e with rfl | rfl | rfl | rfl | rfl <;> cases p <;> refine ⟨?_, ?_, ?_⟩ <;> kernel_rfl
theorem sZ (i : Nat) (hi : i < 5) : (tZo[i]!).s = [112, 32, 111, 114, 32] ++ tZ[i]! ∧ (tZa[i]!).s = [112, 32, 97, 110, 100, 32] ++ tZ[i]! ∧ (tZb[i]!).s = tZ[i]! ++ [32, 111, 114, 32, 112] := by
  have e : i = 0 ∨ i = 1 ∨ i = 2 ∨ i = 3 ∨ i = 4 := by omega
  rcases e with rfl | rfl | rfl | rfl | rfl <;> refine ⟨?_, ?_, ?_⟩ <;> rfl
end
section
variable (a b : ByteArray) (n : Int) (p : Bool)
def lT : List Vr.V := [vT 97 a, vT 98 b, vI 110 n, vB 112 p]
theorem lT_a : named (lT a b n p) ⟨#[97]⟩ = (0, ⟨3, 0, a⟩) := nm_here rfl
theorem lT_b : named (lT a b n p) ⟨#[98]⟩ = (0, ⟨3, 0, b⟩) := (nm_next rfl).trans (nm_here rfl)
theorem lT_n : named (lT a b n p) ⟨#[110]⟩ = (0, ⟨1, n, ⟨#[]⟩⟩) := (nm_next rfl).trans ((nm_next rfl).trans (nm_here rfl))
theorem lT_p : named (lT a b n p) ⟨#[112]⟩ = (0, flag p) := (nm_next rfl).trans ((nm_next rfl).trans ((nm_next rfl).trans (nm_here rfl)))
theorem same_txt (op : Int) (x y : ByteArray) (h7 : op ≤ 7) : two op ⟨3, 0, x⟩ ⟨3, 0, y⟩ = (0, flag ((x.toList == y.toList) == (op == 6))) := by
  unfold two; rw [if_pos h7]; unfold same; rw [if_pos (by rfl)]; unfold eqv; simp
theorem ord_txt (op : Int) (x y : ByteArray) (h7 : ¬ op ≤ 7) (h11 : op ≤ 11) : two op ⟨3, 0, x⟩ ⟨3, 0, y⟩ = (0, flag (byOp op (Lib.compareBytes x.data.toList y.data.toList))) := by
  unfold two; rw [if_neg h7, if_pos h11]; unfold ordered; rw [if_neg (by intro h; have := h.1; simp at this), if_pos ⟨rfl, rfl⟩]
def tT : List Tx := [txT0, txT1, txT2, txT3, txT4, txT5]
def wT : List Bool := [a.toList == b.toList, !(a.toList == b.toList), Op.bytesLess a.toList b.toList, (Op.bytesLess a.toList b.toList || a.toList == b.toList), Op.bytesLess b.toList a.toList, (Op.bytesLess b.toList a.toList || a.toList == b.toList)]
theorem evT (i : Nat) (hi : i < 6) : hold (ev (lT a b n p) (tT[i]!).t) = (0, (wT a b)[i]!) := by
  have e : i = 0 ∨ i = 1 ∨ i = 2 ∨ i = 3 ∨ i = 4 ∨ i = 5 := by omega
  rcases e with rfl | rfl | rfl | rfl | rfl | rfl
  · show hold (ev _ (.two 6 _ _)) = (0, a.toList == b.toList)
    rw [ev_two _ _ _ _ (by decide) (by decide), ev_nm, ev_nm, lT_a, lT_b, two_ok, same_txt _ _ _ (by decide), hold_flag]; simp
  · show hold (ev _ (.two 7 _ _)) = (0, !(a.toList == b.toList))
    rw [ev_two _ _ _ _ (by decide) (by decide), ev_nm, ev_nm, lT_a, lT_b, two_ok, same_txt _ _ _ (by decide), hold_flag]; simp
  · show hold (ev _ (.two 8 _ _)) = (0, Op.bytesLess a.toList b.toList)
    rw [ev_two _ _ _ _ (by decide) (by decide), ev_nm, ev_nm, lT_a, lT_b, two_ok, ord_txt _ _ _ (by decide) (by decide), hold_flag, ord_lt]
  · show hold (ev _ (.two 9 _ _)) = (0, (Op.bytesLess a.toList b.toList || a.toList == b.toList))
    rw [ev_two _ _ _ _ (by decide) (by decide), ev_nm, ev_nm, lT_a, lT_b, two_ok, ord_txt _ _ _ (by decide) (by decide), hold_flag, ord_le]
  · show hold (ev _ (.two 10 _ _)) = (0, Op.bytesLess b.toList a.toList)
    rw [ev_two _ _ _ _ (by decide) (by decide), ev_nm, ev_nm, lT_a, lT_b, two_ok, ord_txt _ _ _ (by decide) (by decide), hold_flag, ord_gt]
  · show hold (ev _ (.two 11 _ _)) = (0, (Op.bytesLess b.toList a.toList || a.toList == b.toList))
    rw [ev_two _ _ _ _ (by decide) (by decide), ev_nm, ev_nm, lT_a, lT_b, two_ok, ord_txt _ _ _ (by decide) (by decide), hold_flag, ord_ge]
def tX : List Tx := [txX0, txX1, txX2, txX3, txX4, txX5, txX6, txX7]
theorem evX (i : Nat) (hi : i < 8) : ev (lT a b n p) (tX[i]!).t = (110, Vl.zero) := by
  have e : i = 0 ∨ i = 1 ∨ i = 2 ∨ i = 3 ∨ i = 4 ∨ i = 5 ∨ i = 6 ∨ i = 7 := by omega
  rcases e with rfl | rfl | rfl | rfl | rfl | rfl | rfl | rfl
  · show ev _ (.two 6 _ _) = _
    rw [ev_two _ _ _ _ (by decide) (by decide), ev_nm, ev_nm, lT_a, lT_n]; rfl
  · show ev _ (.two 8 _ _) = _
    rw [ev_two _ _ _ _ (by decide) (by decide), ev_nm, ev_nm, lT_p, lT_n]; cases p <;> rfl
  · show ev _ (.two 8 _ _) = _
    rw [ev_two _ _ _ _ (by decide) (by decide), ev_nm, lT_p]; cases p <;> rfl
  · show ev _ (.two 13 _ _) = _
    rw [ev_two _ _ _ _ (by decide) (by decide), ev_nm, ev_nm, lT_a, lT_b]; rfl
  · show ev _ (.one 5 _) = _
    rw [ev_not, ev_nm, lT_a]; rfl
  · show ev _ (.two 4 _ _) = _
    rw [ev_and, ev_nm, ev_nm, lT_n, lT_p]; cases p <;> rfl
  · show ev _ (.two 12 _ _) = _
    rw [ev_two _ _ _ _ (by decide) (by decide), ev_nm, lT_p]; cases p <;> rfl
  · show ev _ (.one 17 _) = _
    rw [ev_neg, ev_nm, lT_a]; rfl
theorem evTl : ev (lT a b n p) txTl.t = (0, ⟨3, 0, cut (a ++ b)⟩) := by
  show ev _ (.two 12 _ _) = _
  rw [ev_two _ _ _ _ (by decide) (by decide), ev_nm, ev_nm, lT_a, lT_b]; rfl
end
/-- All are conditions that Parse may tell. -/
theorem okB (i : Nat) (hi : i < 14) : (tB[i]!).ok ∧ wf (tB[i]!).t = true ∧ (tB[i]!).s.length ≤ 80 := by
  have e : i = 0 ∨ i = 1 ∨ i = 2 ∨ i = 3 ∨ i = 4 ∨ i = 5 ∨ i = 6 ∨ i = 7 ∨ i = 8 ∨ i = 9 ∨ i = 10 ∨ i = 11 ∨ i = 12 ∨ i = 13 := by omega
  rcases e with rfl | rfl | rfl | rfl | rfl | rfl | rfl | rfl | rfl | rfl | rfl | rfl | rfl | rfl
  · exact ⟨txB0_ok, rfl, by decide⟩
  · exact ⟨txB1_ok, rfl, by decide⟩
  · exact ⟨txB2_ok, rfl, by decide⟩
  · exact ⟨txB3_ok, rfl, by decide⟩
  · exact ⟨txB4_ok, rfl, by decide⟩
  · exact ⟨txB5_ok, rfl, by decide⟩
  · exact ⟨txB6_ok, rfl, by decide⟩
  · exact ⟨txB7_ok, rfl, by decide⟩
  · exact ⟨txB8_ok, rfl, by decide⟩
  · exact ⟨txB9_ok, rfl, by decide⟩
  · exact ⟨txB10_ok, rfl, by decide⟩
  · exact ⟨txB0_ok, rfl, by decide⟩
  · exact ⟨txB0_ok, rfl, by decide⟩
  · exact ⟨txB13_ok, rfl, by decide⟩
theorem okN (i : Nat) (hi : i < 5) : (tN[i]!).ok ∧ wf (tN[i]!).t = true ∧ (tN[i]!).s.length ≤ 80 := by
  have e : i = 0 ∨ i = 1 ∨ i = 2 ∨ i = 3 ∨ i = 4 := by omega
  rcases e with rfl | rfl | rfl | rfl | rfl
  · exact ⟨txN0_ok, rfl, by decide⟩
  · exact ⟨txN1_ok, rfl, by decide⟩
  · exact ⟨txN2_ok, rfl, by decide⟩
  · exact ⟨txN3_ok, rfl, by decide⟩
  · exact ⟨txN4_ok, rfl, by decide⟩
theorem okZo (i : Nat) (hi : i < 5) : (tZo[i]!).ok ∧ wf (tZo[i]!).t = true ∧ (tZo[i]!).s.length ≤ 80 := by
  have e : i = 0 ∨ i = 1 ∨ i = 2 ∨ i = 3 ∨ i = 4 := by omega
  rcases e with rfl | rfl | rfl | rfl | rfl
  · exact ⟨txZo0_ok, rfl, by decide⟩
  · exact ⟨txZo1_ok, rfl, by decide⟩
  · exact ⟨txZo2_ok, rfl, by decide⟩
  · exact ⟨txZo3_ok, rfl, by decide⟩
  · exact ⟨txZo4_ok, rfl, by decide⟩
theorem okZa (i : Nat) (hi : i < 5) : (tZa[i]!).ok ∧ wf (tZa[i]!).t = true ∧ (tZa[i]!).s.length ≤ 80 := by
  have e : i = 0 ∨ i = 1 ∨ i = 2 ∨ i = 3 ∨ i = 4 := by omega
  rcases e with rfl | rfl | rfl | rfl | rfl
  · exact ⟨txZa0_ok, rfl, by decide⟩
  · exact ⟨txZa1_ok, rfl, by decide⟩
  · exact ⟨txZa2_ok, rfl, by decide⟩
  · exact ⟨txZa3_ok, rfl, by decide⟩
  · exact ⟨txZa4_ok, rfl, by decide⟩
theorem okZb (i : Nat) (hi : i < 5) : (tZb[i]!).ok ∧ wf (tZb[i]!).t = true ∧ (tZb[i]!).s.length ≤ 80 := by
  have e : i = 0 ∨ i = 1 ∨ i = 2 ∨ i = 3 ∨ i = 4 := by omega
  rcases e with rfl | rfl | rfl | rfl | rfl
  · exact ⟨txZb0_ok, rfl, by decide⟩
  · exact ⟨txZb1_ok, rfl, by decide⟩
  · exact ⟨txZb2_ok, rfl, by decide⟩
  · exact ⟨txZb3_ok, rfl, by decide⟩
  · exact ⟨txZb4_ok, rfl, by decide⟩
theorem okT (i : Nat) (hi : i < 6) : (tT[i]!).ok ∧ wf (tT[i]!).t = true ∧ (tT[i]!).s.length ≤ 80 := by
  have e : i = 0 ∨ i = 1 ∨ i = 2 ∨ i = 3 ∨ i = 4 ∨ i = 5 := by omega
  rcases e with rfl | rfl | rfl | rfl | rfl | rfl
  · exact ⟨txT0_ok, rfl, by decide⟩
  · exact ⟨txT1_ok, rfl, by decide⟩
  · exact ⟨txT2_ok, rfl, by decide⟩
  · exact ⟨txT3_ok, rfl, by decide⟩
  · exact ⟨txT4_ok, rfl, by decide⟩
  · exact ⟨txT5_ok, rfl, by decide⟩
theorem okX (i : Nat) (hi : i < 8) : (tX[i]!).ok ∧ wf (tX[i]!).t = true ∧ (tX[i]!).s.length ≤ 80 := by
  have e : i = 0 ∨ i = 1 ∨ i = 2 ∨ i = 3 ∨ i = 4 ∨ i = 5 ∨ i = 6 ∨ i = 7 := by omega
  rcases e with rfl | rfl | rfl | rfl | rfl | rfl | rfl | rfl
  · exact ⟨txX0_ok, rfl, by decide⟩
  · exact ⟨txX1_ok, rfl, by decide⟩
  · exact ⟨txX2_ok, rfl, by decide⟩
  · exact ⟨txX3_ok, rfl, by decide⟩
  · exact ⟨txX4_ok, rfl, by decide⟩
  · exact ⟨txX5_ok, rfl, by decide⟩
  · exact ⟨txX6_ok, rfl, by decide⟩
  · exact ⟨txX7_ok, rfl, by decide⟩
end Co
end Go.Proofs.YtpjdbccndlbbhaaGreatDoor
