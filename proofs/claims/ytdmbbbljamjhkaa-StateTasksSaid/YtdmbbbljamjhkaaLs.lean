/- Statements of queue: made. -/
import Derived.Test.YtdmbbbljamjhkaaLq
import Derived.Deep.RegionHeld3
namespace Go.Proofs.Ytdmbbbljamjhkaa
open Go.RowKit

namespace Qu
open Ls (T)
theorem wrapQ {a : Int} (h1 : -9223372036854775808 ≤ a) (h2 : a ≤ 9223372036854775807) : IntKind.i64.wrap a = a := by
  rw [IntKind.wrap_i64]
  omega
theorem num_fn (n b : Int) (w : World) (hb : 0 < b) (h3 : b ≤ 4611686018427387904) :
    Calls Try.prog 6 #[.int .i64 n, .int .i64 b] w fun e w' => e = .returned (.int .i64 (n % b)) ∧ w' = w := by
  have hb0 : (b == 0) = false := by simp; omega
  have e1 : n.tmod b < b := Int.tmod_lt_of_pos _ hb
  have e2 : -b < n.tmod b := by
    have := Int.lt_tmod_of_pos n hb
    omega
  have e3 : n % b = if n.tmod b < 0 then n.tmod b + b else n.tmod b := by
    rw [Int.tmod_eq_emod]
    have h4 := Int.emod_nonneg n (show b ≠ 0 by omega)
    have h5 := Int.emod_lt_of_pos n hb
    by_cases h : 0 ≤ n ∨ b ∣ n
    · rw [if_pos h, show ((0 : Nat) : Int) = 0 from rfl, Int.sub_zero, if_neg (by omega)]
    · rw [if_neg h]
      have h6 : (b.natAbs : Int) = b := by omega
      rw [h6, if_pos (by omega)]
      omega
  rw [e3]
  generalize hr : n.tmod b = r at *
  by_cases h : r < 0
  · rw [if_pos h]
    have hw : IntKind.i64.wrap (r + b) = r + b := wrapQ (by omega) (by omega)
    go_enter Try.func6, Try.ntmps6
    go_wp2
    go_ret
    exact ⟨rfl, rfl⟩
  · rw [if_neg h]
    go_enter Try.func6, Try.ntmps6
    go_wp2
    go_ret
    exact ⟨rfl, rfl⟩
/-- One of three texts. -/
def tp3 (k : Int) : ByteArray := if k = 0 then sa else if k = 1 then sb else sc
def mk0 (n m : Int) : T := ⟨1 + n % 40, 1, 1, 0, tp3 (m % 3), m.tdiv 3 % 4, ⟨#[]⟩, 0, 0, m.tdiv 12 % 30, 1, false⟩
def mk1 (n m : Int) : T := if Go.bits .and .i64 m 1024 = 1024 then { mk0 n m with wkr := ⟨#[119]⟩, epo := 1 + n.tdiv 40 % 60, exp := 1 + m.tdiv 360 % 30 } else mk0 n m
def mkx (n m : Int) : T := if Go.bits .and .i64 m 2048 = 2048 then { mk1 n m with ret := 0, bro := true } else mk1 n m
theorem tp3_size (k : Int) : (tp3 k).size = 1 := by
  unfold tp3
  split
  · rfl
  · split <;> rfl
/-- What holds of each that is made. -/
structure MadeOk (x : T) : Prop where
  id1 : 1 ≤ x.id
  id2 : x.id ≤ 40
  top : x.top.size = 1
  aft1 : 0 ≤ x.aft
  aft2 : x.aft ≤ 30
  exp1 : 0 ≤ x.exp
  exp2 : x.exp ≤ 30
theorem mkx_ok (n m : Int) : MadeOk (mkx n m) := by
  have h1 := Int.emod_nonneg n (show (40 : Int) ≠ 0 by decide)
  have h2 := Int.emod_lt_of_pos n (show (0 : Int) < 40 by decide)
  have h3 := Int.emod_nonneg (m.tdiv 12) (show (30 : Int) ≠ 0 by decide)
  have h4 := Int.emod_lt_of_pos (m.tdiv 12) (show (0 : Int) < 30 by decide)
  have h5 := Int.emod_nonneg (m.tdiv 360) (show (30 : Int) ≠ 0 by decide)
  have h6 := Int.emod_lt_of_pos (m.tdiv 360) (show (0 : Int) < 30 by decide)
  have ht := tp3_size (m % 3)
  have k0 : MadeOk (mk0 n m) := ⟨by show 1 ≤ 1 + n % 40; omega, by show 1 + n % 40 ≤ 40; omega, ht, by show 0 ≤ m.tdiv 12 % 30; omega, by show m.tdiv 12 % 30 ≤ 30; omega, by show (0 : Int) ≤ 0; omega, by show (0 : Int) ≤ 30; omega⟩
  have k1 : MadeOk (mk1 n m) := by
    unfold mk1
    split
    · exact ⟨k0.id1, k0.id2, k0.top, k0.aft1, k0.aft2, by show 0 ≤ 1 + m.tdiv 360 % 30; omega, by show 1 + m.tdiv 360 % 30 ≤ 30; omega⟩
    · exact k0
  unfold mkx
  split
  · exact ⟨k1.id1, k1.id2, k1.top, k1.aft1, k1.aft2, k1.exp1, k1.exp2⟩
  · exact k1
end Qu
end Go.Proofs.Ytdmbbbljamjhkaa
