/- Package again: what the walks compare: rows of numbers, of replies, that are the same. -/
import Derived.Test.YtfpennnbicclfaaAgz
import Derived.Test.YtfpennnbicclfaaSame
namespace Go.Proofs.Ytfpennnbicclfaa
open Go.RowKit

namespace Ag
set_option maxHeartbeats 800000 in
theorem sameints_ag (A B : Option Addr) (n c d : Nat) (l : List Int) (w : World) (hA : Pl A n c) (hB : Pl B n d) (hr : KRow iκ w w.heap.size A n l) (hr' : KRow iκ w w.heap.size B n l) (hn : n ≤ 1000) :
    Calls Try.prog 32 #[.slice A n c, .slice B n d] w fun e w' => e = .returned (.bool true) ∧ Below w.heap.size w w' := by
  have HL := Lib.hid (hr.len (by decide))
  have HR := Lib.hid hr
  have HR' := Lib.hid hr'
  have h0 : (bne (n : Int) (n : Int)) = false := by simp
  clear hr hr'
  go_enter Try.func32, Try.ntmps32
  go_wp2
  go_loopw [5] (fun i wr => ∃ k : Nat, k ≤ n ∧ i = .int .i64 k ∧ Below w.heap.size w wr) (fun i _ => n - (intOf i).toNat)
  case atStart => exact ⟨0, Nat.zero_le _, rfl, Below.refl _ _⟩
  case round =>
    obtain ⟨k, hk, rfl, hbw⟩ := hrel
    have HBW := Lib.hid hbw
    clear hbw
    have hk0 : (0 : Int) ≤ (k : Int) := by omega
    by_cases hlt : k < n
    · have hI : (k : Int) < (n : Int) := by omega
      have hkl : k < l.length := by have := HL.out; omega
      obtain ⟨b, off, rfl⟩ : ∃ b off, A = some ⟨b, off, none⟩ := by
        rcases hA with ⟨_, h0, _⟩ | h
        · omega
        · exact h
      obtain ⟨b', off', rfl⟩ : ∃ b off, B = some ⟨b, off, none⟩ := by
        rcases hB with ⟨_, h0, _⟩ | h
        · omega
        · exact h
      have hel := i_cell (HR.out.below HBW.out (Nat.le_refl _)) hkl
      have hel' := i_cell (HR'.out.below HBW.out (Nat.le_refl _)) hkl
      generalize l[k]! = y at *
      have hyy : (y == y) = true := by simp
      go_wp2_with fail
      go_quiet (fail)
      go_wp2
      go_roundw
      case rel => exact ⟨k + 1, by omega, by first | rfl | go_num, HBW.out.trans ((by first | exact below_drewN (Below.refl _ _) _ | exact Below.refl _ _ : Below wr.heap.size wr _).mono HBW.out.size)⟩
      case measure => simp only [intOf]; omega
    · obtain rfl : k = n := by omega
      go_wp2
      go_ret
      exact ⟨rfl, HBW.out⟩
set_option maxHeartbeats 800000 in
theorem samechunks_ag (A B : Option Addr) (n c d : Nat) (l l' : List Part) (w : World) (hA : Pl A n c) (hB : Pl B n d) (hr : KRow pκ w w.heap.size A n l) (hr' : KRow pκ w w.heap.size B n l') (hp : ∀ r ∈ l, RpIn w r) (hp' : ∀ r ∈ l', RpIn w r) (he : l.map Part.l = l'.map Part.l) (hn : n ≤ 1000) :
    Calls Try.prog 33 #[.slice A n c, .slice B n d] w fun e w' => e = .returned (.bool true) ∧ Below w.heap.size w w' := by
  have HL := Lib.hid (hr.len (by decide))
  have HL' := Lib.hid (hr'.len (by decide))
  have HR := Lib.hid hr
  have HR' := Lib.hid hr'
  have HP := Lib.hid hp
  have HP' := Lib.hid hp'
  have HE := Lib.hid he
  have h0 : (bne (n : Int) (n : Int)) = false := by simp
  clear hr hr' hp hp' he
  go_enter Try.func33, Try.ntmps33
  go_wp2
  go_loopw [5] (fun i wr => ∃ k : Nat, k ≤ n ∧ i = .int .i64 k ∧ Below w.heap.size w wr) (fun i _ => n - (intOf i).toNat)
  case atStart => exact ⟨0, Nat.zero_le _, rfl, Below.refl _ _⟩
  case round =>
    obtain ⟨k, hk, rfl, hbw⟩ := hrel
    have HBW := Lib.hid hbw
    clear hbw
    have hk0 : (0 : Int) ≤ (k : Int) := by omega
    by_cases hlt : k < n
    · have hI : (k : Int) < (n : Int) := by omega
      have hkl : k < l.length := by have := HL.out; omega
      have hkl' : k < l'.length := by have := HL'.out; omega
      obtain ⟨b, off, rfl⟩ : ∃ b off, A = some ⟨b, off, none⟩ := by
        rcases hA with ⟨_, h0, _⟩ | h
        · omega
        · exact h
      obtain ⟨b', off', rfl⟩ : ∃ b off, B = some ⟨b, off, none⟩ := by
        rcases hB with ⟨_, h0, _⟩ | h
        · omega
        · exact h
      have hel := p_cell (HR.out.below HBW.out (Nat.le_refl _)) hkl
      have hel' := p_cell (HR'.out.below HBW.out (Nat.le_refl _)) hkl'
      have hll : (l[k]).l = (l'[k]).l := by
        have h := congrArg (fun z : List (List UInt8) => z[k]?) HE.out
        simpa [hkl, hkl'] using h
      have hx := (HP.out _ (List.getElem_mem hkl))
      have hy := (HP'.out _ (List.getElem_mem hkl'))
      have HS := Lib.hid (fun (W : World) (hW : Below w.heap.size w W) => same_any (l[k]).a (l'[k]).a (l[k]).n (l'[k]).n (l[k]).c (l'[k]).c (l[k]).l (l'[k]).l W (RowS.mono (RowS.below hx.row hW (Nat.le_refl _)) hW.size) (RowS.mono (RowS.below hy.row hW (Nat.le_refl _)) hW.size) (by have := hx.len; omega) (by have := hy.len; omega))
      rw [hll] at HS
      have hbq : ((l'[k]).l == (l'[k]).l) = true := by simp
      rw [hbq] at HS
      clear hx hy hll hbq
      generalize l[k] = x at *
      generalize l'[k] = y at *
      obtain ⟨xa, xn, xc, xl⟩ := x
      obtain ⟨ya, yn, yc, yl⟩ := y
      dsimp only at *
      go_wp2_with fail
      have HBD : Hid (Below w.heap.size w wr.drew) := Lib.hid HBW.out.drew
      have hbl : b < wr.heap.size := cell_lt hel
      have hbl' : b' < wr.heap.size := cell_lt hel'
      go_region_held3 (fun w' => w'.cell? ⟨b, off + k, none⟩ = some (.slice xa xn xc) ∧ w'.cell? ⟨b', off' + k, none⟩ = some (.slice ya yn yc)) (first | exact SS | exact ⟨hel, hel'⟩ | go_keep) (first
        | (go_at_call 16; (with_reducible refine (HS.out _ HBD.out).mono ?_); rintro e w6 ⟨rfl, hb6⟩; have HB6 := Lib.hid (HBD.out.trans (hb6.mono HBD.out.size)); have SS := And.intro ((hb6.cell (p := ⟨b, off + k, none⟩) hbl).trans hel) ((hb6.cell (p := ⟨b', off' + k, none⟩) hbl').trans hel'); clear hb6))
      go_wp2
      go_roundw
      case rel => exact ⟨k + 1, by omega, by first | rfl | go_num, HB6.out⟩
      case measure => simp only [intOf]; omega
    · obtain rfl : k = n := by omega
      go_wp2
      go_ret
      exact ⟨rfl, HBW.out⟩
end Ag
end Go.Proofs.Ytfpennnbicclfaa
