/- Rows of texts; the document's HasText of any row. -/
import Derived.Test.YtggplgmjonnliaaGreatDoorProg
import Derived.Test.YtggplgmjonnliaaGreatDoorGq
import Derived.StringKeys
namespace Go.Proofs.YtggplgmjonnliaaGreatDoor
open Go.RowKit

namespace Ms
def xκ : Cs ByteArray := ⟨1, fun s => [.string s], fun _ => rfl, fun s u hu => by
  rw [List.mem_singleton] at hu
  subst hu
  rfl⟩
theorem x_flat (l : List ByteArray) : l.flatMap xκ.cs = l.map Value.string := by
  induction l with
  | nil => rfl
  | cons y r ih =>
    rw [List.flatMap_cons, ih]
    rfl
theorem x_at {w : World} {b off n B : Nat} {l : List ByteArray} (h : KRow xκ w B (some ⟨b, off, none⟩) n l) {j : Nat} (hj : j < n) : w.cell? ⟨b, off + j, none⟩ = some (.string l[j]!) := by
  have := KRow.of (κ := xκ) h (by decide) hj 0 (.string l[j]!) rfl
  rwa [show off + j * xκ.k + 0 = off + j from by show off + j * 1 + 0 = off + j; omega] at this
/-- Is s one of them? -/
def has (ts : List ByteArray) (s : ByteArray) : Bool := ts.any fun y => s.toList == y.toList
theorem text_eq {a b : ByteArray} : (a.toList == b.toList) = true ↔ a = b := by
  rw [beq_iff_eq, ByteArray.toList_eq, ByteArray.toList_eq]
  exact ⟨fun h => by cases a; cases b; simp only [ByteArray.mk.injEq]; exact Array.toList_inj.1 h, fun e => by rw [e]⟩
theorem has_at {ts : List ByteArray} {s : ByteArray} : has ts s = true ↔ ∃ j, j < ts.length ∧ ts[j]! = s := by
  unfold has
  rw [List.any_eq_true]
  constructor
  · rintro ⟨y, hy, h⟩
    obtain ⟨j, hj, e⟩ := List.getElem_of_mem hy
    exact ⟨j, hj, by rw [getElem!_pos ts j hj, e]; exact (text_eq.1 h).symm⟩
  · rintro ⟨j, hj, h⟩
    rw [getElem!_pos ts j hj] at h
    exact ⟨ts[j], List.getElem_mem hj, text_eq.2 h.symm⟩
set_option maxHeartbeats 800000 in
theorem hastext_any (A : Option Addr) (n c : Nat) (ts : List ByteArray) (B : Nat) (s : ByteArray) (w : World) (hr : KRow xκ w B A n ts) (hn : n ≤ 100000) :
    Calls Tryz.prog 12 #[.slice A n c, .string s] w fun e w' => e = .returned (.bool (has ts s)) ∧ w = w' := by
  have HR := Lib.hid hr
  have HL := Lib.hid (hr.len (by decide))
  clear hr
  go_enter Tryz.func12, Tryz.ntmps12
  go_wp2_with fail
  go_loopw [5] (fun i wr => ∃ j : Nat, j ≤ n ∧ i = .int .i64 j ∧ w = wr ∧ ∀ k, k < j → ts[k]! ≠ s) (fun i _ => n - (intOf i).toNat)
  case atStart => exact ⟨0, Nat.zero_le _, rfl, rfl, fun k hk => by omega⟩
  case round =>
    obtain ⟨j, hj, rfl, rfl, hno⟩ := hrel
    have HNO := Lib.hid hno
    clear hno
    have hj0 : (0 : Int) ≤ (j : Int) := by omega
    by_cases hlt : j < n
    · obtain ⟨b, off, rfl, _, _⟩ := HR.out.2 (by omega)
      have c1 := x_at HR.out hlt
      have hI : (j : Int) < (n : Int) := by omega
      by_cases he : ts[j]! = s
      · have HA : Hid (has ts s = true) := has_at.2 ⟨j, by have := HL.out; omega, he⟩
        rw [he] at c1
        go_wp2_with fail
        go_ret
        exact ⟨by rw [HA.out]; rfl, by first | trivial | rfl⟩
      · have HN2 : Hid (∀ k, k < j + 1 → ts[k]! ≠ s) := fun k hk => by
          by_cases h : k = j
          · subst h; exact he
          · exact HNO.out k (by omega)
        have hB : ((ts[j]!).toList == s.toList) = false := by
          rw [beq_eq_false_iff_ne, ByteArray.toList_eq, ByteArray.toList_eq]
          exact fun h => he (by
            generalize ts[j]! = y at *
            cases y
            cases s
            simp only [ByteArray.mk.injEq]
            exact Array.toList_inj.1 h)
        clear he
        generalize ts[j]! = y at *
        go_wp2_with fail
        go_roundw
        case measure => simp [intOf]; omega
        case rel => exact ⟨j + 1, by omega, by go_num, by first | trivial | rfl, HN2.out⟩
    · obtain rfl : j = n := by omega
      have hI : ¬ (j : Int) < (j : Int) := by omega
      have HA : Hid (has ts s = false) := by
        show has ts s = false
        cases h : has ts s with
        | false => rfl
        | true =>
          obtain ⟨k, hk, e⟩ := has_at.1 h
          exact absurd e (HNO.out k (by have := HL.out; omega))
      go_wp2
      go_ret
      exact ⟨by rw [HA.out]; rfl, by first | trivial | rfl⟩
theorem info_str : (Tryz.prog.info? 9).map (fun i => (i.zero, i.size, i.bytes)) = some (some (.string ⟨#[]⟩), 1, 16) := by kernel_rfl
theorem own_x (w : World) (base : Nat) (e : TypeId) : OwnK xκ w base e none 0 0 [] := ⟨by decide, by simp, .inl ⟨rfl, rfl⟩⟩
/-- A text's own block. -/
theorem blkof {A : Option Addr} {n c r : Nat} (h : (Value.slice A n c).ownBlock = some r) : ∃ a, A = some a ∧ a.block = r := by
  cases A with
  | none => cases h
  | some a => exact ⟨a, rfl, Option.some.inj h⟩
end Ms
end Go.Proofs.YtggplgmjonnliaaGreatDoor
